/- Workers: has, State, allows; makeReady. -/
import Derived.Test.YtacmdhlemolngaaScD
import Derived.RegionTactic
import Derived.ChangeAlike
import Derived.BigRegion
namespace Go.Proofs.Ytacmdhlemolngaa
open Go.RowKit Go.Maps

instance : Inhabited Wk := ⟨⟨none, 0, 0⟩⟩
def Ab.wk (A : Ab) (x : Int) : Wk := A.ws.getD x.toNat default
def Ab.has (A : Ab) (x : Int) : Bool := decide (0 ≤ x ∧ x < A.ws.length)
theorem Ab.has_lt {A : Ab} {x : Int} (h : A.has x = true) : 0 ≤ x ∧ x.toNat < A.ws.length ∧ ((x.toNat : Nat) : Int) = x := by
  unfold Ab.has at h
  simp at h
  omega
theorem wks_len (l : List Wk) : (wks l).length = l.length * 3 := by
  unfold wks
  induction l with
  | nil => rfl
  | cons k r ih => rw [List.flatMap_cons, List.length_append, ih]; simp [wkC]; omega
theorem wks_get : ∀ (l : List Wk) (i j : Nat), i < l.length → j < 3 → (wks l)[i * 3 + j]? = (wkC (l.getD i default))[j]?
  | k :: r, 0, j, _, hj => by
    unfold wks
    rw [List.flatMap_cons, List.getElem?_append_left (by simp [wkC]; omega)]
    simp
  | k :: r, i + 1, j, hi, hj => by
    have := wks_get r i j (by simpa using hi) hj
    unfold wks at *
    rw [List.flatMap_cons, List.getElem?_append_right (by simp [wkC]; omega)]
    rw [show (wkC k).length = 3 from rfl, show (i + 1) * 3 + j - 3 = i * 3 + j by omega, this]
    rfl
theorem wks_set : ∀ (l : List Wk) (i j : Nat) (u : Value) (k' : Wk), i < l.length → j < 3 → wkC k' = (wkC (l.getD i default)).set j u → (wks l).set (i * 3 + j) u = wks (l.set i k')
  | k :: r, 0, j, u, k', _, hj, hk => by
    unfold wks
    simp only [List.flatMap_cons, List.set_cons_zero]
    rw [show 0 * 3 + j = j by omega, List.set_append_left _ _ (by simp [wkC]; omega), hk]
    rfl
  | k :: r, i + 1, j, u, k', hi, hj, hk => by
    have := wks_set r i j u k' (by simpa using hi) hj (by simpa using hk)
    unfold wks at *
    simp only [List.flatMap_cons, List.set_cons_succ]
    rw [List.set_append_right _ _ (by simp [wkC]; omega)]
    rw [show (wkC k).length = 3 from rfl, show (i + 1) * 3 + j - 3 = i * 3 + j by omega, this]
section
variable {w w' : World} {p n : Nat} {lab : Nat → Own} {A : Ab} {vw vq va : Value} {bs bl : Nat} {MS ML : Int → Option Value}
/-- A worker's cells. -/
theorem ScAt.worker (h : ScAt w p lab A n vw vq va bs bl MS ML) {i : Nat} (hi : i < A.ws.length) : ∃ g c, vw = .slice (some ⟨g, 0, none⟩) A.ws.length c ∧ lab g = .ws ∧ w.cell? ⟨g, i * 3, none⟩ = some (tv (A.ws.getD i default).t) ∧ w.cell? ⟨g, i * 3 + 1, none⟩ = some (.int .i64 (A.ws.getD i default).st) ∧ w.cell? ⟨g, i * 3 + 2, none⟩ = some (.int .i64 (A.ws.getD i default).row) ∧ ∀ j, w.frozen? ⟨g, j, none⟩ = false := by
  obtain ⟨g, c, e, _, _, _, _, hc, hf⟩ := owns_cells h.cw.1 (by omega)
  refine ⟨g, c, e, h.cw.2 g (by rw [e]; rfl), hc _ _ ?_, hc _ _ ?_, hc _ _ ?_, hf⟩
  · have := wks_get A.ws i 0 hi (by omega); simpa [wkC] using this
  · have := wks_get A.ws i 1 hi (by omega); simpa [wkC] using this
  · have := wks_get A.ws i 2 hi (by omega); simpa [wkC] using this
theorem ScAt.len (h : ScAt w p lab A n vw vq va bs bl MS ML) : ∃ a c, vw = .slice a A.ws.length c := owns_slice h.cw.1

set_option maxRecDepth 100000 in
theorem has_any (h : ScAt w p lab A n vw vq va bs bl MS ML) (x : Int) :
    Calls Try.prog 50 #[.pointer (some ⟨p, 0, none⟩), .int .i64 x] w fun e w' => e = .returned (.bool (A.has x)) ∧ w' = w := by
  obtain ⟨c0, _⟩ := h.cells
  obtain ⟨a, c, rfl⟩ := h.len
  unfold Ab.has
  generalize A.ws.length = ln at *
  clear h
  by_cases hx : 0 ≤ x
  · go_enter Try.func50, Try.ntmps50
    go_wp2
    go_ret
    exact ⟨by simp [hx], rfl⟩
  · go_enter Try.func50, Try.ntmps50
    go_wp2
    go_ret
    exact ⟨by simp; omega, rfl⟩
def stateR (A : Ab) (x : Int) : Value := if A.has x then .tuple #[.int .i64 (A.wk x).st, .int .i64 0] else .tuple #[.int .i64 0, .int .i64 2]
set_option maxRecDepth 100000 in
theorem State_at (h : ScAt w p lab A n vw vq va bs bl MS ML) (x : Int) :
    Calls Try.prog 22 #[.pointer (some ⟨p, 0, none⟩), .int .i64 x] w fun e w' => e = .returned (stateR A x) ∧ w' = w := by
  have hcon := hid (has_any h x)
  unfold stateR
  cases hx : A.has x with
  | false =>
    rw [hx] at hcon
    clear hx
    go_enter Try.func22, Try.ntmps22
    go_wp2_with (go_at_call 50; refine hcon.out.mono ?_; rintro e w1 ⟨rfl, hw1⟩; rw [hw1]; clear hw1)
    go_ret2
    exact ⟨rfl, rfl⟩
  | true =>
    rw [hx] at hcon
    obtain ⟨h1, h2, h3⟩ := Ab.has_lt hx
    obtain ⟨c0, _⟩ := h.cells
    obtain ⟨g, c, rfl, _, _, hc1, _⟩ := h.worker h2
    unfold Ab.wk
    have h4 : x < (A.ws.length : Int) := by omega
    generalize (A.ws.getD x.toNat default).st = st at *
    generalize A.ws.length = ln at *
    clear hx h
    go_enter Try.func22, Try.ntmps22
    go_wp2_with (go_at_call 50; refine hcon.out.mono ?_; rintro e w1 ⟨rfl, hw1⟩; rw [hw1]; clear hw1)
    go_ret2
    exact ⟨rfl, rfl⟩
/-- What a state allows: 0: to wait; 1: to end. -/
def allowR (A : Ab) (x what : Int) : Int := if A.has x then (if (A.wk x).st = 1 then 0 else if (A.wk x).st = 2 ∨ (A.wk x).st = 3 ∨ (A.wk x).st = 4 then (if what = 0 then 8 else 0) else 2) else 2
set_option maxRecDepth 100000 in
set_option maxHeartbeats 1000000 in
theorem allows_any (h : ScAt w p lab A n vw vq va bs bl MS ML) (x what : Int) :
    Calls Try.prog 51 #[.pointer (some ⟨p, 0, none⟩), .int .i64 x, .int .i64 what] w fun e w' => e = .returned (.int .i64 (allowR A x what)) ∧ w' = w := by
  have hcon := hid (has_any h x)
  unfold allowR
  cases hx : A.has x with
  | false =>
    rw [hx] at hcon
    clear hx
    go_enter Try.func51, Try.ntmps51
    go_wp2_with (go_at_call 50; refine hcon.out.mono ?_; rintro e w1 ⟨rfl, hw1⟩; rw [hw1]; clear hw1)
    go_ret
    exact ⟨rfl, rfl⟩
  | true =>
    rw [hx] at hcon
    obtain ⟨h1, h2, h3⟩ := Ab.has_lt hx
    obtain ⟨c0, _⟩ := h.cells
    obtain ⟨g, c, rfl, _, _, hc1, _⟩ := h.worker h2
    unfold Ab.wk
    have h4 : x < (A.ws.length : Int) := by omega
    generalize (A.ws.getD x.toNat default).st = st at *
    generalize A.ws.length = ln at *
    clear hx h
    by_cases s1 : st = 1
    · subst s1
      go_enter Try.func51, Try.ntmps51
      go_wp2_with (go_at_call 50; refine hcon.out.mono ?_; rintro e w1 ⟨rfl, hw1⟩; rw [hw1]; clear hw1)
      go_ret
      exact ⟨rfl, rfl⟩
    · by_cases s2 : st = 2 ∨ st = 3 ∨ st = 4
      · by_cases hw : what = 0
        · subst hw
          rcases s2 with rfl | rfl | rfl
          all_goals
            go_enter Try.func51, Try.ntmps51
            go_wp2_with (go_at_call 50; refine hcon.out.mono ?_; rintro e w1 ⟨rfl, hw1⟩; rw [hw1]; clear hw1)
            go_ret
            exact ⟨rfl, rfl⟩
        · rcases s2 with rfl | rfl | rfl
          all_goals
            go_enter Try.func51, Try.ntmps51
            go_wp2_with (go_at_call 50; refine hcon.out.mono ?_; rintro e w1 ⟨rfl, hw1⟩; rw [hw1]; clear hw1)
            go_ret
            exact ⟨by simp, rfl⟩
      · have n2 : ¬ st = 2 := fun e => s2 (.inl e)
        have n3 : ¬ st = 3 := fun e => s2 (.inr (.inl e))
        have n4 : ¬ st = 4 := fun e => s2 (.inr (.inr e))
        clear s2
        go_enter Try.func51, Try.ntmps51
        go_wp2_with (go_at_call 50; refine hcon.out.mono ?_; rintro e w1 ⟨rfl, hw1⟩; rw [hw1]; clear hw1)
        go_ret
        exact ⟨by simp, rfl⟩
end
end Go.Proofs.Ytacmdhlemolngaa
