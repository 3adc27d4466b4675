/- What VolTakes leans on: rows of answers, within, Super, Is; the calls that came in. -/
import Derived.Test.YtoplbmbeadpilaaVfI
namespace Go.Proofs.Ytoplbmbeadpilaa
open Go.RowKit Go.Maps
set_option linter.unusedVariables false

structure Bk where
  at_ : Int
  size : Int
  b : Int
instance : Inhabited Bk := ⟨⟨0, 0, 0⟩⟩
def Bks (w : World) (a : Option Addr) (l : List Bk) : Prop :=
  ∀ i, i < l.length → ((l.getD i default).at_ < 9223372036854775808 ∧ -9223372036854775808 ≤ (l.getD i default).at_ ∧ IsB (l.getD i default).b) ∧ ∃ b off, a = some ⟨b, off, none⟩ ∧ w.cell? ⟨b, off + i * 3, none⟩ = some (.int .i64 (l.getD i default).at_) ∧ w.cell? ⟨b, off + i * 3 + 1, none⟩ = some (.int .i64 (l.getD i default).size) ∧ w.cell? ⟨b, off + i * 3 + 2, none⟩ = some (.int .u8 (l.getD i default).b)
theorem Bks.later {w w' : World} {a : Option Addr} {l : List Bk} (h : Bks w a l) (hb : Below w.heap.size w w') : Bks w' a l := fun i hi => by
  obtain ⟨h1, b, off, ha, c0, c1, c2⟩ := h i hi
  exact ⟨h1, b, off, ha, cell_later hb c0, cell_later hb c1, cell_later hb c2⟩
/-- A row of answers. -/
def BoolR (w : World) (g m : Nat) (G : Nat → Bool) : Prop := ∃ cs, w.heap[g]? = some (.cells cs 4 (0, 0)) ∧ cs.size = m ∧ ∀ k, k < m → cs[k]? = some (.bool (G k))
variable {w w' : World} {g m : Nat} {G G' : Nat → Bool}
theorem BoolR.cell (h : BoolR w g m G) {k : Nat} (hk : k < m) : w.cell? ⟨g, k, none⟩ = some (.bool (G k)) ∧ w.frozen? ⟨g, k, none⟩ = false := by
  obtain ⟨cs, h1, _, h3⟩ := h
  exact ⟨cell_of h1 (h3 k hk), froz_of h1 k⟩
theorem BoolR.lt (h : BoolR w g m G) : g < w.heap.size := let ⟨_, h1, _⟩ := h; (Array.getElem?_eq_some_iff.1 h1).1
theorem BoolR.keep (h : BoolR w g m G) (hk : w'.heap[g]? = w.heap[g]?) : BoolR w' g m G := let ⟨cs, h1, h2, h3⟩ := h; ⟨cs, hk.trans h1, h2, h3⟩
theorem BoolR.congr (h : BoolR w g m G) (e : ∀ k, k < m → G k = G' k) : BoolR w g m G' := let ⟨cs, h1, h2, h3⟩ := h; ⟨cs, h1, h2, fun k hk => by rw [h3 k hk, e k hk]⟩
theorem BoolR.set (h : BoolR w g m G) {k : Nat} (hk : k < m) (b : Bool) (e : ∀ j, j < m → G' j = if j = k then b else G j) : BoolR (w.setCell ⟨g, k, none⟩ (.bool b)) g m G' := by
  obtain ⟨cs, h1, h2, h3⟩ := h
  refine ⟨_, setc h1 k (.bool b), by simp [h2], fun j hj => ?_⟩
  by_cases e2 : j = k
  · subst e2
    rw [Array.getElem?_setIfInBounds_self_of_lt (by omega), e j hj, if_pos rfl]
  · rw [Array.getElem?_setIfInBounds_ne (by omega), h3 j hj, e j hj, if_neg e2]
theorem BoolR.made (w : World) (m : Nat) : BoolR (w.alloc (.cells (madeCells #[.bool false] m) 4)) w.heap.size m (fun _ => false) :=
  ⟨_, alloc_new w _, by rw [size_madeCells], fun k hk => by rw [← Array.getElem?_toList, toList_madeCells_one]; simp [hk]⟩
/-- A number modulo n, from 0 on. -/
def wi (at_ n : Int) : Int := if at_.tmod n < 0 then at_.tmod n + n else at_.tmod n
theorem wi_bd (at_ n : Int) (h : 0 < n) : 0 ≤ wi at_ n ∧ wi at_ n < n := by
  unfold wi
  have h1 := Int.tmod_lt_of_pos at_ h
  have h2 : -n < at_.tmod n := by
    rcases Int.lt_or_le at_ 0 with h3 | h3
    · have h4 := Int.neg_tmod (-at_) n
      rw [Int.neg_neg] at h4
      rw [h4]
      have := Int.tmod_lt_of_pos (-at_) h
      omega
    · have := Int.tmod_nonneg n h3
      omega
  split <;> omega
theorem wrap_wi {x n : Int} (h0 : 0 < n) (hn : n < 1099511627776) (h : x.tmod n < 0) : IntKind.i64.wrap (x.tmod n + n) = x.tmod n + n := by
  have h1 := wi_bd x n h0
  unfold wi at h1
  rw [if_pos h] at h1
  exact IntWalk.i64_in _ (by omega)
set_option maxHeartbeats 400000 in
theorem within_any (x n : Int) (h0 : 0 < n) (hn : n < 1099511627776) (w : World) : Calls Try.prog 7 #[n64 x, n64 n] w fun e w' => e = .returned (n64 (wi x n)) ∧ w' = w := by
  have hne : ¬ (n = 0) := by omega
  have hne' : n ≠ 0 := by omega
  by_cases h : x.tmod n < 0
  · have hw := wrap_wi h0 hn h
    have e : wi x n = x.tmod n + n := by unfold wi; rw [if_pos h]
    rw [e]
    go_enter Try.func7, Try.ntmps7
    go_wp2
    go_ret
    exact ⟨rfl, rfl⟩
  · have e : wi x n = x.tmod n := by unfold wi; rw [if_neg h]
    rw [e]
    go_enter Try.func7, Try.ntmps7
    go_wp2
    go_ret
    exact ⟨rfl, rfl⟩
set_option maxRecDepth 100000 in
set_option maxHeartbeats 1000000 in
theorem Is_same (w : World) (k : Int) (hk : k ≠ 0) : Calls Try.prog 12 #[.iface 49 (n64 k), n64 k] w fun e w' => e = .returned (.bool true) ∧ w' = w := by
  have HC := is_num k k w
  have e : (k == k) = true := by simp
  rw [e] at HC
  replace HC := hid HC
  have hk0 : ¬ k = 0 := hk
  have hk1 : (k == 0) = false := by simpa using hk
  clear e
  go_enter Try.func12, Try.ntmps12
  go_wp2_with fail
  refine HC.out.mono ?_
  rintro e w2 ⟨rfl, rfl⟩
  go_wp2
  go_ret
  exact ⟨rfl, rfl⟩
theorem cnt_from {F : Nat → Bool} {D : Nat} (h : ∀ k, k < D → F k = true) : ∀ m, cnt F 0 m = cnt F D m
  | 0 => rfl
  | m + 1 => by
    rw [cnt, cnt, cnt_from h m]
    by_cases hm : D ≤ m
    · simp [hm]
    · rw [if_neg (by rw [h m (by omega)]; simp), if_neg (by omega)]
theorem flip_flip (F : Nat → Bool) (x : Nat) : flip1 (flip1 F x) x = F := by
  funext j
  unfold flip1
  by_cases e : j = x
  · simp [e]
  · simp [e]
end Go.Proofs.Ytoplbmbeadpilaa
