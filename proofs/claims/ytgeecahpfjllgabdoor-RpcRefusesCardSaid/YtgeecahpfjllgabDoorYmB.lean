/- A number within; a call that has been made a wrong one. -/
import Derived.Test.YtgeecahpfjllgabDoorYmA
namespace Go.Proofs.YtgeecahpfjllgabDoor
open Go.RowKit Go.Maps
set_option linter.unusedVariables false

def wi (at_ n : Int) : Int := if at_.tmod n < 0 then at_.tmod n + n else at_.tmod n
theorem wi_bd (at_ n : Int) (h : 0 < n) : 0 ≤ wi at_ n ∧ wi at_ n < n := by
  unfold wi
  have h1 := Int.tmod_lt_of_pos at_ h
  have h2 : -n < at_.tmod n := by
    rcases Int.lt_or_le at_ 0 with h3 | h3
    · have h4 := Int.neg_tmod (-at_) n
      rw [Int.neg_neg] at h4
      rw [h4]
      have := Int.tmod_lt_of_pos (-at_) h
      omega
    · have := Int.tmod_nonneg n h3
      omega
  split <;> omega
theorem wrap_wi {x n : Int} (h0 : 0 < n) (hn : n < 1099511627776) (h : x.tmod n < 0) : IntKind.i64.wrap (x.tmod n + n) = x.tmod n + n := by
  have h1 := wi_bd x n h0
  unfold wi at h1
  rw [if_pos h] at h1
  exact IntWalk.i64_in _ (by omega)
set_option maxHeartbeats 400000 in
theorem within17 (x n : Int) (h0 : 0 < n) (hn : n < 1099511627776) (w : World) : Calls Tryd.prog 7 #[.int .i64 x, .int .i64 n] w fun e w' => e = .returned (.int .i64 (wi x n)) ∧ w' = w := by
  have hne : ¬ (n = 0) := by omega
  have hne' : n ≠ 0 := by omega
  by_cases h : x.tmod n < 0
  · have hw := wrap_wi h0 hn h
    have e : wi x n = x.tmod n + n := by unfold wi; rw [if_pos h]
    rw [e]
    go_enter Tryd.func7, Tryd.ntmps7
    go_wp2
    go_ret
    exact ⟨rfl, rfl⟩
  · have e : wi x n = x.tmod n := by unfold wi; rw [if_neg h]
    rw [e]
    go_enter Tryd.func7, Tryd.ntmps7
    go_wp2
    go_ret
    exact ⟨rfl, rfl⟩
/-- A byte of a row of one's own is turned. -/
theorem By.set {w : World} {S : Nat → Prop} {b off : Nat} {l : List Int} (h : By w S (some ⟨b, off, none⟩) l) (i : Nat) (hi : i < l.length) (y : Int) (hy : IsB y) (hf : ∃ cur, w.heap[b]? = some (.cells cur 5 (0, 0))) : By (w.setCell ⟨b, off + i, none⟩ (.int .u8 y)) S (some ⟨b, off, none⟩) (l.set i y) := by
  obtain ⟨cur0, hc0⟩ := hf
  refine ⟨fun x hx => ?_, fun _ => ?_⟩
  · rcases List.mem_or_eq_of_mem_set hx with h1 | h1
    · exact h.1 x h1
    · rw [h1]; exact hy
  · obtain ⟨b', off', cur, fr, e, hs, hh, hc⟩ := h.2 (by omega)
    simp only [Option.some.injEq, Addr.mk.injEq] at e
    obtain ⟨rfl, rfl, _⟩ := e
    rw [hc0] at hh
    simp only [Option.some.injEq, Obj.cells.injEq, true_and] at hh
    obtain ⟨rfl, rfl⟩ := hh
    refine ⟨b, off, _, (0, 0), rfl, hs, setc hc0 (off + i) _, fun j hj => ?_⟩
    rw [List.length_set] at hj
    have hcj := hc j hj
    by_cases hij : i = j
    · subst hij
      have hlt : off + i < cur0.size := by
        rcases Nat.lt_or_ge (off + i) cur0.size with h1 | h1
        · exact h1
        · rw [Array.getElem?_eq_none h1] at hcj; cases hcj
      rw [Array.getElem?_setIfInBounds_self_of_lt hlt]
      simp [List.getD, hj]
    · rw [Array.getElem?_setIfInBounds_ne (by omega), hcj]
      have e : (l.set i y)[j]? = l[j]? := List.getElem?_set_ne hij
      unfold List.getD
      rw [e]
end Go.Proofs.YtgeecahpfjllgabDoor
