/- Put, Get of a view that refuse. -/
import Derived.Test.YtoplbmbeadpilaaVkP
namespace Go.Proofs.Ytoplbmbeadpilaa
open Go.RowKit Go.Maps
set_option linter.unusedVariables false

variable {w w' : World} {pv n q N : Nat} {S S' T : Nat → Prop} {b i : Int} {base : Value} {P : Int → Option (List Int)} {bc : Nat → List Int} {lk : Nat → Bool}
set_option maxRecDepth 100000 in
set_option maxHeartbeats 1000000 in
theorem Put_far (h : Vw w pv S b i base n P) (k : Int) (hk : ¬ (0 ≤ k ∧ k < b)) (d : Value) :
    Calls Try.prog 8 #[.pointer (some ⟨pv, 0, none⟩), n64 k, d] w fun e w' => e = .returned (.iface 49 (n64 1)) ∧ Below w.heap.size w w' := by
  obtain ⟨c2, c3, c4, c5, c6, c7, c8, c9⟩ := superCells h
  have HH := has_any w b i 1 2 68 69 (planT b) (planD b i) k
  have e : (decide (0 ≤ k) && decide (k < b)) = false := by
    rw [← Bool.decide_and]; exact decide_eq_false hk
  rw [e] at HH
  replace HH := hid HH
  clear h e
  go_enter Try.func8, Try.ntmps8
  go_wp2_with fail
  refine HH.out.mono ?_
  rintro e w1 ⟨rfl, hb1⟩
  have HB1 := hid hb1
  clear hb1 HH c2 c3 c4 c5 c6 c7 c8 c9
  go_wp2
  go_ret
  exact ⟨rfl, HB1.out⟩
set_option maxRecDepth 100000 in
set_option maxHeartbeats 1000000 in
theorem Put_short (h : Vw w pv S b i base n P) (k : Int) (hk : 0 ≤ k ∧ k < b) (a : Option Addr) (m c : Nat) (hm : m ≠ 512) :
    Calls Try.prog 8 #[.pointer (some ⟨pv, 0, none⟩), n64 k, .slice a m c] w fun e w' => e = .returned (.iface 49 (n64 14)) ∧ Below w.heap.size w w' := by
  obtain ⟨c2, c3, c4, c5, c6, c7, c8, c9⟩ := superCells h
  have HH := has_any w b i 1 2 68 69 (planT b) (planD b i) k
  have e : (decide (0 ≤ k) && decide (k < b)) = true := by
    rw [← Bool.decide_and]; exact decide_eq_true hk
  rw [e] at HH
  replace HH := hid HH
  have hm' : ¬ (m : Int) = 512 := by omega
  clear h e
  go_enter Try.func8, Try.ntmps8
  go_wp2_with fail
  refine HH.out.mono ?_
  rintro e w1 ⟨rfl, hb1⟩
  have HB1 := hid hb1
  clear hb1 HH c2 c3 c4 c5 c6 c7 c8 c9
  go_wp2
  go_ret
  exact ⟨rfl, HB1.out⟩
set_option maxRecDepth 100000 in
set_option maxHeartbeats 1000000 in
theorem Get_far (h : Vw w pv S b i base n P) (k : Int) (hk : ¬ (0 ≤ k ∧ k < b)) :
    Calls Try.prog 10 #[.pointer (some ⟨pv, 0, none⟩), n64 k] w fun e w' => e = .returned (.tuple #[.slice none 0 0, .iface 49 (n64 1)]) ∧ Below w.heap.size w w' := by
  obtain ⟨c2, c3, c4, c5, c6, c7, c8, c9⟩ := superCells h
  have HH := has_any w b i 1 2 68 69 (planT b) (planD b i) k
  have e : (decide (0 ≤ k) && decide (k < b)) = false := by
    rw [← Bool.decide_and]; exact decide_eq_false hk
  rw [e] at HH
  replace HH := hid HH
  clear h e
  go_enter Try.func10, Try.ntmps10
  go_wp2_with fail
  refine HH.out.mono ?_
  rintro e w1 ⟨rfl, hb1⟩
  have HB1 := hid hb1
  clear hb1 HH c2 c3 c4 c5 c6 c7 c8 c9
  go_wp2
  go_ret2
  exact ⟨rfl, HB1.out⟩
end Go.Proofs.Ytoplbmbeadpilaa
