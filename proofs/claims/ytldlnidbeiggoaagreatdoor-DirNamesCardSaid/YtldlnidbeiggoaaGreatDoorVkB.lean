/- Put, Get of a view. -/
import Derived.Test.YtldlnidbeiggoaaGreatDoorVfB
namespace Go.Proofs.YtldlnidbeiggoaaGreatDoor
open Go.RowKit Go.Maps
set_option linter.unusedVariables false

variable {w w' : World} {pv n q N : Nat} {S S' T : Nat → Prop} {b i : Int} {base : Value} {P : Int → Option (List Int)} {bc : Nat → List Int} {lk : Nat → Bool}
theorem superCells (h : Vw w pv S b i base n P) : w.cell? ⟨pv, 2, none⟩ = some (n64 b) ∧ w.cell? ⟨pv, 3, none⟩ = some (n64 i) ∧ w.cell? ⟨pv, 4, none⟩ = some (n64 1) ∧ w.cell? ⟨pv, 5, none⟩ = some (n64 2) ∧ w.cell? ⟨pv, 6, none⟩ = some (n64 68) ∧ w.cell? ⟨pv, 7, none⟩ = some (n64 69) ∧ w.cell? ⟨pv, 8, none⟩ = some (n64 (planT b)) ∧ w.cell? ⟨pv, 9, none⟩ = some (n64 (planD b i)) := by
  obtain ⟨m, MV, h1, _⟩ := h
  exact ⟨cell_of h1 rfl, cell_of h1 rfl, cell_of h1 rfl, cell_of h1 rfl, cell_of h1 rfl, cell_of h1 rfl, cell_of h1 rfl, cell_of h1 rfl⟩
set_option maxRecDepth 100000 in
set_option maxHeartbeats 1000000 in
theorem has_any (w : World) (x0 x1 x2 x3 x4 x5 x6 x7 k : Int) : Calls Tryz.prog 90 #[.agg #[n64 x0, n64 x1, n64 x2, n64 x3, n64 x4, n64 x5, n64 x6, n64 x7], n64 k] w fun e w' => e = .returned (.bool (decide (0 ≤ k) && decide (k < x0))) ∧ Below w.heap.size w w' := by
  by_cases h : 0 ≤ k
  · by_cases h2 : k < x0
    · have e : (decide (0 ≤ k) && decide (k < x0)) = true := by simp [h, h2]
      rw [e]
      clear e
      go_enter Tryz.func90, Tryz.ntmps90
      go_wp2
      go_ret
      exact ⟨rfl, (Below.refl _ _).alloc (Nat.le_refl _) _⟩
    · have e : (decide (0 ≤ k) && decide (k < x0)) = false := by simp [h2]
      rw [e]
      clear e
      go_enter Tryz.func90, Tryz.ntmps90
      go_wp2
      go_ret
      exact ⟨rfl, (Below.refl _ _).alloc (Nat.le_refl _) _⟩
  · have e : (decide (0 ≤ k) && decide (k < x0)) = false := by simp [h]
    rw [e]
    clear e
    go_enter Tryz.func90, Tryz.ntmps90
    go_wp2
    go_ret
    exact ⟨rfl, (Below.refl _ _).alloc (Nat.le_refl _) _⟩
set_option maxRecDepth 100000 in
set_option maxHeartbeats 1000000 in
theorem Put_ok (h : Vw w pv S b i base n P) (hSb : ∀ g, S g → g < w.heap.size) (hn : n < 900000) (k : Nat) (hk : (k : Int) < b) (hb : b ≤ 100000) (D : Nat → Prop) (l : List Int) (hl : l.length = 512) (a : Option Addr) (c : Nat) (hy : By w D a l) :
    Calls Tryz.prog 56 #[.pointer (some ⟨pv, 0, none⟩), n64 k, .slice a 512 c] w fun e w' => e = .returned .nilIface ∧ ∃ S', Vw w' pv S' b i base (n + 1) (upd P (k : Int) (some l)) ∧ Kp S w S' w' ∧ ∀ g, S' g → g < w'.heap.size := by
  obtain ⟨c2, c3, c4, c5, c6, c7, c8, c9⟩ := superCells h
  have HH := has_any w b i 1 2 68 69 (planT b) (planD b i) k
  have e : (decide (0 ≤ (k : Int)) && decide ((k : Int) < b)) = true := by simp [hk]
  rw [e] at HH
  replace HH := hid HH
  have HV := hid h
  have HY := hid hy
  have HSB := hid hSb
  clear h hy hSb e
  go_enter Tryz.func56, Tryz.ntmps56
  go_wp2_with fail
  refine HH.out.mono ?_
  rintro e w1 ⟨rfl, hb1⟩
  have HB1 := hid hb1
  have HCL := hid (Clone_any w1.drew D a 512 c l hl (by decide) (by decide) (HY.out.later hb1.drew))
  have HLA := hid (fun (W : World) (hbW : Below w1.drew.heap.size w1.drew W) (a' : Option Addr) (c' : Nat) (ho : W.ownsRow w1.drew.heap.size 5 1 (.slice a' 512 c') 512 (u8s l)) => show Calls Tryz.prog 104 #[.pointer (some ⟨pv, 0, none⟩), n64 (k : Int), .slice a' 512 c'] W (fun e w' => e = .returned (.tuple #[]) ∧ Vw w' pv (fun g => S g ∨ w1.drew.heap.size ≤ g) b i base (n + 1) (upd P (k : Int) (some l)) ∧ Mods S W w') by
    obtain ⟨a5, c5, e5, h5, _, hy5⟩ := By.of_owns (S := fun g => w1.drew.heap.size ≤ g) ho HY.out.isB (fun g hg => (owns_lt ho hg).2)
    simp only [Value.slice.injEq, true_and] at e5
    obtain ⟨rfl, rfl⟩ := e5
    have hVW : Vw W pv S b i base n P := HV.out.later (HB1.out.drew.trans (hbW.mono HB1.out.size))
    exact lay_any hVW (by omega) (k : Int) (isI_nat (by omega) (by omega)) _ _ hl _ _ h5 hy5)
  clear hb1 HH c2 c3 c4 c5 c6 c7 c8 c9
  go_wp2_with fail
  go_region_held3 (fun _ => True) (trivial)
    ((first
      | (go_at_call 92; refine HCL.out.mono ?_; rintro e w7 ⟨a7, c7, rfl, _, _, hb7, ho7⟩; have HB7 := hid hb7; have HO7 := hid ho7; clear ho7 hb7 HCL)
      | (go_at_call 104; refine (HLA.out w7 HB7.out a7 c7 HO7.out).mono ?_; rintro e w8 ⟨rfl, hv8, hm8⟩; have HV8 := hid hv8; have HM8 := hid hm8; clear hv8 hm8)))
  go_wp2
  go_ret
  refine ⟨rfl, fun g => (S g ∨ w1.drew.heap.size ≤ g) ∧ g < w8.heap.size, HV8.out.cap, ⟨fun g hg => ?_, ?_⟩, fun g hg => hg.2⟩
  · have e9 : w1.drew.heap.size = w1.heap.size := rfl
    have := HB1.out.size
    rcases hg.1 with h3 | h3
    · exact .inl h3
    · exact .inr (by omega)
  · have hbw : Below w.heap.size w w7 := HB1.out.drew.trans (HB7.out.mono HB1.out.size)
    exact (Mods.of_below hbw).tr HM8.out
set_option maxRecDepth 100000 in
set_option maxHeartbeats 1000000 in
theorem Get_ok (h : Vw w pv S b i (baseV q) n P) (hB : Bs w q T N bc lk) (k : Nat) (hk : k < N) (hkb : (k : Int) < b) (hN : N ≤ 100000) (hlk : lk k = false) (hlen : (ct P bc k).length = 512) :
    Calls Tryz.prog 48 #[.pointer (some ⟨pv, 0, none⟩), n64 k] w fun e w' => ∃ a' c', e = .returned (.tuple #[.slice a' 512 c', .nilIface]) ∧ w'.ownsRow w.heap.size 5 1 (.slice a' 512 c') 512 (u8s (ct P bc k)) ∧ Below w.heap.size w w' := by
  obtain ⟨c2, c3, c4, c5, c6, c7, c8, c9⟩ := superCells h
  have HH := has_any w b i 1 2 68 69 (planT b) (planD b i) k
  have e : (decide (0 ≤ (k : Int)) && decide ((k : Int) < b)) = true := by simp [hkb]
  rw [e] at HH
  replace HH := hid HH
  have HL := hid (fun (W : World) (hb : Below w.heap.size w W) => look_any (h.later hb) (hB.later hb) k hk hN hlk)
  clear h hB e
  go_enter Tryz.func48, Tryz.ntmps48
  go_wp2_with fail
  refine HH.out.mono ?_
  rintro e w1 ⟨rfl, hb1⟩
  have HB1 := hid hb1
  have HL1 := hid (HL.out w1 hb1)
  clear hb1 HH HL c2 c3 c4 c5 c6 c7 c8 c9
  go_wp2_with fail
  refine HL1.out.mono ?_
  rintro e w2 ⟨a2, c2, rfl, hy2, _, hb2⟩
  have HB2 : Hid (Below w.heap.size w w2) := hid (HB1.out.trans (hb2.mono HB1.out.size))
  have HCL := hid (Clone_any w2 _ (some a2) 512 c2 (ct P bc k) hlen (by decide) (by decide) hy2)
  clear hy2 hb2 HL1
  go_wp2_with fail
  refine HCL.out.mono ?_
  rintro e w3 ⟨a3, c3, rfl, _, _, hb3, ho3⟩
  have HO3 := hid ho3
  have HB3 : Hid (Below w.heap.size w w3) := hid (HB2.out.trans (hb3.mono HB2.out.size))
  clear hb3 ho3 HCL
  go_wp2
  go_ret2
  exact ⟨a3, c3, rfl, owns_base HO3.out (fun g hg => Nat.le_trans HB2.out.size (owns_lt HO3.out hg).2), HB3.out⟩
end Go.Proofs.YtldlnidbeiggoaaGreatDoor
