/- VbA, VbB in one text. -/
import Derived.Test.YtaplmlldmhdhoaaGreatDoorVdS
import Derived.Deep.RegionWith
import Derived.Deep.CutBlock
import Derived.Deep.DeepCutAuto
import Derived.Deep.RegionHeld3
/- Plan: the program's and the document's. -/
namespace Go.Proofs.YtaplmlldmhdhoaaGreatDoor
open Go.RowKit Go.Maps
set_option linter.unusedVariables false

theorem results_ct {fn : Func} {t u : Tmp} {ty : TypeId} (h : fn.results = #[.cell t ty, .tmp u]) (tmps : Array Value) (w : World) (g : Nat) (cs : Array Value) (t' : TypeId) (fs : _) (hp : tmps.getD t undef = .pointer (some ⟨g, 0, none⟩))
    (hg : w.heap[g]? = some (.cells cs t' (0, 0))) (hu : Tryz.prog.underlying ty = some (.struct fs)) (hi : (Tryz.prog.info? ty).map (·.size) = some cs.size) :
    (results fn tmps).run Tryz.prog w = .ok (.tuple #[.agg cs, tmps.getD u undef]) w := by
  have hl := run_loadVar_row (P := Tryz.prog) w g t' ty cs (0, 0) _ hg hu rfl hi
  have hp' : tmps[t]?.getD undef = .pointer (some ⟨g, 0, none⟩) := by simpa using hp
  simp [results, h, hp', asAddr, hl]
theorem results_c {fn : Func} {t : Tmp} {ty : TypeId} (h : fn.results = #[.cell t ty]) (tmps : Array Value) (w : World) (g : Nat) (cs : Array Value) (t' : TypeId) (fs : _) (hp : tmps.getD t undef = .pointer (some ⟨g, 0, none⟩))
    (hg : w.heap[g]? = some (.cells cs t' (0, 0))) (hu : Tryz.prog.underlying ty = some (.struct fs)) (hi : (Tryz.prog.info? ty).map (·.size) = some cs.size) :
    (results fn tmps).run Tryz.prog w = .ok (.agg cs) w := by
  have hl := run_loadVar_row (P := Tryz.prog) w g t' ty cs (0, 0) _ hg hu rfl hi
  have hp' : tmps[t]?.getD undef = .pointer (some ⟨g, 0, none⟩) := by simpa using hp
  simp [results, h, hp', asAddr, hl]
def set8 (w : World) (g : Nat) (a0 a1 a2 a3 a4 a5 a6 a7 : Value) : World := (((((((w.setCell ⟨g, 0, none⟩ a0).setCell ⟨g, 1, none⟩ a1).setCell ⟨g, 2, none⟩ a2).setCell ⟨g, 3, none⟩ a3).setCell ⟨g, 4, none⟩ a4).setCell ⟨g, 5, none⟩ a5).setCell ⟨g, 6, none⟩ a6).setCell ⟨g, 7, none⟩ a7
theorem set8_heap {w : World} {g : Nat} {z0 z1 z2 z3 z4 z5 z6 z7 : Value} {t : TypeId} (h : w.heap[g]? = some (.cells #[z0, z1, z2, z3, z4, z5, z6, z7] t (0, 0))) (a0 a1 a2 a3 a4 a5 a6 a7 : Value) : (set8 w g a0 a1 a2 a3 a4 a5 a6 a7).heap[g]? = some (.cells #[a0, a1, a2, a3, a4, a5, a6, a7] t (0, 0)) := by
  unfold set8
  obtain ⟨w0, e0⟩ : ∃ x, x = w.setCell ⟨g, 0, none⟩ a0 := ⟨_, rfl⟩
  have k0 : w0.heap[g]? = some (.cells #[a0, z1, z2, z3, z4, z5, z6, z7] t (0, 0)) := by rw [e0]; exact setc h 0 a0
  rw [← e0]
  obtain ⟨w1, e1⟩ : ∃ x, x = w0.setCell ⟨g, 1, none⟩ a1 := ⟨_, rfl⟩
  have k1 : w1.heap[g]? = some (.cells #[a0, a1, z2, z3, z4, z5, z6, z7] t (0, 0)) := by rw [e1]; exact setc k0 1 a1
  rw [← e1]
  obtain ⟨w2, e2⟩ : ∃ x, x = w1.setCell ⟨g, 2, none⟩ a2 := ⟨_, rfl⟩
  have k2 : w2.heap[g]? = some (.cells #[a0, a1, a2, z3, z4, z5, z6, z7] t (0, 0)) := by rw [e2]; exact setc k1 2 a2
  rw [← e2]
  obtain ⟨w3, e3⟩ : ∃ x, x = w2.setCell ⟨g, 3, none⟩ a3 := ⟨_, rfl⟩
  have k3 : w3.heap[g]? = some (.cells #[a0, a1, a2, a3, z4, z5, z6, z7] t (0, 0)) := by rw [e3]; exact setc k2 3 a3
  rw [← e3]
  obtain ⟨w4, e4⟩ : ∃ x, x = w3.setCell ⟨g, 4, none⟩ a4 := ⟨_, rfl⟩
  have k4 : w4.heap[g]? = some (.cells #[a0, a1, a2, a3, a4, z5, z6, z7] t (0, 0)) := by rw [e4]; exact setc k3 4 a4
  rw [← e4]
  obtain ⟨w5, e5⟩ : ∃ x, x = w4.setCell ⟨g, 5, none⟩ a5 := ⟨_, rfl⟩
  have k5 : w5.heap[g]? = some (.cells #[a0, a1, a2, a3, a4, a5, z6, z7] t (0, 0)) := by rw [e5]; exact setc k4 5 a5
  rw [← e5]
  obtain ⟨w6, e6⟩ : ∃ x, x = w5.setCell ⟨g, 6, none⟩ a6 := ⟨_, rfl⟩
  have k6 : w6.heap[g]? = some (.cells #[a0, a1, a2, a3, a4, a5, a6, z7] t (0, 0)) := by rw [e6]; exact setc k5 6 a6
  rw [← e6]
  obtain ⟨w7, e7⟩ : ∃ x, x = w6.setCell ⟨g, 7, none⟩ a7 := ⟨_, rfl⟩
  have k7 : w7.heap[g]? = some (.cells #[a0, a1, a2, a3, a4, a5, a6, a7] t (0, 0)) := by rw [e7]; exact setc k6 7 a7
  rw [← e7]
  exact k7
theorem cells8 {w : World} {g : Nat} {z0 z1 z2 z3 z4 z5 z6 z7 : Value} {t : TypeId} (h : w.heap[g]? = some (.cells #[z0, z1, z2, z3, z4, z5, z6, z7] t (0, 0))) : w.cell? ⟨g, 0, none⟩ = some z0 ∧ w.cell? ⟨g, 1, none⟩ = some z1 ∧ w.cell? ⟨g, 2, none⟩ = some z2 ∧ w.cell? ⟨g, 3, none⟩ = some z3 ∧ w.cell? ⟨g, 4, none⟩ = some z4 ∧ w.cell? ⟨g, 5, none⟩ = some z5 ∧ w.cell? ⟨g, 6, none⟩ = some z6 ∧ w.cell? ⟨g, 7, none⟩ = some z7 :=
  ⟨cell_of h rfl, cell_of h rfl, cell_of h rfl, cell_of h rfl, cell_of h rfl, cell_of h rfl, cell_of h rfl, cell_of h rfl⟩
theorem cells8a {w : World} {g : Nat} {z0 z1 z2 z3 z4 z5 z6 z7 : Value} {t : TypeId} (h : w.heap[g]? = some (.cells #[z0, z1, z2, z3, z4, z5, z6, z7] t (0, 0))) : (∀ o, (w.alloc o).heap[g]? = some (.cells #[z0, z1, z2, z3, z4, z5, z6, z7] t (0, 0))) ∧ (∀ o k, (w.alloc o).frozen? ⟨g, k, none⟩ = false) ∧ (∀ o, (w.alloc o).cell? ⟨g, 0, none⟩ = some z0) ∧ (∀ o, (w.alloc o).cell? ⟨g, 1, none⟩ = some z1) ∧ (∀ o, (w.alloc o).cell? ⟨g, 2, none⟩ = some z2) ∧ (∀ o, (w.alloc o).cell? ⟨g, 3, none⟩ = some z3) ∧ (∀ o, (w.alloc o).cell? ⟨g, 4, none⟩ = some z4) ∧ (∀ o, (w.alloc o).cell? ⟨g, 5, none⟩ = some z5) ∧ (∀ o, (w.alloc o).cell? ⟨g, 6, none⟩ = some z6) ∧ (∀ o, (w.alloc o).cell? ⟨g, 7, none⟩ = some z7) := by
  have k : ∀ o, (w.alloc o).heap[g]? = some (.cells #[z0, z1, z2, z3, z4, z5, z6, z7] t (0, 0)) := fun o => (((Below.refl w.heap.size w).alloc (Nat.le_refl _) o).block g (Array.getElem?_eq_some_iff.1 h).1).trans h
  exact ⟨k, fun o j => froz_of (k o) j, fun o => cell_of (k o) rfl, fun o => cell_of (k o) rfl, fun o => cell_of (k o) rfl, fun o => cell_of (k o) rfl, fun o => cell_of (k o) rfl, fun o => cell_of (k o) rfl, fun o => cell_of (k o) rfl, fun o => cell_of (k o) rfl⟩
theorem set8_below {B : Nat} {w0 w : World} (h : Below B w0 w) {g : Nat} (hg : B ≤ g) (a0 a1 a2 a3 a4 a5 a6 a7 : Value) : Below B w0 (set8 w g a0 a1 a2 a3 a4 a5 a6 a7) := by
  unfold set8
  exact (((((((h.setCell hg _).setCell hg _).setCell hg _).setCell hg _).setCell hg _).setCell hg _).setCell hg _).setCell hg _
theorem drew_heap (w : World) : w.drew.heap = w.heap := rfl
theorem set8_end {w : World} {g : Nat} {z0 z1 z2 z3 z4 z5 z6 z7 : Value} {t : TypeId} (h : w.heap[g]? = some (.cells #[z0, z1, z2, z3, z4, z5, z6, z7] t (0, 0))) (a0 a1 a2 a3 a4 a5 a6 a7 : Value) : ((((((((w.setCell ⟨g, 0, none⟩ a0).setCell ⟨g, 1, none⟩ a1).setCell ⟨g, 2, none⟩ a2).setCell ⟨g, 3, none⟩ a3).setCell ⟨g, 4, none⟩ a4).setCell ⟨g, 5, none⟩ a5).setCell ⟨g, 6, none⟩ a6).setCell ⟨g, 7, none⟩ a7).drew.heap[g]? = some (.cells #[a0, a1, a2, a3, a4, a5, a6, a7] t (0, 0)) := by
  have k := set8_heap h a0 a1 a2 a3 a4 a5 a6 a7
  unfold set8 at k
  rw [drew_heap]
  exact k
theorem set8_endB {B : Nat} {w0 w : World} (h : Below B w0 w) {g : Nat} (hg : B ≤ g) (a0 a1 a2 a3 a4 a5 a6 a7 : Value) : Below B w0 ((((((((w.setCell ⟨g, 0, none⟩ a0).setCell ⟨g, 1, none⟩ a1).setCell ⟨g, 2, none⟩ a2).setCell ⟨g, 3, none⟩ a3).setCell ⟨g, 4, none⟩ a4).setCell ⟨g, 5, none⟩ a5).setCell ⟨g, 6, none⟩ a6).setCell ⟨g, 7, none⟩ a7).drew := by
  have k := set8_below h hg a0 a1 a2 a3 a4 a5 a6 a7
  unfold set8 at k
  exact k.drew
theorem set8_size (w : World) (g : Nat) (a0 a1 a2 a3 a4 a5 a6 a7 : Value) : (set8 w g a0 a1 a2 a3 a4 a5 a6 a7).heap.size = w.heap.size := by simp [set8, World.setCell]
theorem sizeSup : (Tryz.prog.info? 115).map (·.size) = some 8 := by kernel_rfl
theorem sizeRSup : (Tryz.prog.info? 165).map (·.size) = some 8 := by kernel_rfl

set_option maxHeartbeats 400000 in
theorem rowsFor_any (n : Int) (h0 : 0 ≤ n) (h1 : n < 1099511627776) (w : World) : Calls Tryz.prog 78 #[n64 n] w fun e w' => e = .returned (n64 ((n + 4095) / 4096)) ∧ w' = w := by
  have e : (n + 4095).tdiv 4096 = (n + 4095) / 4096 := Int.tdiv_eq_ediv_of_nonneg (by omega)
  have hw : IntKind.i64.wrap (n + 4096) = n + 4096 := IntWalk.i64_in _ (by omega)
  have hw2 : IntKind.i64.wrap (n + 4096 - 1) = n + 4095 := by rw [IntWalk.i64_in _ (by omega)]; omega
  go_enter Tryz.func78, Tryz.ntmps78
  go_wp2
  go_ret
  exact ⟨rfl, rfl⟩

set_option maxRecDepth 100000 in
set_option maxHeartbeats 1000000 in
theorem Plan_arg (b i : Int) (w : World) (h : b < 128 ∨ 65536 < b ∨ i < 8 ∨ 4096 < i ∨ i % 4 ≠ 0) : Calls Tryz.prog 52 #[n64 b, n64 i] w fun e w' => e = .returned (.tuple #[.agg sup0, n64 1]) ∧ Below w.heap.size w w' := by
  obtain ⟨W, hW⟩ : ∃ W, W = w.alloc (.cells sup0 115) := ⟨_, rfl⟩
  have hb1 : Below w.heap.size w W := by rw [hW]; exact (Below.refl _ _).alloc (Nat.le_refl _) _
  have hh : W.heap[w.heap.size]? = some (.cells sup0 115 (0, 0)) := by rw [hW]; exact alloc_new w _
  have hf := fun k => froz_of hh k
  have HH := hid hh
  have HB := hid hb1
  unfold sup0 at hh hW
  obtain ⟨c0, c1, c2, c3, c4, c5, c6, c7⟩ := cells8 hh
  clear hb1 hh
  go_enter Tryz.func52, Tryz.ntmps52
  by_cases h1 : b < 128
  · clear h
    go_wp2_with (rw [← hW]; clear hW)
    exact bodyPost_ret (results_ct rfl _ _ _ _ _ _ rfl (set8_heap HH.out _ _ _ _ _ _ _ _) Tryz.underlying115 sizeSup) rfl ⟨rfl, set8_below HB.out (Nat.le_refl _) _ _ _ _ _ _ _ _⟩
  by_cases h2 : 65536 < b
  · clear h
    go_wp2_with (rw [← hW]; clear hW)
    exact bodyPost_ret (results_ct rfl _ _ _ _ _ _ rfl (set8_heap HH.out _ _ _ _ _ _ _ _) Tryz.underlying115 sizeSup) rfl ⟨rfl, set8_below HB.out (Nat.le_refl _) _ _ _ _ _ _ _ _⟩
  by_cases h3 : i < 8
  · clear h
    go_wp2_with (rw [← hW]; clear hW)
    exact bodyPost_ret (results_ct rfl _ _ _ _ _ _ rfl (set8_heap HH.out _ _ _ _ _ _ _ _) Tryz.underlying115 sizeSup) rfl ⟨rfl, set8_below HB.out (Nat.le_refl _) _ _ _ _ _ _ _ _⟩
  by_cases h4 : 4096 < i
  · clear h
    go_wp2_with (rw [← hW]; clear hW)
    exact bodyPost_ret (results_ct rfl _ _ _ _ _ _ rfl (set8_heap HH.out _ _ _ _ _ _ _ _) Tryz.underlying115 sizeSup) rfl ⟨rfl, set8_below HB.out (Nat.le_refl _) _ _ _ _ _ _ _ _⟩
  have h5 : ¬ (i % 4 = 0) := by omega
  clear h
  go_wp2_with (rw [← hW]; clear hW)
  exact bodyPost_ret (results_ct rfl _ _ _ _ _ _ rfl (set8_heap HH.out _ _ _ _ _ _ _ _) Tryz.underlying115 sizeSup) rfl ⟨rfl, set8_below HB.out (Nat.le_refl _) _ _ _ _ _ _ _ _⟩
set_option maxRecDepth 100000 in
set_option maxHeartbeats 1000000 in
theorem Plan_in (b i : Int) (w : World) (b0 : 128 ≤ b) (b1 : b ≤ 65536) (i0 : 8 ≤ i) (i1 : i ≤ 4096) (i4 : i % 4 = 0) : Calls Tryz.prog 52 #[n64 b, n64 i] w fun e w' => e = .returned (.tuple #[.agg (supA b i), n64 (planE b i)]) ∧ Below w.heap.size w w' := by
  obtain ⟨W, hW⟩ : ∃ W, W = w.alloc (.cells sup0 115) := ⟨_, rfl⟩
  have hb1 : Below w.heap.size w W := by rw [hW]; exact (Below.refl _ _).alloc (Nat.le_refl _) _
  have hh : W.heap[w.heap.size]? = some (.cells sup0 115 (0, 0)) := by rw [hW]; exact alloc_new w _
  have HB := hid hb1
  unfold sup0 at hh hW
  obtain ⟨hh2, hf, c0, c1, c2, c3, c4, c5, c6, c7⟩ := cells8a hh
  have HH := hid hh2
  have HR := hid (rowsFor_any b (by omega) (by omega))
  clear hb1 hh hh2
  obtain ⟨r, hr⟩ : ∃ r, r = (b + 4095) / 4096 := ⟨_, rfl⟩
  rw [← hr] at HR
  have r0 : 0 ≤ r := by omega
  have r1 : r ≤ 16 := by omega
  have HT : Hid (planT b = 69 + r) := hid (by unfold planT; rw [hr])
  clear hr
  have hw1 : IntKind.i64.wrap (69 + r) = 69 + r := IntWalk.i64_in _ (by omega)
  have hw2 : IntKind.i64.wrap (69 + r + i / 4) = 69 + r + i / 4 := IntWalk.i64_in _ (by omega)
  have hw3 : IntKind.i64.wrap (69 + r + i / 4 + 8) = 69 + r + i / 4 + 8 := IntWalk.i64_in _ (by omega)
  have h1 : ¬ b < 128 := by omega
  have h2 : ¬ 65536 < b := by omega
  have h3 : ¬ i < 8 := by omega
  have h4 : ¬ 4096 < i := by omega
  have h5 : decide (b < 128) = false := by simpa using h1
  by_cases hd : b < 69 + r + i / 4 + 8
  · have HE : Hid (planE b i = 14) := hid (by
      rcases planE_cases b i with ⟨_, h'⟩ | ⟨_, _, _, _, _, ⟨e, _⟩ | ⟨_, h6⟩⟩
      · omega
      · exact e
      · unfold planD at h6; rw [HT.out] at h6; omega)
    have HS : Hid (supA b i = sup0) := hid (supA_no (by rw [HE.out]; decide))
    rw [HE.out, HS.out]
    go_enter Tryz.func52, Tryz.ntmps52
    go_wp2_with (rw [← hW]; clear hW)
    go_region_with (go_at_call 78; refine (HR.out _).mono ?_; rintro e w' ⟨rfl, rfl⟩)
    all_goals
      go_wp2
      exact bodyPost_ret (results_ct rfl _ _ _ _ _ _ rfl (set8_end (HH.out _) _ _ _ _ _ _ _ _) Tryz.underlying115 sizeSup) rfl ⟨rfl, set8_endB (HB.out.alloc HB.out.size _) (Nat.le_refl _) _ _ _ _ _ _ _ _⟩
  · have HE : Hid (planE b i = 0) := hid (by
      rcases planE_cases b i with ⟨_, h'⟩ | ⟨_, _, _, _, _, ⟨e, h6⟩ | ⟨e, h6⟩⟩
      · omega
      · unfold planD at h6; rw [HT.out] at h6; omega
      · exact e)
    have HS : Hid (supA b i = #[n64 b, n64 i, n64 1, n64 2, n64 68, n64 69, n64 (69 + r), n64 (69 + r + i / 4)]) := hid (by rw [supA_ok HE.out]; unfold supC planD; rw [HT.out])
    rw [HE.out, HS.out]
    go_enter Tryz.func52, Tryz.ntmps52
    go_wp2_with (rw [← hW]; clear hW)
    go_region_with (go_at_call 78; refine (HR.out _).mono ?_; rintro e w' ⟨rfl, rfl⟩)
    all_goals
      go_wp2
      exact bodyPost_ret (results_ct rfl _ _ _ _ _ _ rfl (set8_end (HH.out _) _ _ _ _ _ _ _ _) Tryz.underlying115 sizeSup) rfl ⟨rfl, set8_endB (HB.out.alloc HB.out.size _) (Nat.le_refl _) _ _ _ _ _ _ _ _⟩
/-- Plan, whatever the numbers. -/
theorem Plan_any (b i : Int) (w : World) : Calls Tryz.prog 52 #[n64 b, n64 i] w fun e w' => e = .returned (.tuple #[.agg (supA b i), n64 (planE b i)]) ∧ Below w.heap.size w w' := by
  by_cases h : b < 128 ∨ 65536 < b ∨ i < 8 ∨ 4096 < i ∨ i % 4 ≠ 0
  · have e : planE b i = 1 := by unfold planE; rw [if_pos h]
    rw [supA_no (by rw [e]; decide), e]
    exact Plan_arg b i w h
  · exact Plan_in b i w (by omega) (by omega) (by omega) (by omega) (by omega)

set_option maxRecDepth 100000 in
set_option maxHeartbeats 2000000 in
theorem rPlan_any (b i : Int) (w : World) : Calls Tryz.prog 72 #[n64 b, n64 i] w fun e w' => e = .returned (.tuple #[.agg (supA b i), n64 (planE b i)]) ∧ Below w.heap.size w w' := by
  obtain ⟨W, hW⟩ : ∃ W, W = w.alloc (.cells sup0 165) := ⟨_, rfl⟩
  have hb1 : Below w.heap.size w W := by rw [hW]; exact (Below.refl _ _).alloc (Nat.le_refl _) _
  have hh : W.heap[w.heap.size]? = some (.cells sup0 165 (0, 0)) := by rw [hW]; exact alloc_new w _
  have HB := hid hb1
  unfold sup0 at hh hW
  obtain ⟨hh2, hf, c0, c1, c2, c3, c4, c5, c6, c7⟩ := cells8a hh
  obtain ⟨d0, d1, d2, d3, d4, d5, d6, d7⟩ := cells8 hh
  have hfw := fun k => froz_of hh k
  have HH := hid hh2
  have HH1 := hid hh
  clear hb1 hh hh2
  by_cases h : b < 128 ∨ 65536 < b ∨ i < 8 ∨ 4096 < i ∨ i % 4 ≠ 0
  · have e : planE b i = 1 := by unfold planE; rw [if_pos h]
    rw [supA_no (by rw [e]; decide), e]
    clear e
    go_enter Tryz.func72, Tryz.ntmps72
    by_cases h1 : b < 128
    · clear h
      go_wp2_with (rw [← hW]; clear hW)
      exact bodyPost_ret (results_ct rfl _ _ _ _ _ _ rfl (set8_heap HH1.out _ _ _ _ _ _ _ _) Tryz.underlying165 sizeRSup) rfl ⟨rfl, set8_below HB.out (Nat.le_refl _) _ _ _ _ _ _ _ _⟩
    by_cases h2 : 65536 < b
    · clear h
      go_wp2_with (rw [← hW]; clear hW)
      exact bodyPost_ret (results_ct rfl _ _ _ _ _ _ rfl (set8_heap HH1.out _ _ _ _ _ _ _ _) Tryz.underlying165 sizeRSup) rfl ⟨rfl, set8_below HB.out (Nat.le_refl _) _ _ _ _ _ _ _ _⟩
    by_cases h3 : i < 8
    · clear h
      go_wp2_with (rw [← hW]; clear hW)
      exact bodyPost_ret (results_ct rfl _ _ _ _ _ _ rfl (set8_heap HH1.out _ _ _ _ _ _ _ _) Tryz.underlying165 sizeRSup) rfl ⟨rfl, set8_below HB.out (Nat.le_refl _) _ _ _ _ _ _ _ _⟩
    by_cases h4 : 4096 < i
    · clear h
      go_wp2_with (rw [← hW]; clear hW)
      exact bodyPost_ret (results_ct rfl _ _ _ _ _ _ rfl (set8_heap HH1.out _ _ _ _ _ _ _ _) Tryz.underlying165 sizeRSup) rfl ⟨rfl, set8_below HB.out (Nat.le_refl _) _ _ _ _ _ _ _ _⟩
    have h5 : ¬ (i % 4 = 0) := by omega
    clear h
    go_wp2_with (rw [← hW]; clear hW)
    exact bodyPost_ret (results_ct rfl _ _ _ _ _ _ rfl (set8_heap HH1.out _ _ _ _ _ _ _ _) Tryz.underlying165 sizeRSup) rfl ⟨rfl, set8_below HB.out (Nat.le_refl _) _ _ _ _ _ _ _ _⟩
  · have h1 : ¬ b < 128 := by omega
    have h2 : ¬ 65536 < b := by omega
    have h3 : ¬ i < 8 := by omega
    have h4 : ¬ 4096 < i := by omega
    have i4 : i % 4 = 0 := by omega
    have h5 : decide (b < 128) = false := by simpa using h1
    clear h
    obtain ⟨r, hr⟩ : ∃ r, r = (b + 4095) / 4096 := ⟨_, rfl⟩
    have r0 : 0 ≤ r := by omega
    have r1 : r ≤ 16 := by omega
    have HT : Hid (planT b = 69 + r) := hid (by unfold planT; rw [hr])
    have hw0 : IntKind.i64.wrap (b + 4095) = b + 4095 := IntWalk.i64_in _ (by omega)
    have hr' := hr.symm
    have hw1 : IntKind.i64.wrap (69 + r) = 69 + r := IntWalk.i64_in _ (by omega)
    have hw2 : IntKind.i64.wrap (69 + r + i / 4) = 69 + r + i / 4 := IntWalk.i64_in _ (by omega)
    have hw3 : IntKind.i64.wrap (69 + r + i / 4 + 8) = 69 + r + i / 4 + 8 := IntWalk.i64_in _ (by omega)
    clear hr
    by_cases hd : b < 69 + r + i / 4 + 8
    · have HE : Hid (planE b i = 14) := hid (by
        rcases planE_cases b i with ⟨_, h'⟩ | ⟨_, _, _, _, _, ⟨e, _⟩ | ⟨_, h6⟩⟩
        · omega
        · exact e
        · unfold planD at h6; rw [HT.out] at h6; omega)
      have HS : Hid (supA b i = sup0) := hid (supA_no (by rw [HE.out]; decide))
      rw [HE.out, HS.out]
      go_enter Tryz.func72, Tryz.ntmps72
      go_wp2_with (rw [← hW]; clear hW)
      exact bodyPost_ret (results_ct rfl _ _ _ _ _ _ rfl (set8_heap (HH.out _) _ _ _ _ _ _ _ _) Tryz.underlying165 sizeRSup) rfl ⟨rfl, (set8_below (HB.out.alloc HB.out.size _) (Nat.le_refl _) _ _ _ _ _ _ _ _)⟩
    · have HE : Hid (planE b i = 0) := hid (by
        rcases planE_cases b i with ⟨_, h'⟩ | ⟨_, _, _, _, _, ⟨e, h6⟩ | ⟨e, h6⟩⟩
        · omega
        · unfold planD at h6; rw [HT.out] at h6; omega
        · exact e)
      have HS : Hid (supA b i = #[n64 b, n64 i, n64 1, n64 2, n64 68, n64 69, n64 (69 + r), n64 (69 + r + i / 4)]) := hid (by rw [supA_ok HE.out]; unfold supC planD; rw [HT.out])
      rw [HE.out, HS.out]
      go_enter Tryz.func72, Tryz.ntmps72
      go_wp2_with (rw [← hW]; clear hW)
      exact bodyPost_ret (results_ct rfl _ _ _ _ _ _ rfl (set8_heap (HH.out _) _ _ _ _ _ _ _ _) Tryz.underlying165 sizeRSup) rfl ⟨rfl, (set8_below (HB.out.alloc HB.out.size _) (Nat.le_refl _) _ _ _ _ _ _ _ _)⟩
end Go.Proofs.YtaplmlldmhdhoaaGreatDoor

/- The document's Encode. -/
namespace Go.Proofs.YtaplmlldmhdhoaaGreatDoor
open Go.RowKit Go.Maps
set_option linter.unusedVariables false

set_option maxRecDepth 100000 in
set_option maxHeartbeats 1000000 in
theorem rEncode_any (b i : Int) (hp : PlanOk b i) (w : World) : Calls Tryz.prog 73 #[.agg (supC b i)] w fun e w' => ∃ a c, e = .returned (.slice a 512 c) ∧ w'.ownsRow w.heap.size 5 1 (.slice a 512 c) 512 (u8s (encL b i)) ∧ Below w.heap.size w w' := by
  obtain ⟨b0, b1, i0, i1, i4, d⟩ := hp
  obtain ⟨W0, hW0⟩ : ∃ W0, W0 = w.alloc (.cells (supC b i) 165) := ⟨_, rfl⟩
  have kc : ∀ (C : Array Value) (n c : Nat), (convert 59 59 (.slice (some ⟨W0.heap.size, 0, none⟩) n c)).run Tryz.prog (W0.alloc (.cells C 5)).drew = .ok (.slice (some ⟨W0.heap.size, 0, none⟩) n c) (W0.alloc (.cells C 5 (C.size, C.size + 1))).drew := fun C n c => Lib.run_convert_bytes_const (P := Tryz.prog) W0.drew 59 5 C n c Tryz.underlying59 Tryz.underlying5
  have hh : W0.heap[w.heap.size]? = some (.cells (supC b i) 165 (0, 0)) := by rw [hW0]; exact alloc_new w _
  have HB0 : Hid (Below w.heap.size w W0) := hid (by rw [hW0]; exact (Below.refl _ _).alloc (Nat.le_refl _) _)
  unfold supC at hh hW0
  obtain ⟨hh2, hf, c0, c1, c2, c3, c4, c5, c6, c7⟩ := cells8a hh
  obtain ⟨d0, d1, d2, d3, d4, d5, d6, d7⟩ := cells8 hh
  have HH := hid hh2
  clear hh hh2 c2 c3 c4 c5 c6 c7 d2 d3 d4 d5 d6 d7
  have hwb : IntKind.u64.wrap b = b := IntWalk.u64_in _ (by omega)
  have hwi : IntKind.u64.wrap i = i := IntWalk.u64_in _ (by omega)
  have HB1 : Hid (0 ≤ b ∧ b < 18446744073709551616 ∧ 0 ≤ i ∧ i < 18446744073709551616) := hid (by omega)
  unfold supC
  go_enter Tryz.func73, Tryz.ntmps73
  go_upto_region 1 with (rw [← hW0]; clear hW0)
  obtain ⟨W1, hW1⟩ : ∃ W1, W1 = (W0.alloc (.cells #[.int .u8 85, .int .u8 78, .int .u8 68, .int .u8 67, .int .u8 82, .int .u8 79, .int .u8 70, .int .u8 49] 5 (8, 9))).drew := ⟨_, rfl⟩
  have hg1 : Gr W1 W0.heap.size (.slice (some ⟨W0.heap.size, 0, none⟩) 8 8) supW := by rw [hW1]; exact Gr.of_const W0 _ supW 8 (8, 9) rfl supW_isB
  have hb1 : Below W0.heap.size W0 W1 := by rw [hW1]; exact ((Below.refl _ _).alloc (Nat.le_refl _) _).drew
  have hlt : w.heap.size < W0.heap.size := World.block_lt_of_cell? W0 _ d0
  have HC1 := hid (Low' W1 W0.heap.size _ supW hg1 hb1.size 4 4 b rfl ⟨by decide, by decide⟩ (by omega) (by omega) (by decide) 12 rfl (supW ++ bytesLe 4 b) rfl)
  have HC2 := hid (fun (w2 : World) (v : Value) (hg : Gr w2 W0.heap.size v (supW ++ bytesLe 4 b)) (hs : W0.heap.size ≤ w2.heap.size) => Low' w2 W0.heap.size _ _ hg hs 4 4 i rfl ⟨by decide, by decide⟩ (by omega) (by omega) (by simp [len_le, supW]) 16 (by simp [len_le, supW]) (supB b i) rfl)
  have HCB : Hid (∀ W, Below W0.heap.size W1 W → W.cell? ⟨w.heap.size, 0, none⟩ = some (n64 b) ∧ W.cell? ⟨w.heap.size, 1, none⟩ = some (n64 i)) := hid (fun W h => ⟨(World.cell?_of_block ((hb1.trans h).block _ hlt)).trans d0, (World.cell?_of_block ((hb1.trans h).block _ hlt)).trans d1⟩)
  have HB1 := hid hb1
  have HLT := hid hlt
  clear hg1 hb1 hlt
  refine wp_region_held_drew (S := fun w' => w'.cell? ⟨w.heap.size, 0, none⟩ = some (n64 b) ∧ w'.cell? ⟨w.heap.size, 1, none⟩ = some (n64 i)) (by kernel_rfl) ⟨d0, d1⟩ (fun hS => ?_)
  refine nany_take 2 6 (.pointer (some ⟨w.heap.size, 0, none⟩)) rfl rfl (by kernel_rfl) (by kernel_rfl) (by kernel_rfl) (fun _ _ _ h => h) (Or.inl ⟨by rfl, ?_⟩) hS ?_
  · rintro w' ⟨x0, x1⟩
    go_simp
  simp only [List.setIfInBounds_toArray, List.set_cons_zero, List.set_cons_succ]
  refine nany_take 3 7 (n64 b) rfl rfl (by kernel_rfl) (by kernel_rfl) (by kernel_rfl) (fun _ _ _ h => h) (Or.inl ⟨by rfl, ?_⟩) hS ?_
  · rintro w' ⟨x0, x1⟩
    go_simp
  simp only [List.setIfInBounds_toArray, List.set_cons_zero, List.set_cons_succ]
  refine nany_take 4 8 (.int .u64 b) rfl rfl (by kernel_rfl) (by kernel_rfl) (by kernel_rfl) (fun _ _ _ h => h) (Or.inl ⟨by rfl, ?_⟩) hS ?_
  · rintro w' ⟨x0, x1⟩
    go_simp
  simp only [List.setIfInBounds_toArray, List.set_cons_zero, List.set_cons_succ]
  refine nany_take 6 10 (.pointer (some ⟨w.heap.size, 1, none⟩)) rfl rfl (by kernel_rfl) (by kernel_rfl) (by kernel_rfl) (fun _ _ _ h => h) (Or.inl ⟨by rfl, ?_⟩) hS ?_
  · rintro w' ⟨x0, x1⟩
    go_simp
  simp only [List.setIfInBounds_toArray, List.set_cons_zero, List.set_cons_succ]
  refine nany_take 7 11 (n64 i) rfl rfl (by kernel_rfl) (by kernel_rfl) (by kernel_rfl) (fun _ _ _ h => h) (Or.inl ⟨by rfl, ?_⟩) hS ?_
  · rintro w' ⟨x0, x1⟩
    go_simp
  simp only [List.setIfInBounds_toArray, List.set_cons_zero, List.set_cons_succ]
  refine nany_take 8 12 (.int .u64 i) rfl rfl (by kernel_rfl) (by kernel_rfl) (by kernel_rfl) (fun _ _ _ h => h) (Or.inl ⟨by rfl, ?_⟩) hS ?_
  · rintro w' ⟨x0, x1⟩
    go_simp
  simp only [List.setIfInBounds_toArray, List.set_cons_zero, List.set_cons_succ]
  refine nany_one 0 (by kernel_rfl) ?_
  refine nop_value' 4 (v := .slice (some ⟨W0.heap.size, 0, none⟩) 8 8) (w' := (W0.alloc (.cells #[.int .u8 85, .int .u8 78, .int .u8 68, .int .u8 67, .int .u8 82, .int .u8 79, .int .u8 70, .int .u8 49] 5)).drew) rfl (by rfl) rfl (by kernel_rfl) ?_
  refine ⟨⟨c0 _, c1 _⟩, ?_⟩
  simp only [List.setIfInBounds_toArray, List.set_cons_zero, List.set_cons_succ]
  refine nany_one 1 (by kernel_rfl) ?_
  refine nop_value' 5 (v := .slice (some ⟨W0.heap.size, 0, none⟩) 8 8) (w' := W1) rfl (by rfl) rfl (by rw [hW1]; go_simp) ?_
  refine ⟨HCB.out W1 (Below.refl _ _), ?_⟩
  clear hS
  simp only [List.setIfInBounds_toArray, List.set_cons_zero, List.set_cons_succ]
  refine nany_one 5 (by kernel_rfl) ?_
  refine nop_callE 9 (f := 91) (args := #[.slice (some ⟨W0.heap.size, 0, none⟩) 8 8, n64 4, .int .u64 b]) (R := fun v w' => ∃ a c, v = .slice a 12 c ∧ Gr w' W0.heap.size (.slice a 12 c) (supW ++ bytesLe 4 b) ∧ Below W0.heap.size W1 w') rfl (by rfl) rfl (by go_simp) (HC1.out.mono (fun e w' h => by obtain ⟨a, c, h1, h2, _, h3⟩ := h; exact ⟨_, h1, a, c, rfl, h2, h3⟩)) ?_
  rintro v2 w2 ⟨a2, c2, rfl, hg2, hb2⟩
  refine ⟨HCB.out w2 hb2, ?_⟩
  simp only [List.setIfInBounds_toArray, List.set_cons_zero, List.set_cons_succ]
  refine nany_one 9 (by kernel_rfl) ?_
  refine nop_callE 13 (f := 91) (args := #[.slice a2 12 c2, n64 4, .int .u64 i]) (R := fun v w' => ∃ a c, v = .slice a 16 c ∧ Gr w' W0.heap.size (.slice a 16 c) (supB b i) ∧ Below W0.heap.size W1 w') rfl (by rfl) rfl (by go_simp) ((HC2.out w2 _ hg2 (Nat.le_trans HB1.out.size hb2.size)).mono (fun e w' h => by obtain ⟨a, c, h1, h2, _, h3⟩ := h; exact ⟨_, h1, a, c, rfl, h2, hb2.trans h3⟩)) ?_
  rintro v3 w3 ⟨a3, c3, rfl, hg3, hb3⟩
  refine ⟨HCB.out w3 hb3, ?_⟩
  have hS := HCB.out w3 hb3
  simp only [List.setIfInBounds_toArray, List.set_cons_zero, List.set_cons_succ]
  refine nany_take 10 3 (.slice a3 16 c3) rfl rfl (by kernel_rfl) (by kernel_rfl) (by kernel_rfl) (fun _ _ _ h => h) (Or.inl ⟨by rfl, ?_⟩) hS ?_
  · rintro w' ⟨x0, x1⟩
    go_simp
  simp only [List.setIfInBounds_toArray, List.set_cons_zero, List.set_cons_succ]
  refine wpAnyH_done (by kernel_rfl) ?_ _
  have HG3 := hid hg3
  have HB3 := hid hb3
  clear hS hg2 hb2 hg3 hb3 hW1 kc c0 c1 d0 d1 hf HCB HC1 HC2
  have HN := hid (fun (w2 : World) (v : Value) (hg : Gr w2 W0.heap.size v (supB b i)) (hs : W0.heap.size ≤ w2.heap.size) => Noughts' w2 W0.heap.size v _ hg hs 492 492 rfl (by decide) (by rw [supB_len]; decide) 508 (by rw [supB_len]) (encP b i) (by unfold encP pad; rw [supB_len]))
  have HC3 := hid (HN.out w3 _ HG3.out (Nat.le_trans HB1.out.size HB3.out.size))
  clear HN
  go_wp2_with fail
  refine HC3.out.mono ?_
  rintro e w4 ⟨a4, c4, rfl, hg4, _, hb4⟩
  have HB4 : Hid (Below W0.heap.size W1 w4) := hid (HB3.out.trans hb4)
  obtain ⟨a5, c5, e5, h5, hy5⟩ := hg4.by_
  rw [encP_len] at e5
  simp only [Value.slice.injEq, true_and] at e5
  obtain ⟨rfl, rfl⟩ := e5
  have HK := refCrc_any a4 c4 (encP b i) w4 (by rw [encP_len]; decide) hy5.bytes
  rw [encP_len] at HK
  obtain ⟨q, hq⟩ : ∃ q, q = crcL (encP b i) := ⟨_, rfl⟩
  have hqb := crcL_bd (encP b i) (encP_isB b i)
  have hK2 : (4294967295 - crcOn 4294967295 (encP b i)) = q := hq.symm
  rw [hK2] at HK
  rw [← hq] at hqb
  have HE : Hid (encL b i = encP b i ++ bytesLe 4 q) := hid (by unfold encL; rw [hq])
  have HC5 := hid (Low' w4 W0.heap.size _ _ hg4 (Nat.le_trans HB1.out.size HB4.out.size) 4 4 q rfl ⟨by decide, by decide⟩ (by omega) (by omega) (by rw [encP_len]; decide) 512 (by rw [encP_len]) (encL b i) HE.out.symm)
  have hwq : IntKind.u64.wrap q = q := IntWalk.u64_in _ (by omega)
  replace HK := hid HK
  clear hg4 hb4 h5 hy5 hq hK2 HC3 HG3 HB3
  go_wp2_with fail
  refine HK.out.mono ?_
  rintro e w5 ⟨rfl, rfl⟩
  go_wp2_with fail
  refine HC5.out.mono ?_
  rintro e w6 ⟨a6, c6, rfl, hg6, ho6, hb6⟩
  have HO6 := hid ho6
  have HB6 : Hid (Below w.heap.size w w6) := hid (HB0.out.trans (((HB1.out.trans HB4.out).trans hb6).mono HB0.out.size))
  clear hg6 ho6 hb6
  go_wp2
  go_ret
  exact ⟨a6, c6, rfl, owns_base HO6.out (fun g hg => Nat.le_trans HB0.out.size (owns_lt HO6.out hg).2), HB6.out⟩
end Go.Proofs.YtaplmlldmhdhoaaGreatDoor
