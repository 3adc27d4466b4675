/- count; how many are free. -/
import Derived.Test.YtbimociijdaahaaDoorVeC
import Derived.Test.YtbimociijdaahaaDoorVfH
namespace Go.Proofs.YtbimociijdaahaaDoor
open Go.RowKit Go.Maps
set_option linter.unusedVariables false

variable {w w' : World} {pv n q N : Nat} {S S' T : Nat → Prop} {b i : Int} {P : Int → Option (List Int)} {bc : Nat → List Int} {lk : Nat → Bool}
theorem cnt_shift (F : Nat → Bool) (lo r : Nat) : ∀ m, m ≤ 4096 → cnt F lo (r * 4096 + m) = cnt F lo (r * 4096) + cnt (rowF F r) (lo - r * 4096) m
  | 0, _ => by rw [Nat.add_zero, show cnt (rowF F r) (lo - r * 4096) 0 = 0 from rfl, Nat.add_zero]
  | m + 1, hm => by
    rw [← Nat.add_assoc, cnt, cnt, cnt_shift F lo r m (by omega), Nat.add_assoc]
    congr 2
    unfold rowF
    by_cases h : lo ≤ r * 4096 + m
    · have h2 : lo - r * 4096 ≤ m := by omega
      simp [h, h2]
    · have h2 : ¬ lo - r * 4096 ≤ m := by omega
      simp [h, h2]
set_option maxRecDepth 100000 in
set_option maxHeartbeats 2000000 in
theorem count_any (h : Vw w pv S b i (baseV q) n P) (hB : Bs w q T N bc lk) (hN : N ≤ 100000) (f lo hi R : Nat) (hR : R = (hi + 4095) / 4096) (hfN : f + R ≤ N) (hlk : ∀ r, r < R → lk (f + r) = false) (hhi : hi < 100000) (hlo : lo < 100000)
    (F : Nat → Bool) (hF : ∀ r, r < R → ct P bc (f + r) = bitB (rowF F r)) :
    Calls Tryd.prog 29 #[.pointer (some ⟨pv, 0, none⟩), .agg #[n64 f, n64 lo, n64 hi]] w fun e w' => e = .returned (.tuple #[n64 (cnt F lo hi : Nat), .nilIface]) ∧ Below w.heap.size w w' := by
  obtain ⟨W0, hW0⟩ : ∃ W, W = w.alloc (.cells #[n64 f, n64 lo, n64 hi] 72) := ⟨_, rfl⟩
  have hb0 : Below w.heap.size w W0 := by rw [hW0]; exact (Below.refl _ _).alloc (Nat.le_refl _) _
  have hh0 : W0.heap[w.heap.size]? = some (.cells #[n64 f, n64 lo, n64 hi] 72 (0, 0)) := by rw [hW0]; exact alloc_new w _
  have hlt0 : w.heap.size < W0.heap.size := (Array.getElem?_eq_some_iff.1 hh0).1
  have HCC : Hid (∀ W, Below W0.heap.size W0 W → W.cell? ⟨w.heap.size, 0, none⟩ = some (n64 f) ∧ W.cell? ⟨w.heap.size, 1, none⟩ = some (n64 lo) ∧ W.cell? ⟨w.heap.size, 2, none⟩ = some (n64 hi)) := hid (fun W hb => by
    have hh := (hb.block _ hlt0).trans hh0
    exact ⟨cell_of hh rfl, cell_of hh rfl, cell_of hh rfl⟩)
  have HRF := rowsFor_any (hi : Int) (by omega) (by omega) W0
  rw [show ((hi : Int) + 4095) / 4096 = (R : Int) by omega] at HRF
  replace HRF := hid HRF
  have HV := hid (h.later hb0)
  have HBs := hid (hB.later hb0)
  have HB0 := hid hb0
  have HLK := hid hlk
  have HF := hid hF
  have HR := hid hR
  have HFN := hid hfN
  obtain ⟨_, _, x2⟩ := HCC.out W0 (Below.refl _ _)
  clear h hB hb0 hh0 hlt0 hlk hF hR hfN
  go_enter Tryd.func29, Tryd.ntmps29
  go_wp2_with (rw [← hW0]; clear hW0)
  refine HRF.out.mono ?_
  rintro e w1 ⟨rfl, rfl⟩
  clear HRF x2
  go_wp2
  go_loopw [6, 15] (fun v z wr => ∃ r : Nat, r ≤ R ∧ z = n64 r ∧ v = n64 (cnt F lo (min (r * 4096) hi) : Nat) ∧ Below w1.heap.size w1 wr) (fun _ z _ => R - (RowKit.intOf z).toNat)
  case atStart => exact ⟨0, Nat.zero_le _, rfl, by simp [cnt], Below.refl _ _⟩
  case round =>
    obtain ⟨r, hr, rfl, rfl, hb⟩ := hrel
    rename World => V
    have HBV := hid hb
    clear hb
    by_cases hlt : r < R
    · have hlt' : (r : Int) < R := by omega
      have hr4 : r * 4096 < hi := by have := HR.out; omega
      rw [show min (r * 4096) hi = r * 4096 by omega]
      have hw1 : IntKind.i64.wrap ((f : Int) + (r : Int)) = ((f + r : Nat) : Int) := by rw [IntWalk.i64_in _ (by have := HFN.out; omega)]; omega
      have HL := hid (look_any (HV.out.later HBV.out.drew) (HBs.out.later HBV.out.drew) (f + r) (by have := HFN.out; omega) hN (HLK.out r hlt))
      have y0 : V.drew.cell? ⟨w.heap.size, 0, none⟩ = some (n64 f) := (HCC.out V.drew HBV.out.drew).1
      clear hr
      go_wp2_with fail
      go_region_held3 (fun w' => w'.cell? ⟨w.heap.size, 0, none⟩ = some (n64 f)) ((first | exact y0 | exact HS3.out))
        ((first | (go_at_call 41; refine HL.out.mono ?_; rintro e w3 ⟨a3, c3, rfl, hy3, hc3, hb3⟩; have HB3 := hid (HBV.out.drew.trans (hb3.mono HBV.out.size)); have HS3 := hid (HCC.out w3 HB3.out).1; have HY3 := hid hy3; clear hy3 hb3 HL)))
      clear HS3 y0
      have hy3 := HY3.out
      rw [HF.out r hlt] at hy3
      have HPt := part_any w3 (f : Int) (lo : Int) (hi : Int) r (by omega) (by omega) (by omega) (by omega) (by have := HFN.out; omega)
      obtain ⟨lo', hlo'⟩ : ∃ lo' : Nat, lo' = lo - r * 4096 := ⟨_, rfl⟩
      obtain ⟨hi', hhi'⟩ : ∃ hi' : Nat, hi' = min (hi - r * 4096) 4096 := ⟨_, rfl⟩
      rw [show max ((lo : Int) - (r : Int) * 4096) 0 = (lo' : Int) by omega, show min ((hi : Int) - (r : Int) * 4096) 4096 = (hi' : Int) by omega] at HPt
      replace HPt := hid HPt
      replace HY3 := hid hy3
      obtain ⟨z0, z1, z2⟩ := HCC.out w3 HB3.out
      have hsum : cnt F lo (r * 4096) + cnt (rowF F r) lo' hi' = cnt F lo (min ((r + 1) * 4096) hi) := by
        rw [hlo', ← cnt_shift F lo r hi' (by omega)]
        congr 1
        omega
      have hcl1 := cnt_le F lo (r * 4096)
      have hcl2 := cnt_le (rowF F r) lo' hi'
      have hw4 : IntKind.i64.wrap (((cnt F lo (r * 4096) : Nat) : Int) + ((cnt (rowF F r) lo' hi' : Nat) : Int)) = ((cnt F lo (min ((r + 1) * 4096) hi) : Nat) : Int) := by rw [IntWalk.i64_in _ (by omega)]; omega
      have hw2 : IntKind.i64.wrap ((r : Int) + 1) = ((r + 1 : Nat) : Int) := by rw [IntWalk.i64_in _ (by omega)]; omega
      have HHI := hid hhi'
      have HLO : Hid (lo' ≤ lo) := hid (by omega)
      clear hy3 hlo' hhi' hsum hcl1 hcl2
      go_wp2_with fail
      refine HPt.out.mono ?_
      rintro e w4 ⟨rfl, hb4⟩
      have HY4 := hid (HY3.out.later hb4)
      have HB4 : Hid (Below w1.heap.size w1 w4) := hid (HB3.out.trans (hb4.mono HB3.out.size))
      have HCF := hid (countFree_any w4 (fun _ => True) (some a3) c3 (rowF F r) HY4.out lo' hi' (by have := HHI.out; omega) (by have := HLO.out; omega))
      clear hb4 HPt HY3 HB3 z0 z1 z2
      go_wp2_with fail
      refine HCF.out.mono ?_
      rintro e w5 ⟨rfl, rfl⟩
      go_wp2
      go_roundw
      case rel => exact ⟨r + 1, by omega, by first | rfl | go_num, by first | rfl | go_num, HB4.out⟩
      case measure => simp [RowKit.intOf]; omega
    · have hlt' : ¬ (r : Int) < R := by omega
      have e : min (r * 4096) hi = hi := by have := HR.out; omega
      rw [e]
      clear e
      go_wp2
      go_ret2
      exact ⟨rfl, HB0.out.trans (HBV.out.mono HB0.out.size)⟩
set_option maxHeartbeats 1000000 in
theorem FreeBlocks_lv {FB FI : Nat → Bool} (h : Lv w pv S N i n FB FI) (D : Nat) (hD : planD N i = (D : Int)) :
    Calls Tryd.prog 14 #[.pointer (some ⟨pv, 0, none⟩)] w fun e w' => e = .returned (.tuple #[n64 (cnt FB D N : Nat), .nilIface]) ∧ Below w.heap.size w w' := by
  obtain ⟨q, S0, T, P, bc, h1, h2, h3, h4, h5, h6, h7⟩ := h.ex
  obtain ⟨hr1, hr2, hr3⟩ := rowsN_le h.pl
  obtain ⟨D', hD', hD1, hD2⟩ := planD_nat h.pl
  have hDD : D' = D := by omega
  subst hDD
  have hc := hid (count_any h1 h2 (by omega) 69 D' N (rowsN N) rfl hr1 (fun _ _ => rfl) (by omega) (by omega) FB h6)
  obtain ⟨c0, c1, c2, _, _, _⟩ := vcells h1
  rw [hD] at c1
  clear h h1 h2 h3 h4 h5 h6 h7 hr1 hr2 hr3 hD1 hD2 hD'
  go_enter Tryd.func14, Tryd.ntmps14
  go_wp2_with fail
  refine hc.out.mono ?_
  rintro e w2 ⟨rfl, hb⟩
  have HB := hid hb
  clear hb
  go_wp2
  go_ret2
  exact ⟨rfl, HB.out⟩
set_option maxHeartbeats 1000000 in
theorem FreeInodes_lv {FB FI : Nat → Bool} (h : Lv w pv S N i n FB FI) (I : Nat) (hI : i = (I : Int)) :
    Calls Tryd.prog 15 #[.pointer (some ⟨pv, 0, none⟩)] w fun e w' => e = .returned (.tuple #[n64 (cnt FI 2 I : Nat), .nilIface]) ∧ Below w.heap.size w w' := by
  obtain ⟨q, S0, T, P, bc, h1, h2, h3, h4, h5, h6, h7⟩ := h.ex
  obtain ⟨hr1, hr2, hr3⟩ := rowsN_le h.pl
  have hi0 := h.pl.i0
  have hi1 := h.pl.i1
  subst hI
  have hR : (I + 4095) / 4096 = 1 := by omega
  have hc := hid (count_any h1 h2 (by omega) 68 2 I 1 hR.symm (by omega) (fun _ _ => rfl) (by omega) (by omega) FI (fun r hr => by
    obtain rfl : r = 0 := by omega
    rw [show 68 + 0 = 68 by omega, h7]
    exact bitB_congr (fun k _ => by unfold rowF; simp)))
  obtain ⟨_, _, _, c0, c1, c2⟩ := vcells h1
  clear h h1 h2 h3 h4 h5 h6 h7 hr1 hr2 hr3 hi0 hi1 hR
  go_enter Tryd.func15, Tryd.ntmps15
  go_wp2_with fail
  refine hc.out.mono ?_
  rintro e w2 ⟨rfl, hb⟩
  have HB := hid hb
  clear hb
  go_wp2
  go_ret2
  exact ⟨rfl, HB.out⟩
end Go.Proofs.YtbimociijdaahaaDoor
