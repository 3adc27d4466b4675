/- known. -/
import Derived.Test.YtaplmlldmhdhoaaGreatDoorJeG
namespace Go.Proofs.YtaplmlldmhdhoaaGreatDoor
open Go.RowKit Go.Maps
set_option linter.unusedVariables false
deriving instance DecidableEq for Ln
instance (nm : List Int) (x : Ln) : Decidable (Has nm x) := inferInstanceAs (Decidable (x.i ≠ 0 ∧ x.nm = nm))
def Lk (j : Nat) : List Ln := L0 ++ (List.range j).map (fun i => ⟨5, [97 + (i : Int)]⟩)
theorem str97 (j : Nat) (h : j < 2) : (#[.string ⟨#[97]⟩, .string ⟨#[98]⟩] : Array Value)[j]? = some (.string (strOfNums [97 + (j : Int)])) := by
  obtain rfl | rfl : j = 0 ∨ j = 1 := by omega
  · rfl
  · rfl
theorem Lk_next (j : Nat) (h : j < 2) : addL (Lk j) ⟨5, [97 + (j : Int)]⟩ = Lk (j + 1) := by
  obtain rfl | rfl : j = 0 ∨ j = 1 := by omega
  · decide
  · decide
theorem Lk_no (j : Nat) (h : j < 2) : ∀ y ∈ Lk j, ¬ Has [97 + (j : Int)] y := by
  obtain rfl | rfl : j = 0 ∨ j = 1 := by omega
  · decide
  · decide
theorem Lk_len (j : Nat) (h : j < 3) : (Lk j).length = 2 + j := by simp [Lk, L0]; omega
theorem one_ok (i : Int) (y : Int) (hi : 1 ≤ i) (hi2 : i < 4294967296) (h0 : 97 ≤ y) (h1 : y < 123) : LnOk ⟨i, [y]⟩ := ⟨by show (0 : Int) ≤ i; omega, hi2, by simp, fun z hz => by rw [List.mem_singleton.1 hz]; unfold IsB; omega⟩
theorem one_nm (y : Int) (h0 : 97 ≤ y) : ∀ z ∈ [y], z ≠ 47 ∧ z ≠ 0 := fun z hz => by rw [List.mem_singleton.1 hz]; omega
abbrev LT3 : List Ln := (Lk 2).set 2 noLn
abbrev LT4 : List Ln := LT3.set 2 ⟨6, [99]⟩
abbrev LT5 : List Ln := LT4 ++ [⟨7, [100]⟩]
theorem lt4 : addL LT3 ⟨6, [99]⟩ = LT4 := by decide
theorem lt5 : addL LT4 ⟨7, [100]⟩ = LT5 := by decide
theorem rm3 : roomF LT3.length LT3 = 2 := by decide
theorem rm4 : roomF LT4.length LT4 = 4 := by decide
theorem no3 : ∀ y ∈ LT3, ¬ Has [99] y := by decide
theorem no4 : ∀ y ∈ LT4, ¬ Has [100] y := by decide
set_option maxRecDepth 100000 in
set_option maxHeartbeats 8000000 in
theorem known11 (w : World) {pe : Addr} (hG : Gl w) (hE : En0 w pe) : Calls Tryz.prog 5 #[] w fun e w' => e = .returned (.bool true) ∧ Below w.heap.size w w' := by
  obtain ⟨z23, hz23⟩ : ∃ z : Array Value, z = #[.int .i64 0, .int .i64 0, .int .i64 0, .int .u32 0, .int .u32 0, .int .u32 0, .int .u64 0, .int .u64 0, .int .u32 0, .int .u32 0, .int .u32 0, .int .u32 0, .int .u32 0, .int .u32 0, .int .i64 0, .int .i64 0, .int .i64 0, .int .i64 0, .int .i64 0, .int .i64 0, .int .i64 0, .int .i64 0, .int .i64 0] := ⟨_, rfl⟩
  have HZ23 := hid hz23
  have HZI : Hid (z23.size = 23) := hid (by rw [hz23]; rfl)
  have HBG := hid (begun_ok w)
  have HG := hid hG
  have HE := hid hE
  clear hz23 hG hE
  go_enter Tryz.func5, Tryz.ntmps5
  go_wp2_with fail
  refine HBG.out.mono ?_
  rintro e w1 ⟨pv, S0, base, T, rfl, hd1, hS1, hT1, hb1⟩
  obtain ⟨d2, hd2⟩ : ∃ d, w1.heap.size = d := ⟨_, rfl⟩
  obtain ⟨W2, hW2⟩ : ∃ W, W = w1.alloc (.cells #[.int .i64 0, .int .i64 0, .int .i64 0, .int .u32 0, .int .u32 0, .int .u32 0, .int .u64 0, .int .u64 0, .int .u32 0, .int .u32 0, .int .u32 0, .int .u32 0, .int .u32 0, .int .u32 0, .int .i64 0, .int .i64 0, .int .i64 0, .int .i64 0, .int .i64 0, .int .i64 0, .int .i64 0, .int .i64 0, .int .i64 0] 31) := ⟨_, rfl⟩
  obtain ⟨W3, hW3⟩ : ∃ W, W = W2.setRow d2 X0 := ⟨_, rfl⟩
  have k2 : W2.heap[d2]? = some (.cells z23 31 (0, 0)) := by rw [hW2, ← hd2, HZ23.out]; exact alloc_new w1 _
  have b2 : Below w1.heap.size w1 W2 := by rw [hW2]; exact (Below.refl _ _).alloc (Nat.le_refl _) _
  have b3 : Below w1.heap.size w1 W3 := by rw [hW3]; exact below_setRow b2 (by omega) _
  have k3 : W3.heap[d2]? = some (.cells X0 31 (0, 0)) := by rw [hW3]; exact setRow_heap _ _ _ _ _ _ k2
  have hds : Ds w W3 pv S0 T 0 L0 X0 := (Ds.begin hd1 hS1 hT1 hb1).later b3
  have hdl : ∀ g, S0 g ∨ T g → g < d2 := fun g hg => by have := (Ds.begin hd1 hS1 hT1 hb1).lt hg; omega
  have HX0 : Hid (X0.size = 23 ∧ X0.all (·.oneCell') = true) := hid ⟨X0_is.sz, X0_is.one⟩
  have HK2 := hid k2
  have HDW : Hid (w.heap.size ≤ d2) := hid (by have := hb1.size; omega)
  have HTD : Hid (∀ g, T g → g < d2) := hid (fun g hg => hdl g (.inr hg))
  have H0 : Hid (Ds w W3 pv S0 T 0 (Lk 0) X0 ∧ W3.heap[d2]? = some (.cells X0 31 (0, 0)) ∧ ¬ S0 d2) := hid ⟨hds, k3, fun e => by have := hdl d2 (.inl e); omega⟩
  clear hd1 hS1 hT1 hb1 k2 b2 b3 k3 hds hdl HBG
  go_wp2_with (first | (rw [← hW2]; clear hW2) | (rw [hd2]; clear hd2) | (refine wpList_store_row rfl 31 _ _ rfl d2 X0 rfl rfl 31 _ HK2.out (by rw [HX0.out.1]; exact sizeIno) (by rw [HX0.out.1]; exact HZI.out) HX0.out.2 ?_; rw [← hW3]; clear hW3))
  go_loopw [3] (fun z wr => ∃ jj X S, jj ≤ 2 ∧ z = n64 (jj : Nat) ∧ Ds w wr pv S T jj (Lk jj) X ∧ wr.heap[d2]? = some (.cells X 31 (0, 0)) ∧ ¬ S d2) (fun z _ => 2 - (RowKit.intOf z).toNat)
  case atStart => exact ⟨0, X0, S0, by omega, rfl, H0.out⟩
  case round =>
    obtain ⟨jj, X, S, hj2, rfl, hds, hbox, hns⟩ := hrel
    rename World => V
    clear H0
    by_cases hlt : jj < 2
    · have hlt' : (jj : Int) < 2 := by omega
      obtain ⟨nj, hnj⟩ : ∃ nj : List Int, nj = [97 + (jj : Int)] := ⟨_, rfl⟩
      obtain ⟨R, hR⟩ : ∃ R : Nat, R = roomF (Lk jj).length (Lk jj) := ⟨_, rfl⟩
      have HSTR : Hid ((#[.string ⟨#[97]⟩, .string ⟨#[98]⟩] : Array Value)[jj]? = some (.string (strOfNums nj))) := hid (by rw [hnj]; exact str97 jj hlt)
      have HADD : Hid (∀ W', Below V.heap.size V W' → Calls Tryz.prog 9 #[ptrV pv, .agg X, .string (strOfNums nj), n64 5] W' fun e w' => ∃ X' S', e = .returned (.tuple #[.agg X', n64 R, .nilIface]) ∧ Ds w w' pv S' T (jj + 1) (addL (Lk jj) ⟨5, nj⟩) X' ∧ Kp S W' S' w') := hid (fun W' hb => by
        rw [hR, hnj]
        exact (hds.later hb).add HG.out HE.out (by omega) (by rw [Lk_len jj (by omega)]; omega) ⟨5, [97 + (jj : Int)]⟩ (one_ok 5 _ (by omega) (by omega) (by omega) (by omega)) (show (1 : Int) ≤ 5 by decide) (by simp) (one_nm _ (by omega)) (Lk_no jj hlt))
      have HNX : Hid (addL (Lk jj) ⟨5, nj⟩ = Lk (jj + 1)) := hid (by rw [hnj]; exact Lk_next jj hlt)
      have HS7 : Hid (V.drew.heap[d2]? = some (.cells X 31 (0, 0))) := hid hbox
      have HXS := hid hds.ino.1
      have hd2V := (Array.getElem?_eq_some_iff.1 hbox).1
      have HD2 : Hid (w.heap.size ≤ V.heap.size ∧ d2 < V.heap.size) := hid ⟨hds.below.size, hd2V⟩
      have HNS2 : Hid (¬ S d2) := hid hns
      have HNS : Hid (∀ g, V.heap.size ≤ g → ¬ S g) := hid (fun g hg e => by have := hds.lt (.inl e); omega)
      have HNT : Hid (∀ g, V.heap.size ≤ g → ¬ T g) := hid (fun g hg e => by have := hds.lt (.inr e); omega)
      have ew : IntKind.i64.wrap ((jj : Int) + 1) = ((jj + 1 : Nat) : Int) := by rw [IntWalk.i64_in _ (by omega)]; omega
      clear hds hbox hns hnj hR hd2V
      go_upto_region 7 with fail
      go_cut [4, 5, 6] from 24 to 34 (fun s4 s5 s6 wc => ∃ q X' S', s4 = ptrV q ∧ s6 = .nilIface ∧ wc.heap[q]? = some (.cells X' 31 (0, 0)) ∧ Ds w wc pv S' T (jj + 1) (addL (Lk jj) ⟨5, nj⟩) X' ∧ wc.heap[d2]? = some (.cells X 31 (0, 0)) ∧ (∀ g, S' g → S g ∨ V.heap.size ≤ g) ∧ q ≠ d2)
      case first =>
        refine wp_region_held_drew (S := fun w' => w'.heap[d2]? = some (.cells X 31 (0, 0))) (by kernel_rfl) HS7.out (fun hS => ?_)
        refine nany_take 0 25 (ptrV pv) rfl rfl (by kernel_rfl) (by kernel_rfl) (by kernel_rfl) (fun _ _ _ h => h) (Or.inl ⟨by rfl, ?_⟩) hS ?_
        · rintro w' hS'
          go_simp
        simp only [List.setIfInBounds_toArray, List.set_cons_zero, List.set_cons_succ]
        refine nany_take 1 26 (.agg X) rfl rfl (by kernel_rfl) (by kernel_rfl) (by kernel_rfl) (fun _ _ _ h => h) (Or.inl ⟨by rfl, ?_⟩) hS ?_
        · rintro w' hS'
          exact ex_load 31 (.tmp 2) rfl d2 rfl 31 X (0, 0) _ hS' Tryz.underlying31 (by rw [HXS.out]; exact sizeIno)
        simp only [List.setIfInBounds_toArray, List.set_cons_zero, List.set_cons_succ]
        refine nany_take 3 28 (n64 (jj : Nat)) rfl rfl (by kernel_rfl) (by kernel_rfl) (by kernel_rfl) (fun _ _ _ h => h) (Or.inl ⟨by rfl, ?_⟩) hS ?_
        · rintro w' hS'
          go_simp
        simp only [List.setIfInBounds_toArray, List.set_cons_zero, List.set_cons_succ]
        refine nany_two 2 11 (by kernel_rfl) ?_ ?_
        · obtain ⟨gs, hgs⟩ : ∃ g, V.drew.heap.size = g := ⟨_, rfl⟩
          obtain ⟨wb, hwb⟩ : ∃ W, W = V.drew.alloc (.cells #[.string ⟨#[97]⟩, .string ⟨#[98]⟩] 9) := ⟨_, rfl⟩
          have hbb : Below V.drew.heap.size V.drew wb := by rw [hwb]; exact (Below.refl _ _).alloc (Nat.le_refl _) _
          have hbh : wb.heap[gs]? = some (.cells #[.string ⟨#[97]⟩, .string ⟨#[98]⟩] 9 (0, 0)) := by rw [hwb, ← hgs]; exact alloc_new V.drew _
          have hB2 : Below V.heap.size V wb := ((Below.refl V.heap.size V).drew).trans (hbb.mono ((Below.refl V.heap.size V).drew).size)
          have hS2 : wb.heap[d2]? = some (.cells X 31 (0, 0)) := (hbb.block d2 (Array.getElem?_eq_some_iff.1 hS).1).trans hS
          have hst : wb.cell? ⟨gs, jj, none⟩ = some (.string (strOfNums nj)) := cell_of hbh HSTR.out
          refine nop_value' 27 (v := .slice (some ⟨gs, 0, none⟩) 2 2) (w' := wb) rfl (by rfl) rfl (by rw [hwb, ← hgs]; go_simp) ?_
          have hgsV : V.heap.size ≤ gs := by rw [← hgs]; exact Nat.le_refl _
          clear hwb hgs
          refine ⟨hS2, ?_⟩
          simp only [List.setIfInBounds_toArray, List.set_cons_zero, List.set_cons_succ]
          refine nwpAnyH_strong (S' := fun w' => w'.heap[d2]? = some (.cells X 31 (0, 0)) ∧ w'.cell? ⟨gs, jj, none⟩ = some (.string (strOfNums nj))) (fun w' h => h.1) _ _ _ _ ?_
          have hS3 : (fun w' => w'.heap[d2]? = some (.cells X 31 (0, 0)) ∧ w'.cell? ⟨gs, jj, none⟩ = some (.string (strOfNums nj))) wb := ⟨hS2, hst⟩
          refine nany_take 4 29 (.pointer (some ⟨gs, jj, none⟩)) rfl rfl (by kernel_rfl) (by kernel_rfl) (by kernel_rfl) (fun _ _ _ h => h) (Or.inl ⟨by rfl, ?_⟩) hS3 ?_
          · rintro w' hS'
            go_simp
          simp only [List.setIfInBounds_toArray, List.set_cons_zero, List.set_cons_succ]
          refine nany_take 5 30 (.string (strOfNums nj)) rfl rfl (by kernel_rfl) (by kernel_rfl) (by kernel_rfl) (fun _ _ _ h => h) (Or.inl ⟨by rfl, ?_⟩) hS3 ?_
          · rintro w' hS'
            obtain ⟨_, x1⟩ := hS'; go_simp
          simp only [List.setIfInBounds_toArray, List.set_cons_zero, List.set_cons_succ]
          have hgV : V.heap.size ≤ gs := hgsV
          refine nany_two 6 11 (by kernel_rfl) ?_ ?_
          · refine nop_callE 31 (f := 9) (args := #[ptrV pv, .agg X, .string (strOfNums nj), n64 5]) (R := fun v w' => ∃ X' S', v = .tuple #[.agg X', n64 R, .nilIface] ∧ Ds w w' pv S' T (jj + 1) (addL (Lk jj) ⟨5, nj⟩) X' ∧ Kp S wb S' w') rfl (by rfl) rfl (by go_simp) ((HADD.out _ (hB2)).mono (fun e w' h => by obtain ⟨X', S', h1, h2, h3⟩ := h; exact ⟨_, h1, X', S', rfl, h2, h3⟩)) ?_
            rintro v ww ⟨X', S', rfl, hds, hK⟩
            have hSW : (fun w' => w'.heap[d2]? = some (.cells X 31 (0, 0)) ∧ w'.cell? ⟨gs, jj, none⟩ = some (.string (strOfNums nj))) ww := ⟨(hK.block (Array.getElem?_eq_some_iff.1 hS3.1).1 HNS2.out).trans hS3.1, hK.cell hS3.2 (HNS.out gs hgV)⟩
            have hzV : ∀ g, S' g → S g ∨ V.heap.size ≤ g := fun g hg => (hK.1 g hg).imp id (fun h => Nat.le_trans (hB2).size h)
            have hKV : Kp S V S' ww := ⟨hzV, (Mods.of_below (hB2)).tr hK.2⟩
            refine ⟨hSW, ?_⟩
            simp only [List.setIfInBounds_toArray, List.set_cons_zero, List.set_cons_succ]
            refine nany_take 7 24 (.tuple #[.agg X', n64 R, .nilIface]) rfl rfl (by kernel_rfl) (by kernel_rfl) (by kernel_rfl) (fun _ _ _ h => h) (Or.inl ⟨by rfl, ?_⟩) hSW ?_
            · rintro w' hS'
              go_simp
            simp only [List.setIfInBounds_toArray, List.set_cons_zero, List.set_cons_succ]
            refine nany_take 8 32 (.agg X') rfl rfl (by kernel_rfl) (by kernel_rfl) (by kernel_rfl) (fun _ _ _ h => h) (Or.inl ⟨by rfl, ?_⟩) hSW ?_
            · rintro w' hS'
              go_simp
            simp only [List.setIfInBounds_toArray, List.set_cons_zero, List.set_cons_succ]
            refine nany_take 9 33 (n64 R) rfl rfl (by kernel_rfl) (by kernel_rfl) (by kernel_rfl) (fun _ _ _ h => h) (Or.inl ⟨by rfl, ?_⟩) hSW ?_
            · rintro w' hS'
              go_simp
            simp only [List.setIfInBounds_toArray, List.set_cons_zero, List.set_cons_succ]
            refine nany_take 10 34 (.nilIface) rfl rfl (by kernel_rfl) (by kernel_rfl) (by kernel_rfl) (fun _ _ _ h => h) (Or.inl ⟨by rfl, ?_⟩) hSW ?_
            · rintro w' hS'
              go_simp
            simp only [List.setIfInBounds_toArray, List.set_cons_zero, List.set_cons_succ]
            obtain ⟨q, hq⟩ : ∃ q, ww.heap.size = q := ⟨_, rfl⟩
            obtain ⟨wa, hwa⟩ : ∃ W, W = ww.alloc (.cells z23 31) := ⟨_, rfl⟩
            have hqw : wa.heap[q]? = some (.cells z23 31 (0, 0)) := by rw [hwa, ← hq]; exact alloc_new ww _
            have hba : Below ww.heap.size ww wa := by rw [hwa]; exact (Below.refl _ _).alloc (Nat.le_refl _) _
            have hqV : V.heap.size ≤ q := by rw [← hq]; exact Nat.le_trans (hB2).size hK.2.size
            have hnq : ¬ S' q := fun e => by have := hds.lt (.inl e); omega
            have hnT : ¬ T q := HNT.out q hqV
            have hgq : gs ≠ q := by have := (Array.getElem?_eq_some_iff.1 hbh).1; have := hK.2.size; omega
            have hSW : (fun w' => w'.heap[d2]? = some (.cells X 31 (0, 0)) ∧ w'.cell? ⟨gs, jj, none⟩ = some (.string (strOfNums nj))) wa := ⟨(hba.block d2 (Array.getElem?_eq_some_iff.1 hSW.1).1).trans hSW.1, cell_later hba hSW.2⟩
            refine nany_one 11 (by kernel_rfl) ?_
            refine nop_value' 4 (v := .pointer (some ⟨q, 0, none⟩)) (w' := wa) rfl (by rfl) rfl (by rw [hwa, ← hq, HZ23.out]; go_simp) ?_
            clear hwa hq
            refine ⟨hSW, ?_⟩
            simp only [List.setIfInBounds_toArray, List.set_cons_zero, List.set_cons_succ]
            refine nany_one 12 (by kernel_rfl) ?_
            refine nop_skip (w' := wa.setRow q X') rfl (by rfl) rfl (ex_store 31 (.tmp 4) (.tmp 32) rfl q X' rfl rfl 31 z23 hqw (by rw [hds.ino.1]; exact sizeIno) (by rw [hds.ino.1]; exact HZI.out) hds.ino.2.1) ?_
            have hqd : q ≠ d2 := by have := HD2.out.2; omega
            have hsF : (fun w' => w'.heap[d2]? = some (.cells X 31 (0, 0)) ∧ w'.cell? ⟨gs, jj, none⟩ = some (.string (strOfNums nj))) (wa.setRow q X') := ⟨(setRow_other _ _ _ _ (Ne.symm hqd)).trans hSW.1, (World.cell?_of_block (setRow_other _ _ _ _ hgq)).trans hSW.2⟩
            have hdF : Ds w (wa.setRow q X') pv S' T (jj + 1) (addL (Lk jj) ⟨5, nj⟩) X' := (hds.later hba).mods (setRow_mods wa q X') (fun g e => by have e' : g = q := e; rw [e']; exact ⟨by have := HD2.out.1; omega, hnq, hnT⟩)
            refine ⟨hsF, ?_⟩
            refine nany_take 13 5 (n64 R) rfl rfl (by kernel_rfl) (by kernel_rfl) (by kernel_rfl) (fun _ _ _ h => h) (Or.inl ⟨by rfl, ?_⟩) hsF ?_
            · rintro w' hS'
              go_simp
            simp only [List.setIfInBounds_toArray, List.set_cons_zero, List.set_cons_succ]
            refine nany_take 14 6 (.nilIface) rfl rfl (by kernel_rfl) (by kernel_rfl) (by kernel_rfl) (fun _ _ _ h => h) (Or.inl ⟨by rfl, ?_⟩) hsF ?_
            · rintro w' hS'
              go_simp
            simp only [List.setIfInBounds_toArray, List.set_cons_zero, List.set_cons_succ]
            refine wpAnyH_done (by kernel_rfl) ?_ _
            go_wp2_with fail
            go_meet
            exact ⟨q, X', S', rfl, rfl, setRow_heap _ _ _ _ _ _ hqw, hdF, hsF.1, hzV, hqd⟩
          · obtain ⟨q, hq⟩ : ∃ q, wb.heap.size = q := ⟨_, rfl⟩
            obtain ⟨wz, hwz⟩ : ∃ W, W = wb.alloc (.cells z23 31) := ⟨_, rfl⟩
            have hzq : wz.heap[q]? = some (.cells z23 31 (0, 0)) := by rw [hwz, ← hq]; exact alloc_new wb _
            have hqV : V.heap.size ≤ q := by rw [← hq]; exact (hB2).size
            have hbz : Below wb.heap.size wb wz := by rw [hwz]; exact (Below.refl _ _).alloc (Nat.le_refl _) _
            have hS3 : (fun w' => w'.heap[d2]? = some (.cells X 31 (0, 0)) ∧ w'.cell? ⟨gs, jj, none⟩ = some (.string (strOfNums nj))) wz := ⟨(hbz.block d2 (Array.getElem?_eq_some_iff.1 hS3.1).1).trans hS3.1, cell_later hbz hS3.2⟩
            have hgq : gs ≠ q := by have := (Array.getElem?_eq_some_iff.1 hbh).1; omega
            have hBz : Below V.heap.size V wz := (hB2).trans (hbz.mono (hB2).size)
            refine nop_value' 4 (v := .pointer (some ⟨q, 0, none⟩)) (w' := wz) rfl (by rfl) rfl (by rw [hwz, ← hq, HZ23.out]; go_simp) ?_
            clear hwz hq
            refine ⟨hS3, ?_⟩
            simp only [List.setIfInBounds_toArray, List.set_cons_zero, List.set_cons_succ]
            refine nany_one 6 (by kernel_rfl) ?_
            refine nop_callE 31 (f := 9) (args := #[ptrV pv, .agg X, .string (strOfNums nj), n64 5]) (R := fun v w' => ∃ X' S', v = .tuple #[.agg X', n64 R, .nilIface] ∧ Ds w w' pv S' T (jj + 1) (addL (Lk jj) ⟨5, nj⟩) X' ∧ Kp S wz S' w') rfl (by rfl) rfl (by go_simp) ((HADD.out _ (hBz)).mono (fun e w' h => by obtain ⟨X', S', h1, h2, h3⟩ := h; exact ⟨_, h1, X', S', rfl, h2, h3⟩)) ?_
            rintro v ww ⟨X', S', rfl, hds, hK⟩
            have hSW : (fun w' => w'.heap[d2]? = some (.cells X 31 (0, 0)) ∧ w'.cell? ⟨gs, jj, none⟩ = some (.string (strOfNums nj))) ww := ⟨(hK.block (Array.getElem?_eq_some_iff.1 hS3.1).1 HNS2.out).trans hS3.1, hK.cell hS3.2 (HNS.out gs hgV)⟩
            have hzV : ∀ g, S' g → S g ∨ V.heap.size ≤ g := fun g hg => (hK.1 g hg).imp id (fun h => Nat.le_trans (hBz).size h)
            have hKV : Kp S V S' ww := ⟨hzV, (Mods.of_below (hBz)).tr hK.2⟩
            refine ⟨hSW, ?_⟩
            simp only [List.setIfInBounds_toArray, List.set_cons_zero, List.set_cons_succ]
            refine nany_take 7 24 (.tuple #[.agg X', n64 R, .nilIface]) rfl rfl (by kernel_rfl) (by kernel_rfl) (by kernel_rfl) (fun _ _ _ h => h) (Or.inl ⟨by rfl, ?_⟩) hSW ?_
            · rintro w' hS'
              go_simp
            simp only [List.setIfInBounds_toArray, List.set_cons_zero, List.set_cons_succ]
            refine nany_take 8 32 (.agg X') rfl rfl (by kernel_rfl) (by kernel_rfl) (by kernel_rfl) (fun _ _ _ h => h) (Or.inl ⟨by rfl, ?_⟩) hSW ?_
            · rintro w' hS'
              go_simp
            simp only [List.setIfInBounds_toArray, List.set_cons_zero, List.set_cons_succ]
            refine nany_take 9 33 (n64 R) rfl rfl (by kernel_rfl) (by kernel_rfl) (by kernel_rfl) (fun _ _ _ h => h) (Or.inl ⟨by rfl, ?_⟩) hSW ?_
            · rintro w' hS'
              go_simp
            simp only [List.setIfInBounds_toArray, List.set_cons_zero, List.set_cons_succ]
            refine nany_take 10 34 (.nilIface) rfl rfl (by kernel_rfl) (by kernel_rfl) (by kernel_rfl) (fun _ _ _ h => h) (Or.inl ⟨by rfl, ?_⟩) hSW ?_
            · rintro w' hS'
              go_simp
            simp only [List.setIfInBounds_toArray, List.set_cons_zero, List.set_cons_succ]
            have hqw : ww.heap[q]? = some (.cells z23 31 (0, 0)) := (hK.block (Array.getElem?_eq_some_iff.1 hzq).1 (HNS.out q hqV)).trans hzq
            have hnq : ¬ S' q := fun e => by rcases hK.1 q e with h | h; exact HNS.out q hqV h; have := (Array.getElem?_eq_some_iff.1 hzq).1; omega
            have hnT : ¬ T q := HNT.out q hqV
            refine nany_one 12 (by kernel_rfl) ?_
            refine nop_skip (w' := ww.setRow q X') rfl (by rfl) rfl (ex_store 31 (.tmp 4) (.tmp 32) rfl q X' rfl rfl 31 z23 hqw (by rw [hds.ino.1]; exact sizeIno) (by rw [hds.ino.1]; exact HZI.out) hds.ino.2.1) ?_
            have hqd : q ≠ d2 := by have := HD2.out.2; omega
            have hsF : (fun w' => w'.heap[d2]? = some (.cells X 31 (0, 0)) ∧ w'.cell? ⟨gs, jj, none⟩ = some (.string (strOfNums nj))) (ww.setRow q X') := ⟨(setRow_other _ _ _ _ (Ne.symm hqd)).trans hSW.1, (World.cell?_of_block (setRow_other _ _ _ _ hgq)).trans hSW.2⟩
            have hdF : Ds w (ww.setRow q X') pv S' T (jj + 1) (addL (Lk jj) ⟨5, nj⟩) X' := (hds).mods (setRow_mods ww q X') (fun g e => by have e' : g = q := e; rw [e']; exact ⟨by have := HD2.out.1; omega, hnq, hnT⟩)
            refine ⟨hsF, ?_⟩
            refine nany_take 13 5 (n64 R) rfl rfl (by kernel_rfl) (by kernel_rfl) (by kernel_rfl) (fun _ _ _ h => h) (Or.inl ⟨by rfl, ?_⟩) hsF ?_
            · rintro w' hS'
              go_simp
            simp only [List.setIfInBounds_toArray, List.set_cons_zero, List.set_cons_succ]
            refine nany_take 14 6 (.nilIface) rfl rfl (by kernel_rfl) (by kernel_rfl) (by kernel_rfl) (fun _ _ _ h => h) (Or.inl ⟨by rfl, ?_⟩) hsF ?_
            · rintro w' hS'
              go_simp
            simp only [List.setIfInBounds_toArray, List.set_cons_zero, List.set_cons_succ]
            refine wpAnyH_done (by kernel_rfl) ?_ _
            go_wp2_with fail
            go_meet
            exact ⟨q, X', S', rfl, rfl, setRow_heap _ _ _ _ _ _ hqw, hdF, hsF.1, hzV, hqd⟩
        · obtain ⟨q, hq⟩ : ∃ q, V.drew.heap.size = q := ⟨_, rfl⟩
          obtain ⟨wz, hwz⟩ : ∃ W, W = V.drew.alloc (.cells z23 31) := ⟨_, rfl⟩
          have hzq : wz.heap[q]? = some (.cells z23 31 (0, 0)) := by rw [hwz, ← hq]; exact alloc_new V.drew _
          have hqV : V.heap.size ≤ q := by rw [← hq]; exact ((Below.refl V.heap.size V).drew).size
          have hbz : Below V.drew.heap.size V.drew wz := by rw [hwz]; exact (Below.refl _ _).alloc (Nat.le_refl _) _
          have hS : wz.heap[d2]? = some (.cells X 31 (0, 0)) := (hbz.block d2 (Array.getElem?_eq_some_iff.1 hS).1).trans hS
          have hBz : Below V.heap.size V wz := ((Below.refl V.heap.size V).drew).trans (hbz.mono ((Below.refl V.heap.size V).drew).size)
          refine nop_value' 4 (v := .pointer (some ⟨q, 0, none⟩)) (w' := wz) rfl (by rfl) rfl (by rw [hwz, ← hq, HZ23.out]; go_simp) ?_
          clear hwz hq
          refine ⟨hS, ?_⟩
          simp only [List.setIfInBounds_toArray, List.set_cons_zero, List.set_cons_succ]
          refine nany_one 2 (by kernel_rfl) ?_
          obtain ⟨gs, hgs⟩ : ∃ g, wz.heap.size = g := ⟨_, rfl⟩
          obtain ⟨wb, hwb⟩ : ∃ W, W = wz.alloc (.cells #[.string ⟨#[97]⟩, .string ⟨#[98]⟩] 9) := ⟨_, rfl⟩
          have hbb : Below wz.heap.size wz wb := by rw [hwb]; exact (Below.refl _ _).alloc (Nat.le_refl _) _
          have hbh : wb.heap[gs]? = some (.cells #[.string ⟨#[97]⟩, .string ⟨#[98]⟩] 9 (0, 0)) := by rw [hwb, ← hgs]; exact alloc_new wz _
          have hB2 : Below V.heap.size V wb := (hBz).trans (hbb.mono (hBz).size)
          have hS2 : wb.heap[d2]? = some (.cells X 31 (0, 0)) := (hbb.block d2 (Array.getElem?_eq_some_iff.1 hS).1).trans hS
          have hst : wb.cell? ⟨gs, jj, none⟩ = some (.string (strOfNums nj)) := cell_of hbh HSTR.out
          refine nop_value' 27 (v := .slice (some ⟨gs, 0, none⟩) 2 2) (w' := wb) rfl (by rfl) rfl (by rw [hwb, ← hgs]; go_simp) ?_
          have hgsV : V.heap.size ≤ gs := by rw [← hgs]; exact hBz.size
          have hgsq : gs ≠ q := by have := (Array.getElem?_eq_some_iff.1 hzq).1; omega
          clear hwb hgs
          refine ⟨hS2, ?_⟩
          simp only [List.setIfInBounds_toArray, List.set_cons_zero, List.set_cons_succ]
          refine nwpAnyH_strong (S' := fun w' => w'.heap[d2]? = some (.cells X 31 (0, 0)) ∧ w'.cell? ⟨gs, jj, none⟩ = some (.string (strOfNums nj))) (fun w' h => h.1) _ _ _ _ ?_
          have hS3 : (fun w' => w'.heap[d2]? = some (.cells X 31 (0, 0)) ∧ w'.cell? ⟨gs, jj, none⟩ = some (.string (strOfNums nj))) wb := ⟨hS2, hst⟩
          refine nany_take 4 29 (.pointer (some ⟨gs, jj, none⟩)) rfl rfl (by kernel_rfl) (by kernel_rfl) (by kernel_rfl) (fun _ _ _ h => h) (Or.inl ⟨by rfl, ?_⟩) hS3 ?_
          · rintro w' hS'
            go_simp
          simp only [List.setIfInBounds_toArray, List.set_cons_zero, List.set_cons_succ]
          refine nany_take 5 30 (.string (strOfNums nj)) rfl rfl (by kernel_rfl) (by kernel_rfl) (by kernel_rfl) (fun _ _ _ h => h) (Or.inl ⟨by rfl, ?_⟩) hS3 ?_
          · rintro w' hS'
            obtain ⟨_, x1⟩ := hS'; go_simp
          simp only [List.setIfInBounds_toArray, List.set_cons_zero, List.set_cons_succ]
          have hgV : V.heap.size ≤ gs := hgsV
          have hgq : gs ≠ q := hgsq
          have hzq : wb.heap[q]? = some (.cells z23 31 (0, 0)) := (hbb.block q (Array.getElem?_eq_some_iff.1 hzq).1).trans hzq
          refine nany_one 6 (by kernel_rfl) ?_
          refine nop_callE 31 (f := 9) (args := #[ptrV pv, .agg X, .string (strOfNums nj), n64 5]) (R := fun v w' => ∃ X' S', v = .tuple #[.agg X', n64 R, .nilIface] ∧ Ds w w' pv S' T (jj + 1) (addL (Lk jj) ⟨5, nj⟩) X' ∧ Kp S wb S' w') rfl (by rfl) rfl (by go_simp) ((HADD.out _ (hB2)).mono (fun e w' h => by obtain ⟨X', S', h1, h2, h3⟩ := h; exact ⟨_, h1, X', S', rfl, h2, h3⟩)) ?_
          rintro v ww ⟨X', S', rfl, hds, hK⟩
          have hSW : (fun w' => w'.heap[d2]? = some (.cells X 31 (0, 0)) ∧ w'.cell? ⟨gs, jj, none⟩ = some (.string (strOfNums nj))) ww := ⟨(hK.block (Array.getElem?_eq_some_iff.1 hS3.1).1 HNS2.out).trans hS3.1, hK.cell hS3.2 (HNS.out gs hgV)⟩
          have hzV : ∀ g, S' g → S g ∨ V.heap.size ≤ g := fun g hg => (hK.1 g hg).imp id (fun h => Nat.le_trans (hB2).size h)
          have hKV : Kp S V S' ww := ⟨hzV, (Mods.of_below (hB2)).tr hK.2⟩
          refine ⟨hSW, ?_⟩
          simp only [List.setIfInBounds_toArray, List.set_cons_zero, List.set_cons_succ]
          refine nany_take 7 24 (.tuple #[.agg X', n64 R, .nilIface]) rfl rfl (by kernel_rfl) (by kernel_rfl) (by kernel_rfl) (fun _ _ _ h => h) (Or.inl ⟨by rfl, ?_⟩) hSW ?_
          · rintro w' hS'
            go_simp
          simp only [List.setIfInBounds_toArray, List.set_cons_zero, List.set_cons_succ]
          refine nany_take 8 32 (.agg X') rfl rfl (by kernel_rfl) (by kernel_rfl) (by kernel_rfl) (fun _ _ _ h => h) (Or.inl ⟨by rfl, ?_⟩) hSW ?_
          · rintro w' hS'
            go_simp
          simp only [List.setIfInBounds_toArray, List.set_cons_zero, List.set_cons_succ]
          refine nany_take 9 33 (n64 R) rfl rfl (by kernel_rfl) (by kernel_rfl) (by kernel_rfl) (fun _ _ _ h => h) (Or.inl ⟨by rfl, ?_⟩) hSW ?_
          · rintro w' hS'
            go_simp
          simp only [List.setIfInBounds_toArray, List.set_cons_zero, List.set_cons_succ]
          refine nany_take 10 34 (.nilIface) rfl rfl (by kernel_rfl) (by kernel_rfl) (by kernel_rfl) (fun _ _ _ h => h) (Or.inl ⟨by rfl, ?_⟩) hSW ?_
          · rintro w' hS'
            go_simp
          simp only [List.setIfInBounds_toArray, List.set_cons_zero, List.set_cons_succ]
          have hqw : ww.heap[q]? = some (.cells z23 31 (0, 0)) := (hK.block (Array.getElem?_eq_some_iff.1 hzq).1 (HNS.out q hqV)).trans hzq
          have hnq : ¬ S' q := fun e => by rcases hK.1 q e with h | h; exact HNS.out q hqV h; have := (Array.getElem?_eq_some_iff.1 hzq).1; omega
          have hnT : ¬ T q := HNT.out q hqV
          refine nany_one 12 (by kernel_rfl) ?_
          refine nop_skip (w' := ww.setRow q X') rfl (by rfl) rfl (ex_store 31 (.tmp 4) (.tmp 32) rfl q X' rfl rfl 31 z23 hqw (by rw [hds.ino.1]; exact sizeIno) (by rw [hds.ino.1]; exact HZI.out) hds.ino.2.1) ?_
          have hqd : q ≠ d2 := by have := HD2.out.2; omega
          have hsF : (fun w' => w'.heap[d2]? = some (.cells X 31 (0, 0)) ∧ w'.cell? ⟨gs, jj, none⟩ = some (.string (strOfNums nj))) (ww.setRow q X') := ⟨(setRow_other _ _ _ _ (Ne.symm hqd)).trans hSW.1, (World.cell?_of_block (setRow_other _ _ _ _ hgq)).trans hSW.2⟩
          have hdF : Ds w (ww.setRow q X') pv S' T (jj + 1) (addL (Lk jj) ⟨5, nj⟩) X' := (hds).mods (setRow_mods ww q X') (fun g e => by have e' : g = q := e; rw [e']; exact ⟨by have := HD2.out.1; omega, hnq, hnT⟩)
          refine ⟨hsF, ?_⟩
          refine nany_take 13 5 (n64 R) rfl rfl (by kernel_rfl) (by kernel_rfl) (by kernel_rfl) (fun _ _ _ h => h) (Or.inl ⟨by rfl, ?_⟩) hsF ?_
          · rintro w' hS'
            go_simp
          simp only [List.setIfInBounds_toArray, List.set_cons_zero, List.set_cons_succ]
          refine nany_take 14 6 (.nilIface) rfl rfl (by kernel_rfl) (by kernel_rfl) (by kernel_rfl) (fun _ _ _ h => h) (Or.inl ⟨by rfl, ?_⟩) hsF ?_
          · rintro w' hS'
            go_simp
          simp only [List.setIfInBounds_toArray, List.set_cons_zero, List.set_cons_succ]
          refine wpAnyH_done (by kernel_rfl) ?_ _
          go_wp2_with fail
          go_meet
          exact ⟨q, X', S', rfl, rfl, setRow_heap _ _ _ _ _ _ hqw, hdF, hsF.1, hzV, hqd⟩
      case rest =>
        obtain ⟨q, X', S', rfl, rfl, hq, hds, hbx, hz, hqd⟩ := hcut
        rw [HNX.out] at hds
        obtain ⟨wd, hwd⟩ : ∃ W, W = wc.setRow d2 X' := ⟨_, rfl⟩
        have hnd : ¬ S' d2 := fun e => by rcases hz d2 e with h | h; exact HNS2.out h; have := HD2.out.2; omega
        have hdd : Ds w wd pv S' T (jj + 1) (Lk (jj + 1)) X' := by
          rw [hwd]
          exact hds.mods (setRow_mods wc d2 X') (fun g e => by have e' : g = d2 := e; rw [e']; exact ⟨HDW.out, hnd, fun e => by have := HTD.out d2 e; omega⟩)
        have hbd : wd.heap[d2]? = some (.cells X' 31 (0, 0)) := by rw [hwd]; exact setRow_heap _ _ _ _ _ _ hbx
        have HQ := hid hq
        have HBX := hid hbx
        have HXX := hid hds.ino
        have HEND := hid (And.intro hdd (And.intro hbd hnd))
        clear hq hds hbx hz hqd hnd hdd hbd
        go_wp2_with (first | (refine wpList_load_row rfl 31 _ rfl q rfl 31 X' (0, 0) _ HQ.out Tryz.underlying31 rfl (by rw [HXX.out.1]; exact sizeIno) ?_) | (refine wpList_store_row rfl 31 _ _ rfl d2 X' rfl rfl 31 X HBX.out (by rw [HXX.out.1]; exact sizeIno) (by rw [HXX.out.1]; exact HXS.out) HXX.out.2.1 ?_; rw [← hwd]; clear hwd))
        go_roundw
        case rel => exact ⟨jj + 1, X', S', by omega, by first | rfl | go_num, HEND.out⟩
        case measure => simp [RowKit.intOf]; omega
    · have hlt' : ¬ (jj : Int) < 2 := by omega
      obtain rfl : jj = 2 := by omega
      have HD2' : Hid (V.heap[d2]? = some (.cells X 31 (0, 0))) := hid hbox
      have HXS := hid hds.ino.1
      have HTK := hid (hds.take HG.out (by omega) 2 (by omega) (by decide) (by decide))
      have HNS2 : Hid (¬ S d2) := hid hns
      clear hds hbox hns
      go_wp2_with (refine wpList_load_row rfl 31 _ rfl d2 rfl 31 X (0, 0) _ HD2'.out Tryz.underlying31 rfl (by rw [HXS.out]; exact sizeIno) ?_)
      refine HTK.out.mono ?_
      rintro e w4 ⟨S4, rfl, hds4, hk4⟩
      have b4 : w4.heap[d2]? = some (.cells X 31 (0, 0)) := (hk4.block (Array.getElem?_eq_some_iff.1 HD2'.out).1 HNS2.out).trans HD2'.out
      have HA4 := hid (hds4.add HG.out HE.out (by omega) (by decide) ⟨6, [99]⟩ (one_ok 6 99 (by omega) (by omega) (by omega) (by omega)) (by decide) (by decide) (one_nm 99 (by omega)) no3)
      rw [rm3, lt4] at HA4
      have HB4 := hid b4
      clear hds4 hk4 b4 HTK
      go_wp2_with (refine wpList_load_row rfl 31 _ rfl d2 rfl 31 X (0, 0) _ HB4.out Tryz.underlying31 rfl (by rw [HXS.out]; exact sizeIno) ?_)
      refine HA4.out.mono ?_
      rintro e w5 ⟨X5, S5, rfl, hds5, hk5⟩
      obtain ⟨q5, hq5⟩ : ∃ q, w5.heap.size = q := ⟨_, rfl⟩
      obtain ⟨U5, hU5⟩ : ∃ W, W = w5.alloc (.cells #[.int .i64 0, .int .i64 0, .int .i64 0, .int .u32 0, .int .u32 0, .int .u32 0, .int .u64 0, .int .u64 0, .int .u32 0, .int .u32 0, .int .u32 0, .int .u32 0, .int .u32 0, .int .u32 0, .int .i64 0, .int .i64 0, .int .i64 0, .int .i64 0, .int .i64 0, .int .i64 0, .int .i64 0, .int .i64 0, .int .i64 0] 31) := ⟨_, rfl⟩
      obtain ⟨V5, hV5⟩ : ∃ W, W = U5.setRow q5 X5 := ⟨_, rfl⟩
      have ku5 : U5.heap[q5]? = some (.cells z23 31 (0, 0)) := by rw [hU5, ← hq5, HZ23.out]; exact alloc_new w5 _
      have bu5 : Below w5.heap.size w5 U5 := by rw [hU5]; exact (Below.refl _ _).alloc (Nat.le_refl _) _
      have bv5 : Below w5.heap.size w5 V5 := by rw [hV5]; exact below_setRow bu5 (by omega) _
      have kv5 : V5.heap[q5]? = some (.cells X5 31 (0, 0)) := by rw [hV5]; exact setRow_heap _ _ _ _ _ _ ku5
      have HX5 := hid hds5.ino
      have HKU5 := hid ku5
      have HKV5 := hid kv5
      have HA5 := hid ((hds5.later bv5).add HG.out HE.out (by omega) (by decide) ⟨7, [100]⟩ (one_ok 7 100 (by omega) (by omega) (by omega) (by omega)) (by decide) (by decide) (one_nm 100 (by omega)) no4)
      rw [rm4, lt5] at HA5
      clear hds5 hk5 ku5 bu5 bv5 kv5 HA4
      go_wp2_with (first | (rw [← hU5]; clear hU5) | (rw [hq5]; clear hq5) | (refine wpList_store_row rfl 31 _ _ rfl q5 X5 rfl rfl 31 _ HKU5.out (by rw [HX5.out.1]; exact sizeIno) (by rw [HX5.out.1]; exact HZI.out) HX5.out.2.1 ?_; rw [← hV5]; clear hV5) | (refine wpList_load_row rfl 31 _ rfl q5 rfl 31 X5 (0, 0) _ HKV5.out Tryz.underlying31 rfl (by rw [HX5.out.1]; exact sizeIno) ?_))
      refine HA5.out.mono ?_
      rintro e w6 ⟨X6, S6, rfl, hds6, hk6⟩
      obtain ⟨q6, hq6⟩ : ∃ q, w6.heap.size = q := ⟨_, rfl⟩
      obtain ⟨U6, hU6⟩ : ∃ W, W = w6.alloc (.cells #[.int .i64 0, .int .i64 0, .int .i64 0, .int .u32 0, .int .u32 0, .int .u32 0, .int .u64 0, .int .u64 0, .int .u32 0, .int .u32 0, .int .u32 0, .int .u32 0, .int .u32 0, .int .u32 0, .int .i64 0, .int .i64 0, .int .i64 0, .int .i64 0, .int .i64 0, .int .i64 0, .int .i64 0, .int .i64 0, .int .i64 0] 31) := ⟨_, rfl⟩
      obtain ⟨V6, hV6⟩ : ∃ W, W = U6.setRow q6 X6 := ⟨_, rfl⟩
      have ku6 : U6.heap[q6]? = some (.cells z23 31 (0, 0)) := by rw [hU6, ← hq6, HZ23.out]; exact alloc_new w6 _
      have bu6 : Below w6.heap.size w6 U6 := by rw [hU6]; exact (Below.refl _ _).alloc (Nat.le_refl _) _
      have bv6 : Below w6.heap.size w6 V6 := by rw [hV6]; exact below_setRow bu6 (by omega) _
      have kv6 : V6.heap[q6]? = some (.cells X6 31 (0, 0)) := by rw [hV6]; exact setRow_heap _ _ _ _ _ _ ku6
      have s6 : V6.cell? ⟨q6, 6, none⟩ = some (.int .u64 160) := cell_of kv6 hds6.ino.2.2
      have HX6 := hid hds6.ino
      have HKU6 := hid ku6
      have HBF := hid (hds6.below.trans (bv6.mono hds6.below.size))
      clear hds6 hk6 ku6 bu6 bv6 kv6 HA5
      go_wp2_with (first | (rw [← hU6]; clear hU6) | (rw [hq6]; clear hq6) | (refine wpList_store_row rfl 31 _ _ rfl q6 X6 rfl rfl 31 _ HKU6.out (by rw [HX6.out.1]; exact sizeIno) (by rw [HX6.out.1]; exact HZI.out) HX6.out.2.1 ?_; rw [← hV6]; clear hV6))
      go_ret
      exact ⟨rfl, HBF.out⟩
end Go.Proofs.YtaplmlldmhdhoaaGreatDoor
