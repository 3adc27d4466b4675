/- CacheKeeps: what is dirty or pinned is never let go. -/
import Derived.Test.YtdfnfcimajomeaaCkS
import Derived.Test.YtdfnfcimajomeaaCcFrame
namespace Go.Proofs.Ytdfnfcimajomeaa
open Go.RowKit Go.Maps
theorem info9 : (Try.prog.info? 9).map (fun i => (i.zero, i.size, i.bytes)) = some (some (.string ByteArray.empty), 1, 16) := by kernel_rfl
theorem info4 : (Try.prog.info? 4).map (fun i => (i.zero, i.size, i.bytes)) = some (some (.bool false), 1, 1) := by kernel_rfl
theorem made16 (w : World) (z : Value) (t : TypeId) : (w.alloc (.cells (madeCells #[z] 16) t)).heap[w.heap.size]? = some (.cells (r16 fun _ => z) t (0, 0)) := by
  rw [alloc_new]
  have e : madeCells #[z] 16 = r16 fun _ => z := by
    apply Array.ext'
    rw [toList_madeCells_one]
    rfl
  rw [e]
set_option maxRecDepth 100000 in
set_option maxHeartbeats 64000000 in
theorem Keeps_any (w0 : World) (x : Int) (ac : Option Addr) (cl : List C7) (cap ln : Nat) (hcl : C7At w0 ac cl) (hln : cl.length = ln) (hl : ln ≤ maxLen) :
    Calls Try.prog 5 #[.int .i64 x, .slice ac ln cap] w0 fun e w' => e = .returned (.bool true) ∧ Below w0.heap.size w0 w' := by
  have HKN := hid (known_any w0)
  have HCL := hid hcl
  have HLN := hid hln
  have hlm : (ln : Int) ≤ 9223372036854775807 := by unfold maxLen at hl; omega
  obtain ⟨N, hN, hN1, hN2⟩ : ∃ N : Nat, 1 + wi x 8 = (N : Int) ∧ 1 ≤ N ∧ N ≤ 8 := by
    have := wi_bd x 8 (by omega)
    exact ⟨(1 + wi x 8).toNat, by omega, by omega, by omega⟩
  have HW1 : Hid (∀ w : World, Calls Try.prog 16 #[.int .i64 x, .int .i64 8] w fun e w' => e = .returned (.int .i64 (wi x 8)) ∧ w' = w) := hid (fun w => within_any x 8 (by omega) (by omega) w)
  have hwr : IntKind.i64.wrap (1 + wi x 8) = (N : Int) := by rw [hN]; exact IntWalk.i64_in _ (by omega)
  have hmk9 : ∀ w : World, (Instr.makeSlice 46 (.int .i64 16) (.int .i64 16)).run Try.prog w = .ok (.slice (some ⟨w.heap.size, 0, none⟩) 16 16) (w.alloc (.cells (madeCells #[.string ByteArray.empty] 16) 9)) := fun w => run_make_row' (P := Try.prog) 46 9 (.string ByteArray.empty) 16 Try.underlying46 info9 rfl .i64 .i64 16 (by omega) (by omega) w
  have hmk4 : ∀ w : World, (Instr.makeSlice 38 (.int .i64 16) (.int .i64 16)).run Try.prog w = .ok (.slice (some ⟨w.heap.size, 0, none⟩) 16 16) (w.alloc (.cells (madeCells #[.bool false] 16) 4)) := fun w => run_make_row' (P := Try.prog) 38 4 (.bool false) 1 Try.underlying38 info4 rfl .i64 .i64 16 (by omega) (by omega) w
  have hmk3 : ∀ w : World, (Instr.makeSlice 35 (.int .i64 16) (.int .i64 16)).run Try.prog w = .ok (.slice (some ⟨w.heap.size, 0, none⟩) 16 16) (w.alloc (.cells (madeCells #[.int .i64 0] 16) 3)) := fun w => run_make_row' (P := Try.prog) 35 3 (.int .i64 0) 8 Try.underlying35 info3 rfl .i64 .i64 16 (by omega) (by omega) w
  clear hcl hln hl hN
  generalize wi x 8 = wx at *
  go_enter Try.func5, Try.ntmps5
  go_wp2_with fail
  refine HKN.out.mono ?_
  rintro e w1 ⟨rfl, hb1⟩
  have HB1 := hid hb1
  clear hb1
  go_wp2_with fail
  refine (HW1.out w1).mono ?_
  rintro e w2 ⟨rfl, hw2⟩
  rw [hw2]
  clear hw2
  go_wp2_with fail
  refine (New_ok w1 N hN1 (by omega)).mono ?_
  rintro e w2 ⟨p, S, rfl, hc, hb, hls⟩
  have hv2 : Hv w0 w2 p S ⟨N, []⟩ 0 := ⟨hc, HB1.out.trans (hb.mono HB1.out.size), fun b hb2 => Nat.le_trans HB1.out.size (hls b hb2)⟩
  obtain ⟨W5, gl, gd, gp, e5, hgl, hgd, hgp⟩ : ∃ W5 gl gd gp, W5 = ((w2.alloc (.cells (madeCells #[.string ByteArray.empty] 16) 9)).alloc (.cells (madeCells #[.bool false] 16) 4)).alloc (.cells (madeCells #[.int .i64 0] 16) 3) ∧ gl = w2.heap.size ∧ gd = w2.heap.size + 1 ∧ gp = w2.heap.size + 1 + 1 := ⟨_, _, _, _, rfl, rfl, rfl, rfl⟩
  have HST : Hid (Hv w0 W5 p S ⟨N, []⟩ 0 ∧ Arr w0 W5 S gl gd gp (fun _ => ByteArray.empty) (fun _ => false) (fun _ => 0)) := hid (by
    have b3 : Below w2.heap.size w2 (w2.alloc (.cells (madeCells #[.string ByteArray.empty] 16) 9)) := (Below.refl _ _).alloc (Nat.le_refl _) _
    have b4 : Below (w2.alloc (.cells (madeCells #[.string ByteArray.empty] 16) 9)).heap.size (w2.alloc (.cells (madeCells #[.string ByteArray.empty] 16) 9)) ((w2.alloc (.cells (madeCells #[.string ByteArray.empty] 16) 9)).alloc (.cells (madeCells #[.bool false] 16) 4)) := (Below.refl _ _).alloc (Nat.le_refl _) _
    have b5 : Below ((w2.alloc (.cells (madeCells #[.string ByteArray.empty] 16) 9)).alloc (.cells (madeCells #[.bool false] 16) 4)).heap.size ((w2.alloc (.cells (madeCells #[.string ByteArray.empty] 16) 9)).alloc (.cells (madeCells #[.bool false] 16) 4)) W5 := by rw [e5]; exact (Below.refl _ _).alloc (Nat.le_refl _) _
    have s3 : (w2.alloc (.cells (madeCells #[.string ByteArray.empty] 16) 9)).heap.size = w2.heap.size + 1 := by simp
    have s4 : ((w2.alloc (.cells (madeCells #[.string ByteArray.empty] 16) 9)).alloc (.cells (madeCells #[.bool false] 16) 4)).heap.size = w2.heap.size + 1 + 1 := by simp
    have ow : ∀ {g : Nat} {cs : Array Value} {t : TypeId}, w2.heap.size ≤ g → W5.heap[g]? = some (.cells cs t (0, 0)) → Ow w0 W5 S F0 g cs t := fun hg hh => ⟨hh, fun e => by have := hc.lt _ e; omega, fun e => e, Nat.le_trans hv2.bel.size hg⟩
    refine ⟨((hv2.below b3).below b4).below b5, ow (by omega) ?_, ow (by omega) ?_, ow (by omega) ?_⟩
    · rw [hgl, b5.block _ (by omega), b4.block _ (by omega)]; exact made16 w2 _ _
    · rw [hgd, b5.block _ (by omega), ← s3]; exact made16 _ _ _
    · rw [hgp, e5, ← s4]; exact made16 _ _ _)
  have HKI : Hid (Ki ⟨N, []⟩ 0 (fun _ => ByteArray.empty) (fun _ => false) (fun _ => 0)) := hid ⟨by simp [nums], fun e he => by simp at he, fun x hx => by simp [nums] at hx, fun k _ => by simp [vw, nums, dO], fun k _ => by simp [vw, nums, pO], fun k _ e he => by simp [vw, nums] at he⟩
  clear hc hb hls hv2
  go_wp2_with fail
  rw [← e5, ← hgp, ← hgd, ← hgl]
  clear e5 hgl hgd hgp hmk9 hmk4 hmk3
  go_loopw [10] (fun z wr => ∃ (i : Nat) (S1 : Nat → Prop) (A : Cs) (L : Nat → ByteArray) (D : Nat → Bool) (P : Nat → Int), i ≤ 150 ∧ i ≤ ln ∧ z = .int .i64 i ∧ Hv w0 wr p S1 A (3 * i) ∧ Arr w0 wr S1 gl gd gp L D P ∧ Ki A (3 * i) L D P ∧ A.n = N) (fun z _ => ln - (RowKit.intOf z).toNat)
  case atStart => exact ⟨0, S, _, _, _, _, by omega, by omega, rfl, HST.out.1, HST.out.2, HKI.out, rfl⟩
  case round =>
    obtain ⟨i, S1, A, L, D, P, hi1, hi2, rfl, hv, ha, hk, han⟩ := hrel
    have HV := hid hv
    have HA := hid ha
    have HK := hid hk
    have HAN := hid han
    clear hv ha hk han HST HKI
    by_cases hlt : i < ln ∧ i < 150
    · have hi3 : (i : Int) < ln := by omega
      have hi4 : (i : Int) < 150 := by omega
      obtain ⟨bc, oc, hac, c0, c1, c2, c3, k0, k1, k2, k3, k4⟩ := HCL.out i (by rw [HLN.out]; omega)
      subst hac
      replace c0 := cell_later HV.out.bel c0
      replace c1 := cell_later HV.out.bel c1
      replace c2 := cell_later HV.out.bel c2
      replace c3 := cell_later HV.out.bel c3
      generalize (cl.getD i default).k = ck at *
      generalize (cl.getD i default).n = cn at *
      generalize (cl.getD i default).s = cs at *
      generalize (cl.getD i default).b = cb at *
      obtain ⟨n, hnw, hn16⟩ : ∃ n : Nat, wi cn 16 = (n : Int) ∧ n < 16 := by
        have := wi_bd cn 16 (by omega)
        exact ⟨(wi cn 16).toNat, by omega, by omega⟩
      have HWN : Hid (∀ w : World, Calls Try.prog 16 #[.int .i64 cn, .int .i64 16] w fun e w' => e = .returned (.int .i64 (n : Int)) ∧ w' = w) := hid (fun w => by rw [← hnw]; exact within_any cn 16 (by omega) (by omega) w)
      clear hnw
      have hn : IsI (n : Int) := isI_of (by omega) (by omega)
      have hni : (n : Int) < 16 := by omega
      obtain ⟨W6, hW6⟩ : ∃ W6, W6 = wr.alloc (.cells (cA ck cn cs cb) 33) := ⟨_, rfl⟩
      obtain ⟨ba, hba⟩ : ∃ ba, ba = wr.heap.size := ⟨_, rfl⟩
      have hb6 : Below wr.heap.size wr W6 := by rw [hW6]; exact (Below.refl _ _).alloc (Nat.le_refl _) _
      have hh6 : W6.heap[ba]? = some (.cells (cA ck cn cs cb) 33 (0, 0)) := by rw [hW6, hba]; exact alloc_new wr _
      obtain ⟨W7, hW7⟩ : ∃ W7, W7 = (W6.setCell ⟨ba, 1, none⟩ (.int .i64 (n : Int))).setCell ⟨ba, 2, none⟩ (.int .i64 0) := ⟨_, rfl⟩
      have hm7 : Mods (fun x => x = ba) W6 W7 := by rw [hW7]; exact (((Mods.refl (fun x => x = ba) W6).setCell _ _ _ rfl).setCell _ _ _ rfl)
      have hh7' := setc hh6 1 (.int .i64 (n : Int))
      have hh7 : W7.heap[ba]? = some (.cells (cA ck n 0 cb) 33 (0, 0)) := by rw [hW7]; exact setc hh7' 2 (.int .i64 0)
      have hb7 : Below wr.heap.size wr W7 := hm7.to_below hb6 hb6.size (fun x e => by omega)
      have e60 : W6.cell? ⟨ba, 0, none⟩ = some (.int .i64 ck) := cell_of hh6 rfl
      have e61 : W6.cell? ⟨ba, 1, none⟩ = some (.int .i64 cn) := cell_of hh6 rfl
      have e62 : (W6.setCell ⟨ba, 1, none⟩ (.int .i64 (n : Int))).cell? ⟨ba, 2, none⟩ = some (.int .i64 cs) := cell_of hh7' rfl
      have e63 : (W6.setCell ⟨ba, 1, none⟩ (.int .i64 (n : Int))).frozen? ⟨ba, 2, none⟩ = false := froz_of hh7' 2
      have e64 : W6.frozen? ⟨ba, 1, none⟩ = false := froz_of hh6 1
      have e65 : W6.cell? ⟨ba, 2, none⟩ = some (.int .i64 cs) := cell_of hh6 rfl
      have e66 : W6.frozen? ⟨ba, 2, none⟩ = false := froz_of hh6 2
      have HV7 := hid (HV.out.below hb7)
      have HA7 := hid (HA.out.keep (Kp.below hb7))
      have HO7 : Hid (Ow w0 W7 S1 F0 ba (cA ck n 0 cb) 33) := hid ⟨hh7, fun e => by have := HV.out.ca.lt _ e; omega, fun e => e, by rw [hba]; exact HV.out.bel.size⟩
      have hx0 : W7.cell? ⟨ba, 0, none⟩ = some (.int .i64 ck) := cell_of hh7 rfl
      have hx1 : W7.cell? ⟨ba, 1, none⟩ = some (.int .i64 (n : Int)) := cell_of hh7 rfl
      have hx2 : W7.cell? ⟨ba, 2, none⟩ = some (.int .i64 0) := cell_of hh7 rfl
      have hx3 : W7.cell? ⟨ba, 3, none⟩ = some (.int .u8 cb) := cell_of hh7 rfl
      clear hb6 hh6 hm7 hh7' hh7 hb7 HV HA
      go_wp2_with fail
      rw [← hW6, ← hba]
      clear hW6 hba
      refine (HWN.out W6).mono ?_
      rintro e w7 ⟨rfl, hw7⟩
      rw [hw7]
      clear hw7 HWN
      go_upto_block 2 with fail
      rw [← hW7]
      clear hW7 e60 e61 e62 e63 e64 e65 e66 c0 c1 c2 c3
      have hbd : Below W7.heap.size W7 W7.drew := (Below.refl _ _).drew
      have HVd := hid (HV7.out.below hbd)
      have HAd := hid (HA7.out.keep (Kp.below hbd))
      have HOd := hid (HO7.out.c1 (Kp.below hbd))
      clear hbd
      obtain ⟨ca, hca⟩ : ∃ ca, ca = cA ck n 0 cb := ⟨_, rfl⟩
      rw [← hca] at HO7 HOd
      have HCA := hid hca
      clear hca
      have HDA : Hid (∀ (w : World), Calls Try.prog 24 #[.agg ca] w fun e w' => e = .returned (.slice (some ⟨w.heap.size + 1, 0, none⟩) 512 512) ∧ w'.heap[w.heap.size + 1]? = some (.cells (u8s (dl cb 512)).toArray 5 (0, 0)) ∧ Below w.heap.size w w') := hid (fun w => by rw [HCA.out]; exact data_any w ck n 0 cb)
      have HDL : Hid ((dl cb 512).length = 512) := hid (dl_len cb 512)
      generalize hdd : dl cb 512 = dd at *
      clear hdd
      have HCE : Hid (∀ w5 S5, Ow w0 w5 S5 F0 ba ca 33 → w5.cell? ⟨ba, 0, none⟩ = some (.int .i64 ck) ∧ w5.cell? ⟨ba, 1, none⟩ = some (.int .i64 (n : Int)) ∧ w5.cell? ⟨ba, 2, none⟩ = some (.int .i64 0) ∧ w5.cell? ⟨ba, 3, none⟩ = some (.int .u8 cb)) := hid (fun w5 S5 o => by
        have e := o.hh.trans HO7.out.hh.symm
        exact ⟨(World.cell?_of_block (w := W7) e).trans hx0, (World.cell?_of_block (w := W7) e).trans hx1, (World.cell?_of_block (w := W7) e).trans hx2, (World.cell?_of_block (w := W7) e).trans hx3⟩)
      go_cut [12, 13] (fun v12 v13 wx => ∃ (S' : Nat → Prop) (A' : Cs) (L' : Nat → ByteArray) (D' : Nat → Bool) (P' : Nat → Int), Hv w0 wx p S' A' (3 * i + 2) ∧ Arr w0 wx S' gl gd gp L' D' P' ∧ Ki A' (3 * i + 2) L' D' P' ∧ Ow w0 wx S' F0 ba ca 33 ∧ A'.n = N)
      case first =>
        by_cases k2 : ck = 2
        · subst k2
          as_aux_lemma =>
            have HC : Hid (∀ w5 g5, Hv w0 w5 p S1 A (3 * i) → Arr w0 w5 S1 gl gd gp L D P → Ow w0 w5 S1 F0 ba ca 33 → Ow w0 w5 S1 F0 g5 (u8s dd).toArray 5 → Calls Try.prog 17 #[pv p, .int .i64 (n : Int), .slice (some ⟨g5, 0, none⟩) 512 512] w5 fun e w' => e = .returned (.int .i64 (fillR A n 512)) ∧ ∃ S', Hv w0 w' p S' (fillS A n dd) (3 * i + 1) ∧ Arr w0 w' S' gl gd gp L D P ∧ Ow w0 w' S' F0 ba ca 33) := hid (fun w5 g5 h1 h2 h3 h4 => by
              have := Fill_any h1.ca n hn _ dd (h4.datS HDL.out).1 (by omega)
              rw [HDL.out] at this
              exact this.mono (fun e w' ⟨q1, S', q2, q3⟩ => ⟨q1, S', h1.step q2 q3, h2.keep q3, h3.c1 q3⟩))
            have hca : #[Value.int .i64 2, .int .i64 (n : Int), .int .i64 0, .int .u8 cb] = ca := HCA.out.symm
            have HDB := HDA
            rw [← hca] at HDB
            clear hca
            have e1 : W7.drew.cell? ⟨ba, 0, none⟩ = some (.int .i64 2) ∧ W7.drew.cell? ⟨ba, 1, none⟩ = some (.int .i64 (n : Int)) ∧ W7.drew.cell? ⟨ba, 2, none⟩ = some (.int .i64 0) ∧ W7.drew.cell? ⟨ba, 3, none⟩ = some (.int .u8 cb) := ⟨hx0, hx1, hx2, hx3⟩
            by_cases hr : fillR A n 512 = 0
            · have HC2 := HC
              rw [hr] at HC2
              obtain ⟨AF, L', D', hAF, hL', hkk⟩ : ∃ AF L' D', fillS A n dd = AF ∧ L' = upN L n (strOfNums dd) ∧ D' = D ∧ Ki AF (3 * i + 2) L' D' P ∧ AF.n = A.n := by
                have hb : badR (n : Int) 512 = 0 := badR_ok (by omega)
                have hm : (n : Int) ∉ nums A.row := fun hm => by unfold fillR at hr; rw [if_pos hb, if_pos hm] at hr; omega
                cases hro : A.room with
                | none => unfold fillR at hr; rw [if_pos hb, if_neg hm, if_pos hro] at hr; omega
                | some A1 =>
                  refine ⟨_, _, D, rfl, rfl, rfl, ?_, by rw [(fill_ok (A := A) (k := (n : Int)) (by omega) hm hro dd HDL.out).2]; exact (room_sub hro).2⟩
                  rw [(fill_ok (A := A) (k := (n : Int)) (by omega) hm hro dd HDL.out).2]
                  have h5 := (HK.out.add hn16 hro hm dd false).more
                  have h6 : D n = false := by rw [HK.out.ad n hn16, vw_none hm]; rfl
                  have h7 : upN D n false = D := by rw [← h6]; exact upN_same D n
                  rw [h7] at h5
                  exact h5
              obtain ⟨hD', hkk, hnf⟩ := hkk
              have HKK := hid hkk
              have HNF := hid (hnf.trans HAN.out)
              clear hnf
              rw [hAF] at HC2
              clear hkk hAF HC hr
              go_wp2_with fail
              go_region_held3 (fun w' => w'.cell? ⟨ba, 0, none⟩ = some (.int .i64 2) ∧ w'.cell? ⟨ba, 1, none⟩ = some (.int .i64 (n : Int)) ∧ w'.cell? ⟨ba, 2, none⟩ = some (.int .i64 0) ∧ w'.cell? ⟨ba, 3, none⟩ = some (.int .u8 cb)) ((first | exact e1 | exact HS6.out | exact HS5.out))
                ((first
                  | (go_at_call 24; refine (HDB.out W7.drew).mono ?_; rintro e w5 ⟨rfl, h5, b5⟩; have H5 := hid (HVd.out.below b5); have HA5 := hid (HAd.out.keep (Kp.below b5)); have HO5 := hid (HOd.out.c1 (Kp.below b5)); have HG5 : Hid (Ow w0 w5 S1 F0 (W7.drew.heap.size + 1) (u8s dd).toArray 5) := hid ⟨h5, fun e => by have := HVd.out.ca.lt _ e; omega, fun e => e, by have := HVd.out.bel.size; omega⟩; have HS5 := hid (HCE.out w5 _ HO5.out); clear h5 b5)
                  | (go_at_call 17; refine (HC2.out w5 _ H5.out HA5.out HO5.out HG5.out).mono ?_; rintro e w6 ⟨rfl, S6, v6, a6, o6⟩; have H6 := hid v6; have HA6 := hid a6; have HO6 := hid o6; have HS6 := hid (HCE.out w6 _ o6); clear v6 a6 o6)))
              clear HS5 e1 H5 HA5 HO5 HG5
              have e6 : w6.drew.cell? ⟨ba, 0, none⟩ = some (.int .i64 2) ∧ w6.drew.cell? ⟨ba, 1, none⟩ = some (.int .i64 (n : Int)) ∧ w6.drew.cell? ⟨ba, 2, none⟩ = some (.int .i64 0) ∧ w6.drew.cell? ⟨ba, 3, none⟩ = some (.int .u8 cb) := HS6.out
              clear HS6
              have HDE : Hid (Calls Try.prog 24 #[.agg #[Value.int .i64 2, .int .i64 (n : Int), .int .i64 0, .int .u8 cb]] w6.drew fun e w' => e = .returned (.slice (some ⟨w6.heap.size + 1, 0, none⟩) 512 512) ∧ Hv w0 w' p S6 AF (3 * i + 2) ∧ Arr w0 w' S6 gl gd gp L D P ∧ Ow w0 w' S6 F0 ba ca 33 ∧ (convert 40 9 (.slice (some ⟨w6.heap.size + 1, 0, none⟩) 512 512)).run Try.prog w' = .ok (.string (strOfNums dd)) w') := hid ((HDB.out w6.drew).mono (fun e w' ⟨q1, q2, q3⟩ => by
                have hbd : Below w6.heap.size w6 w' := ((Below.refl _ w6).drew).trans q3
                refine ⟨q1, (H6.out.below hbd).more (by omega), HA6.out.keep (Kp.below hbd), HO6.out.c1 (Kp.below hbd), ?_⟩
                refine conv5 (n := 512) HDL.out (owns_of_block q2 (by omega) (by unfold maxLen; omega) (by simp [HDL.out]) (fun j hj => by rw [List.getElem?_toArray]) (by simp [HDL.out]))))
              generalize strOfNums dd = sx at *
              go_wp2_with fail
              refine wp_region_held_drew (S := (fun w' => w'.cell? ⟨ba, 0, none⟩ = some (.int .i64 2) ∧ w'.cell? ⟨ba, 1, none⟩ = some (.int .i64 (n : Int)) ∧ w'.cell? ⟨ba, 2, none⟩ = some (.int .i64 0) ∧ w'.cell? ⟨ba, 3, none⟩ = some (.int .u8 cb))) (by kernel_rfl) e6 (fun hS => ?_)
              refine nany_take 0 67 (.slice (some ⟨gl, 0, none⟩) 16 16) rfl rfl (by kernel_rfl) (by kernel_rfl) (by kernel_rfl) (fun _ _ _ h => h) (Or.inl ⟨by rfl, ?_⟩) hS ?_
              · rintro w' ⟨hw0, hw1, hw2, hw3⟩
                go_simp
              simp only [List.setIfInBounds_toArray, List.set_cons_zero, List.set_cons_succ]
              refine nany_take 1 68 (.pointer (some ⟨ba, 1, none⟩)) rfl rfl (by kernel_rfl) (by kernel_rfl) (by kernel_rfl) (fun _ _ _ h => h) (Or.inl ⟨by rfl, ?_⟩) hS ?_
              · rintro w' ⟨hw0, hw1, hw2, hw3⟩
                go_simp
              simp only [List.setIfInBounds_toArray, List.set_cons_zero, List.set_cons_succ]
              refine nany_take 2 69 (.int .i64 (n : Int)) rfl rfl (by kernel_rfl) (by kernel_rfl) (by kernel_rfl) (fun _ _ _ h => h) (Or.inl ⟨by rfl, ?_⟩) hS ?_
              · rintro w' ⟨hw0, hw1, hw2, hw3⟩
                go_simp
              simp only [List.setIfInBounds_toArray, List.set_cons_zero, List.set_cons_succ]
              refine nany_take 3 70 (.agg #[.int .i64 2, .int .i64 (n : Int), .int .i64 0, .int .u8 cb]) rfl rfl (by kernel_rfl) (by kernel_rfl) (by kernel_rfl) (fun _ _ _ h => h) (Or.inl ⟨by rfl, ?_⟩) hS ?_
              · rintro w' ⟨hw0, hw1, hw2, hw3⟩
                go_simp
              simp only [List.setIfInBounds_toArray, List.set_cons_zero, List.set_cons_succ]
              refine nany_one 4 (by kernel_rfl) ?_
              refine nop_callE 71 (f := 24) (args := #[.agg #[.int .i64 2, .int .i64 (n : Int), .int .i64 0, .int .u8 cb]]) (R := fun v w' => v = .slice (some ⟨w6.heap.size + 1, 0, none⟩) 512 512 ∧ Hv w0 w' p S6 AF (3 * i + 2) ∧ Arr w0 w' S6 gl gd gp L D P ∧ Ow w0 w' S6 F0 ba ca 33 ∧ (convert 40 9 (.slice (some ⟨w6.heap.size + 1, 0, none⟩) 512 512)).run Try.prog w' = .ok (.string sx) w') rfl (by rfl) rfl (by go_simp) (HDE.out.mono (fun e w' h => ⟨_, h.1, rfl, h.2⟩)) ?_
              rintro v7 w7 ⟨rfl, v7, a7, o7, hcv⟩
              have H7 := hid v7
              have HA7' := hid a7
              have HO7' := hid o7
              have HS7 := hid (HCE.out w7 _ o7)
              have cgl := (a7.cells hn16).1
              have fgl := (a7.cells hn16).2.2.2.1
              have HS8 := hid (show _ ∧ _ ∧ _ ∧ _ from HCE.out (w7.setCell ⟨gl, n, none⟩ (.string sx)) S6 ⟨(((Mods.refl (fun x => x = gl) w7).setCell gl n (.string sx) rfl).block ba o7.glt (o7.ne a7.ol (by decide))).trans o7.hh, o7.ns, o7.nt, o7.low⟩)
              clear v7 a7 o7 hS
              refine ⟨HS7.out, ?_⟩
              have hS := HS7.out
              simp only [List.setIfInBounds_toArray, List.set_cons_zero, List.set_cons_succ]
              refine nany_one 5 (by kernel_rfl) ?_
              refine nop_value' 72 (v := .string sx) (w' := w7) rfl (by rfl) rfl (by go_simp) ⟨HS7.out, ?_⟩
              simp only [List.setIfInBounds_toArray, List.set_cons_zero, List.set_cons_succ]
              refine nany_take 6 73 (.pointer (some ⟨gl, n, none⟩)) rfl rfl (by kernel_rfl) (by kernel_rfl) (by kernel_rfl) (fun _ _ _ h => h) (Or.inl ⟨by rfl, ?_⟩) hS ?_
              · rintro w' ⟨hw0, hw1, hw2, hw3⟩
                go_simp
              simp only [List.setIfInBounds_toArray, List.set_cons_zero, List.set_cons_succ]
              refine nany_one 7 (by kernel_rfl) ?_
              refine nop_skip (w' := w7.setCell ⟨gl, n, none⟩ (.string sx)) rfl (by rfl) rfl (by go_simp) ⟨HS8.out, ?_⟩
              refine wpAnyH_done (by kernel_rfl) ?_ _
              clear hS
              clear HS7 HS8 e6 hcv cgl fgl
              have HA8 := hid (HA7'.out.setL n sx)
              have HO8 : Hid (Ow w0 (w7.setCell ⟨gl, n, none⟩ (.string sx)) S6 F0 ba ca 33) := hid ⟨(HA8.out.2.block ba HO7'.out.glt (HO7'.out.ne HA7'.out.ol (by decide))).trans HO7'.out.hh, HO7'.out.ns, HO7'.out.nt, HO7'.out.low⟩
              have HV8 := hid (H7.out.outside HA8.out.2 (fun b e => by rw [e]; exact HA7'.out.ol.ns) (fun b e => by rw [e]; exact HA7'.out.ol.low))
              go_wp2_with fail
              go_meet
              case rel => exact ⟨S6, AF, upN L n sx, D, P, HV8.out, HA8.out.1, by rw [← hL', ← hD']; exact HKK.out, HO8.out, HNF.out⟩
            · have hrb : (fillR A n 512 == 0) = false := by rw [beq_eq_false_iff_ne]; exact hr
              have HST : Hid (fillS A n dd = A) := hid (by unfold fillS; rw [HDL.out, if_neg hr])
              have HKK := hid (HK.out.more.more)
              rw [HST.out] at HC
              clear HST
              generalize fillR A n 512 = rr at *
              go_wp2_with fail
              go_region_held3 (fun w' => w'.cell? ⟨ba, 0, none⟩ = some (.int .i64 2) ∧ w'.cell? ⟨ba, 1, none⟩ = some (.int .i64 (n : Int)) ∧ w'.cell? ⟨ba, 2, none⟩ = some (.int .i64 0) ∧ w'.cell? ⟨ba, 3, none⟩ = some (.int .u8 cb)) ((first | exact e1 | exact HS6.out | exact HS5.out))
                ((first
                  | (go_at_call 24; refine (HDB.out W7.drew).mono ?_; rintro e w5 ⟨rfl, h5, b5⟩; have H5 := hid (HVd.out.below b5); have HA5 := hid (HAd.out.keep (Kp.below b5)); have HO5 := hid (HOd.out.c1 (Kp.below b5)); have HG5 : Hid (Ow w0 w5 S1 F0 (W7.drew.heap.size + 1) (u8s dd).toArray 5) := hid ⟨h5, fun e => by have := HVd.out.ca.lt _ e; omega, fun e => e, by have := HVd.out.bel.size; omega⟩; have HS5 := hid (HCE.out w5 _ HO5.out); clear h5 b5)
                  | (go_at_call 17; refine (HC.out w5 _ H5.out HA5.out HO5.out HG5.out).mono ?_; rintro e w6 ⟨rfl, S6, v6, a6, o6⟩; have H6 := hid v6; have HA6 := hid a6; have HO6 := hid o6; have HS6 := hid (HCE.out w6 _ o6); clear v6 a6 o6)))
              clear HS5 HS6
              go_wp2_with fail
              go_meet
              case rel => exact ⟨S6, A, L, D, P, H6.out.more (by omega), HA6.out, HKK.out, HO6.out, HAN.out⟩
        · by_cases k3 : ck = 3
          · subst k3
            as_aux_lemma =>
              have HC : Hid (∀ w5 g5, Hv w0 w5 p S1 A (3 * i) → Arr w0 w5 S1 gl gd gp L D P → Ow w0 w5 S1 F0 ba ca 33 → Ow w0 w5 S1 F0 g5 (u8s dd).toArray 5 → Calls Try.prog 19 #[pv p, .int .i64 (n : Int), .slice (some ⟨g5, 0, none⟩) 512 512] w5 fun e w' => e = .returned (.int .i64 (putR A n 512)) ∧ ∃ S', Hv w0 w' p S' (putS A n dd) (3 * i + 1) ∧ Arr w0 w' S' gl gd gp L D P ∧ Ow w0 w' S' F0 ba ca 33) := hid (fun w5 g5 h1 h2 h3 h4 => by
                have := Put_any h1.ca n hn _ dd (h4.datS HDL.out).1 (by omega)
                rw [HDL.out] at this
                exact this.mono (fun e w' ⟨q1, S', q2, q3⟩ => ⟨q1, S', h1.step q2 q3, h2.keep q3, h3.c1 q3⟩))
              have hca : #[Value.int .i64 3, .int .i64 (n : Int), .int .i64 0, .int .u8 cb] = ca := HCA.out.symm
              have HDB := HDA
              rw [← hca] at HDB
              clear hca
              have e1 : W7.drew.cell? ⟨ba, 0, none⟩ = some (.int .i64 3) ∧ W7.drew.cell? ⟨ba, 1, none⟩ = some (.int .i64 (n : Int)) ∧ W7.drew.cell? ⟨ba, 2, none⟩ = some (.int .i64 0) ∧ W7.drew.cell? ⟨ba, 3, none⟩ = some (.int .u8 cb) := ⟨hx0, hx1, hx2, hx3⟩
              by_cases hr : putR A n 512 = 0
              · have HC2 := HC
                rw [hr] at HC2
                obtain ⟨AF, L', D', hAF, hL', hkk⟩ : ∃ AF L' D', putS A n dd = AF ∧ L' = upN L n (strOfNums dd) ∧ D' = upN D n true ∧ Ki AF (3 * i + 2) L' D' P ∧ AF.n = A.n := by
                  have hb : badR (n : Int) 512 = 0 := badR_ok (by omega)
                  by_cases hm : (n : Int) ∈ nums A.row
                  · refine ⟨_, _, _, rfl, rfl, rfl, ?_, by unfold putS; rw [HDL.out, if_pos hr, if_pos hm]⟩
                    have hps : putS A n dd = (A.use n).chg n (fun e => { e with dat := dd, dirty := true }) := by
                      rw [chg_use hm]
                      unfold putS
                      rw [HDL.out, if_pos hr, if_pos hm]
                    rw [hps]
                    have hku := HK.out.use hm
                    have hmu := (use_mem hm (n : Int)).2 hm
                    have hiv : Iv ((A.use n).chg n (fun e => { e with dat := dd, dirty := true })) (3 * i + 2) := hku.iv.chg _ (fun e he => ⟨rfl, fun _ => by have := hku.iv e he; dsimp only; omega⟩)
                    have h5 := hku.chg hmu (fun e => { e with dat := dd, dirty := true }) (fun _ => rfl) hiv (strOfNums dd) rfl
                    have h6 : upN P n ((fun e : Ec => { e with dat := dd, dirty := true }) ((A.use n).at n)).pins = P := by
                      have := (hku.at hn16 hmu).2.1
                      show upN P n ((A.use n).at n).pins = P
                      rw [← this]
                      exact upN_same P n
                    rw [h6] at h5
                    exact h5
                  · cases hro : A.room with
                    | none => unfold putR at hr; rw [if_pos hb, if_neg hm, if_pos hro] at hr; omega
                    | some A1 =>
                      refine ⟨_, _, _, rfl, rfl, rfl, ?_, by rw [(put_new (A := A) (k := (n : Int)) (by omega) hm hro dd HDL.out).2]; exact (room_sub hro).2⟩
                      rw [(put_new (A := A) (k := (n : Int)) (by omega) hm hro dd HDL.out).2]
                      exact (HK.out.add hn16 hro hm dd true).more
                obtain ⟨hD', hkk, hnf⟩ := hkk
                have HKK := hid hkk
                have HNF := hid (hnf.trans HAN.out)
                clear hnf
                rw [hAF] at HC2
                clear hkk hAF HC hr
                go_wp2_with fail
                go_region_held3 (fun w' => w'.cell? ⟨ba, 0, none⟩ = some (.int .i64 3) ∧ w'.cell? ⟨ba, 1, none⟩ = some (.int .i64 (n : Int)) ∧ w'.cell? ⟨ba, 2, none⟩ = some (.int .i64 0) ∧ w'.cell? ⟨ba, 3, none⟩ = some (.int .u8 cb)) ((first | exact e1 | exact HS6.out | exact HS5.out))
                  ((first
                    | (go_at_call 24; refine (HDB.out W7.drew).mono ?_; rintro e w5 ⟨rfl, h5, b5⟩; have H5 := hid (HVd.out.below b5); have HA5 := hid (HAd.out.keep (Kp.below b5)); have HO5 := hid (HOd.out.c1 (Kp.below b5)); have HG5 : Hid (Ow w0 w5 S1 F0 (W7.drew.heap.size + 1) (u8s dd).toArray 5) := hid ⟨h5, fun e => by have := HVd.out.ca.lt _ e; omega, fun e => e, by have := HVd.out.bel.size; omega⟩; have HS5 := hid (HCE.out w5 _ HO5.out); clear h5 b5)
                    | (go_at_call 19; refine (HC2.out w5 _ H5.out HA5.out HO5.out HG5.out).mono ?_; rintro e w6 ⟨rfl, S6, v6, a6, o6⟩; have H6 := hid v6; have HA6 := hid a6; have HO6 := hid o6; have HS6 := hid (HCE.out w6 _ o6); clear v6 a6 o6)))
                clear HS5 e1 H5 HA5 HO5 HG5
                have e6 : w6.drew.cell? ⟨ba, 0, none⟩ = some (.int .i64 3) ∧ w6.drew.cell? ⟨ba, 1, none⟩ = some (.int .i64 (n : Int)) ∧ w6.drew.cell? ⟨ba, 2, none⟩ = some (.int .i64 0) ∧ w6.drew.cell? ⟨ba, 3, none⟩ = some (.int .u8 cb) := HS6.out
                clear HS6
                have HDE : Hid (Calls Try.prog 24 #[.agg #[Value.int .i64 3, .int .i64 (n : Int), .int .i64 0, .int .u8 cb]] w6.drew fun e w' => e = .returned (.slice (some ⟨w6.heap.size + 1, 0, none⟩) 512 512) ∧ Hv w0 w' p S6 AF (3 * i + 2) ∧ Arr w0 w' S6 gl gd gp L D P ∧ Ow w0 w' S6 F0 ba ca 33 ∧ (convert 40 9 (.slice (some ⟨w6.heap.size + 1, 0, none⟩) 512 512)).run Try.prog w' = .ok (.string (strOfNums dd)) w') := hid ((HDB.out w6.drew).mono (fun e w' ⟨q1, q2, q3⟩ => by
                  have hbd : Below w6.heap.size w6 w' := ((Below.refl _ w6).drew).trans q3
                  refine ⟨q1, (H6.out.below hbd).more (by omega), HA6.out.keep (Kp.below hbd), HO6.out.c1 (Kp.below hbd), ?_⟩
                  refine conv5 (n := 512) HDL.out (owns_of_block q2 (by omega) (by unfold maxLen; omega) (by simp [HDL.out]) (fun j hj => by rw [List.getElem?_toArray]) (by simp [HDL.out]))))
                generalize strOfNums dd = sx at *
                go_wp2_with fail
                refine wp_region_held_drew (S := (fun w' => w'.cell? ⟨ba, 0, none⟩ = some (.int .i64 3) ∧ w'.cell? ⟨ba, 1, none⟩ = some (.int .i64 (n : Int)) ∧ w'.cell? ⟨ba, 2, none⟩ = some (.int .i64 0) ∧ w'.cell? ⟨ba, 3, none⟩ = some (.int .u8 cb))) (by kernel_rfl) e6 (fun hS => ?_)
                refine nany_take 0 83 (.slice (some ⟨gl, 0, none⟩) 16 16) rfl rfl (by kernel_rfl) (by kernel_rfl) (by kernel_rfl) (fun _ _ _ h => h) (Or.inl ⟨by rfl, ?_⟩) hS ?_
                · rintro w' ⟨hw0, hw1, hw2, hw3⟩
                  go_simp
                simp only [List.setIfInBounds_toArray, List.set_cons_zero, List.set_cons_succ]
                refine nany_take 1 84 (.pointer (some ⟨ba, 1, none⟩)) rfl rfl (by kernel_rfl) (by kernel_rfl) (by kernel_rfl) (fun _ _ _ h => h) (Or.inl ⟨by rfl, ?_⟩) hS ?_
                · rintro w' ⟨hw0, hw1, hw2, hw3⟩
                  go_simp
                simp only [List.setIfInBounds_toArray, List.set_cons_zero, List.set_cons_succ]
                refine nany_take 2 85 (.int .i64 (n : Int)) rfl rfl (by kernel_rfl) (by kernel_rfl) (by kernel_rfl) (fun _ _ _ h => h) (Or.inl ⟨by rfl, ?_⟩) hS ?_
                · rintro w' ⟨hw0, hw1, hw2, hw3⟩
                  go_simp
                simp only [List.setIfInBounds_toArray, List.set_cons_zero, List.set_cons_succ]
                refine nany_take 3 86 (.agg #[.int .i64 3, .int .i64 (n : Int), .int .i64 0, .int .u8 cb]) rfl rfl (by kernel_rfl) (by kernel_rfl) (by kernel_rfl) (fun _ _ _ h => h) (Or.inl ⟨by rfl, ?_⟩) hS ?_
                · rintro w' ⟨hw0, hw1, hw2, hw3⟩
                  go_simp
                simp only [List.setIfInBounds_toArray, List.set_cons_zero, List.set_cons_succ]
                refine nany_one 4 (by kernel_rfl) ?_
                refine nop_callE 87 (f := 24) (args := #[.agg #[.int .i64 3, .int .i64 (n : Int), .int .i64 0, .int .u8 cb]]) (R := fun v w' => v = .slice (some ⟨w6.heap.size + 1, 0, none⟩) 512 512 ∧ Hv w0 w' p S6 AF (3 * i + 2) ∧ Arr w0 w' S6 gl gd gp L D P ∧ Ow w0 w' S6 F0 ba ca 33 ∧ (convert 40 9 (.slice (some ⟨w6.heap.size + 1, 0, none⟩) 512 512)).run Try.prog w' = .ok (.string sx) w') rfl (by rfl) rfl (by go_simp) (HDE.out.mono (fun e w' h => ⟨_, h.1, rfl, h.2⟩)) ?_
                rintro v7 w7 ⟨rfl, v7, a7, o7, hcv⟩
                have H7 := hid v7
                have HA7' := hid a7
                have HO7' := hid o7
                have HS7 := hid (HCE.out w7 _ o7)
                have cgl := (a7.cells hn16).1
                have fgl := (a7.cells hn16).2.2.2.1
                have HS8 := hid (show _ ∧ _ ∧ _ ∧ _ from HCE.out (w7.setCell ⟨gl, n, none⟩ (.string sx)) S6 ⟨(((Mods.refl (fun x => x = gl) w7).setCell gl n (.string sx) rfl).block ba o7.glt (o7.ne a7.ol (by decide))).trans o7.hh, o7.ns, o7.nt, o7.low⟩)
                clear v7 a7 o7 hS
                refine ⟨HS7.out, ?_⟩
                have hS := HS7.out
                simp only [List.setIfInBounds_toArray, List.set_cons_zero, List.set_cons_succ]
                refine nany_one 5 (by kernel_rfl) ?_
                refine nop_value' 88 (v := .string sx) (w' := w7) rfl (by rfl) rfl (by go_simp) ⟨HS7.out, ?_⟩
                simp only [List.setIfInBounds_toArray, List.set_cons_zero, List.set_cons_succ]
                refine nany_take 6 89 (.pointer (some ⟨gl, n, none⟩)) rfl rfl (by kernel_rfl) (by kernel_rfl) (by kernel_rfl) (fun _ _ _ h => h) (Or.inl ⟨by rfl, ?_⟩) hS ?_
                · rintro w' ⟨hw0, hw1, hw2, hw3⟩
                  go_simp
                simp only [List.setIfInBounds_toArray, List.set_cons_zero, List.set_cons_succ]
                refine nany_one 7 (by kernel_rfl) ?_
                refine nop_skip (w' := w7.setCell ⟨gl, n, none⟩ (.string sx)) rfl (by rfl) rfl (by go_simp) ⟨HS8.out, ?_⟩
                refine wpAnyH_done (by kernel_rfl) ?_ _
                clear hS
                clear HS7 HS8 e6 hcv cgl fgl
                have HA8 := hid (HA7'.out.setL n sx)
                have HO8 : Hid (Ow w0 (w7.setCell ⟨gl, n, none⟩ (.string sx)) S6 F0 ba ca 33) := hid ⟨(HA8.out.2.block ba HO7'.out.glt (HO7'.out.ne HA7'.out.ol (by decide))).trans HO7'.out.hh, HO7'.out.ns, HO7'.out.nt, HO7'.out.low⟩
                have HV8 := hid (H7.out.outside HA8.out.2 (fun b e => by rw [e]; exact HA7'.out.ol.ns) (fun b e => by rw [e]; exact HA7'.out.ol.low))
                obtain ⟨W9, hW9⟩ : ∃ W9, W9 = w7.setCell ⟨gl, n, none⟩ (.string sx) := ⟨_, rfl⟩
                rw [← hW9] at HA8 HO8 HV8
                have cgd := (HA8.out.1.cells hn16).2.1
                have fgd := (HA8.out.1.cells hn16).2.2.2.2.1
                have cba := (HCE.out W9 _ HO8.out).2.1
                have HA9 := hid (HA8.out.1.setD n true)
                have HO9 : Hid (Ow w0 (W9.setCell ⟨gd, n, none⟩ (.bool true)) S6 F0 ba ca 33) := hid ⟨(HA9.out.2.block ba HO8.out.glt (HO8.out.ne HA8.out.1.od (by decide))).trans HO8.out.hh, HO8.out.ns, HO8.out.nt, HO8.out.low⟩
                have HV9 := hid (HV8.out.outside HA9.out.2 (fun b e => by rw [e]; exact HA8.out.1.od.ns) (fun b e => by rw [e]; exact HA8.out.1.od.low))
                subst hW9
                go_wp2_with fail
                go_meet
                case rel => exact ⟨S6, AF, upN L n sx, upN D n true, P, HV9.out, HA9.out.1, by rw [← hL', ← hD']; exact HKK.out, HO9.out, HNF.out⟩
              · have hrb : (putR A n 512 == 0) = false := by rw [beq_eq_false_iff_ne]; exact hr
                have HST : Hid (putS A n dd = A) := hid (by unfold putS; rw [HDL.out, if_neg hr])
                have HKK := hid (HK.out.more.more)
                rw [HST.out] at HC
                clear HST
                generalize putR A n 512 = rr at *
                go_wp2_with fail
                go_region_held3 (fun w' => w'.cell? ⟨ba, 0, none⟩ = some (.int .i64 3) ∧ w'.cell? ⟨ba, 1, none⟩ = some (.int .i64 (n : Int)) ∧ w'.cell? ⟨ba, 2, none⟩ = some (.int .i64 0) ∧ w'.cell? ⟨ba, 3, none⟩ = some (.int .u8 cb)) ((first | exact e1 | exact HS6.out | exact HS5.out))
                  ((first
                    | (go_at_call 24; refine (HDB.out W7.drew).mono ?_; rintro e w5 ⟨rfl, h5, b5⟩; have H5 := hid (HVd.out.below b5); have HA5 := hid (HAd.out.keep (Kp.below b5)); have HO5 := hid (HOd.out.c1 (Kp.below b5)); have HG5 : Hid (Ow w0 w5 S1 F0 (W7.drew.heap.size + 1) (u8s dd).toArray 5) := hid ⟨h5, fun e => by have := HVd.out.ca.lt _ e; omega, fun e => e, by have := HVd.out.bel.size; omega⟩; have HS5 := hid (HCE.out w5 _ HO5.out); clear h5 b5)
                    | (go_at_call 19; refine (HC.out w5 _ H5.out HA5.out HO5.out HG5.out).mono ?_; rintro e w6 ⟨rfl, S6, v6, a6, o6⟩; have H6 := hid v6; have HA6 := hid a6; have HO6 := hid o6; have HS6 := hid (HCE.out w6 _ o6); clear v6 a6 o6)))
                clear HS5 HS6
                go_wp2_with fail
                go_meet
                case rel => exact ⟨S6, A, L, D, P, H6.out.more (by omega), HA6.out, HKK.out, HO6.out, HAN.out⟩
          · by_cases k4 : ck = 4
            · subst k4
              as_aux_lemma =>
                have HC : Hid (Calls Try.prog 18 #[pv p, .int .i64 (n : Int)] W7 fun e w' => e = .returned (.int .i64 (pinR A n)) ∧ ∃ S', Hv w0 w' p S' (pinS A n) (3 * i) ∧ Arr w0 w' S' gl gd gp L D P ∧ Ow w0 w' S' F0 ba ca 33) := hid ((Pin_any HV7.out.ca n hn (HK.out.iv.pb (by omega))).mono (fun e w' ⟨q1, S', q2, q3⟩ => ⟨q1, S', HV7.out.step q2 q3, HA7.out.keep q3, HO7.out.c1 q3⟩))
                clear HVd HAd HOd
                by_cases hm : (n : Int) ∈ nums A.row
                · have hr : pinR A n = 0 := by unfold pinR; rw [if_pos hm]
                  have hst : pinS A n = A.chg n pinF := by unfold pinS; rw [if_pos hm]
                  have hat := HK.out.at hn16 hm
                  have HKK : Hid (Ki (A.chg n pinF) (3 * i + 2) L D (upN P n (P n + 1))) := hid (by
                    have hiv : Iv (A.chg n pinF) (3 * i + 1) := by rw [← hst]; exact HK.out.iv.pin n
                    have h5 := (HK.out.chg hm pinF (fun _ => rfl) hiv (strOfNums (A.at n).dat) rfl).more
                    rw [← hat.2.2, upN_same] at h5
                    have h6 : upN D n (pinF (A.at n)).dirty = D := by show upN D n (A.at n).dirty = D; rw [← hat.1]; exact upN_same D n
                    have h7 : (pinF (A.at n)).pins = P n + 1 := by rw [hat.2.1]; rfl
                    rw [h6, h7] at h5
                    exact h5)
                  have hpb : 0 ≤ P n ∧ P n ≤ 1000 := by
                    have := HK.out.iv _ (atL_mem hm).1
                    rw [hat.2.1]
                    unfold Cs.at
                    omega
                  have hw : IntKind.i64.wrap (P n + 1) = P n + 1 := IntWalk.i64_in _ (by omega)
                  rw [hr, hst] at HC
                  clear hr hst hat hm hpb
                  go_wp2_with fail
                  refine HC.out.mono ?_
                  rintro e w5 ⟨rfl, S5, v5, a5, o5⟩
                  have H5 := hid v5
                  have HA5 := hid a5
                  have HO5 := hid o5
                  clear v5 a5 o5 HC
                  have HA6 := hid (HA5.out.setP n (P n + 1))
                  have HO6 : Hid (Ow w0 (w5.setCell ⟨gp, n, none⟩ (.int .i64 (P n + 1))) S5 F0 ba ca 33) := hid ⟨(HA6.out.2.block ba HO5.out.glt (HO5.out.ne HA5.out.op (by decide))).trans HO5.out.hh, HO5.out.ns, HO5.out.nt, HO5.out.low⟩
                  have HV6 := hid (H5.out.outside HA6.out.2 (fun b e => by rw [e]; exact HA5.out.op.ns) (fun b e => by rw [e]; exact HA5.out.op.low))
                  have c5 := HA5.out.cells hn16
                  have c51 := c5.1
                  have c52 := c5.2.1
                  have c53 := c5.2.2.1
                  have f52 := c5.2.2.2.2.1
                  have f53 := c5.2.2.2.2.2
                  have cba := (HCE.out w5 _ HO5.out).2.1
                  clear c5
                  generalize P n = pn at *
                  go_wp2_with fail
                  go_meet
                  case rel => exact ⟨S5, _, L, D, _, HV6.out.more (by omega), HA6.out.1, HKK.out, HO6.out, HAN.out⟩
                · have hr : pinR A n = 17 := by unfold pinR; rw [if_neg hm]
                  have hst : pinS A n = A := by unfold pinS; rw [if_neg hm]
                  have HKK := hid (HK.out.more.more)
                  rw [hr, hst] at HC
                  clear hr hst hm
                  go_wp2_with fail
                  refine HC.out.mono ?_
                  rintro e w5 ⟨rfl, S5, v5, a5, o5⟩
                  have H5 := hid v5
                  have HA5 := hid a5
                  have HO5 := hid o5
                  clear v5 a5 o5 HC
                  go_wp2_with fail
                  go_meet
                  case rel => exact ⟨S5, A, L, D, P, H5.out.more (by omega), HA5.out, HKK.out, HO5.out, HAN.out⟩
            · by_cases k5 : ck = 5
              · subst k5
                as_aux_lemma =>
                  have HC : Hid (Calls Try.prog 21 #[pv p, .int .i64 (n : Int)] W7 fun e w' => e = .returned (.int .i64 (unpR A n)) ∧ ∃ S', Hv w0 w' p S' (unpS A n) (3 * i) ∧ Arr w0 w' S' gl gd gp L D P ∧ Ow w0 w' S' F0 ba ca 33) := hid ((Unpin_any HV7.out.ca n hn (HK.out.iv.pb (by omega))).mono (fun e w' ⟨q1, S', q2, q3⟩ => ⟨q1, S', HV7.out.step q2 q3, HA7.out.keep q3, HO7.out.c1 q3⟩))
                  clear HVd HAd HOd
                  by_cases hr0 : unpR A n = 0
                  · have hm : (n : Int) ∈ nums A.row := by
                      by_cases hm : (n : Int) ∈ nums A.row
                      · exact hm
                      · unfold unpR at hr0; rw [if_neg hm] at hr0; omega
                    have hst : unpS A n = A.chg n unpF := by unfold unpS; rw [if_pos hr0]
                    have hat := HK.out.at hn16 hm
                    have HKK : Hid (Ki (A.chg n unpF) (3 * i + 2) L D (upN P n (P n - 1))) := hid (by
                      have hiv : Iv (A.chg n unpF) (3 * i + 1) := by rw [← hst]; exact HK.out.iv.unp HK.out.nd n
                      have h5 := (HK.out.chg hm unpF (fun _ => rfl) hiv (strOfNums (A.at n).dat) rfl).more
                      rw [← hat.2.2, upN_same] at h5
                      have h6 : upN D n (unpF (A.at n)).dirty = D := by show upN D n (A.at n).dirty = D; rw [← hat.1]; exact upN_same D n
                      have h7 : (unpF (A.at n)).pins = P n - 1 := by rw [hat.2.1]; rfl
                      rw [h6, h7] at h5
                      exact h5)
                    have hpb : 0 ≤ P n ∧ P n ≤ 1000 := by
                      have := HK.out.iv _ (atL_mem hm).1
                      rw [hat.2.1]
                      unfold Cs.at
                      omega
                    have hw : IntKind.i64.wrap (P n - 1) = P n - 1 := IntWalk.i64_in _ (by omega)
                    rw [hr0, hst] at HC
                    clear hr0 hst hat hm hpb
                    go_wp2_with fail
                    refine HC.out.mono ?_
                    rintro e w5 ⟨rfl, S5, v5, a5, o5⟩
                    have H5 := hid v5
                    have HA5 := hid a5
                    have HO5 := hid o5
                    clear v5 a5 o5 HC
                    have HA6 := hid (HA5.out.setP n (P n - 1))
                    have HO6 : Hid (Ow w0 (w5.setCell ⟨gp, n, none⟩ (.int .i64 (P n - 1))) S5 F0 ba ca 33) := hid ⟨(HA6.out.2.block ba HO5.out.glt (HO5.out.ne HA5.out.op (by decide))).trans HO5.out.hh, HO5.out.ns, HO5.out.nt, HO5.out.low⟩
                    have HV6 := hid (H5.out.outside HA6.out.2 (fun b e => by rw [e]; exact HA5.out.op.ns) (fun b e => by rw [e]; exact HA5.out.op.low))
                    have c5 := HA5.out.cells hn16
                    have c51 := c5.1
                    have c52 := c5.2.1
                    have c53 := c5.2.2.1
                    have f52 := c5.2.2.2.2.1
                    have f53 := c5.2.2.2.2.2
                    have cba := (HCE.out w5 _ HO5.out).2.1
                    clear c5
                    generalize P n = pn at *
                    go_wp2_with fail
                    go_meet
                    case rel => exact ⟨S5, _, L, D, _, HV6.out.more (by omega), HA6.out.1, HKK.out, HO6.out, HAN.out⟩
                  · have hst : unpS A n = A := by unfold unpS; rw [if_neg hr0]
                    have HKK := hid (HK.out.more.more)
                    rw [hst] at HC
                    have hrb : (unpR A n == 0) = false := by rw [beq_eq_false_iff_ne]; exact hr0
                    generalize unpR A n = rr at *
                    clear hst
                    go_wp2_with fail
                    refine HC.out.mono ?_
                    rintro e w5 ⟨rfl, S5, v5, a5, o5⟩
                    have H5 := hid v5
                    have HA5 := hid a5
                    have HO5 := hid o5
                    clear v5 a5 o5 HC
                    go_wp2_with fail
                    go_meet
                    case rel => exact ⟨S5, A, L, D, P, H5.out.more (by omega), HA5.out, HKK.out, HO5.out, HAN.out⟩
              · by_cases k6 : ck = 6
                · subst k6
                  as_aux_lemma =>
                    have HC : Hid (Calls Try.prog 22 #[pv p, .int .i64 (n : Int)] W7 fun e w' => e = .returned (.int .i64 (pinR A n)) ∧ ∃ S', Hv w0 w' p S' (cleS A n) (3 * i) ∧ Arr w0 w' S' gl gd gp L D P ∧ Ow w0 w' S' F0 ba ca 33) := hid ((Clean_any HV7.out.ca n hn).mono (fun e w' ⟨q1, S', q2, q3⟩ => ⟨q1, S', HV7.out.step q2 q3, HA7.out.keep q3, HO7.out.c1 q3⟩))
                    clear HVd HAd HOd
                    by_cases hm : (n : Int) ∈ nums A.row
                    · have hr : pinR A n = 0 := by unfold pinR; rw [if_pos hm]
                      have hst : cleS A n = A.chg n cleF := by unfold cleS; rw [if_pos hm]
                      have hat := HK.out.at hn16 hm
                      have HKK : Hid (Ki (A.chg n cleF) (3 * i + 2) L (upN D n false) P) := hid (by
                        have hiv : Iv (A.chg n cleF) (3 * i + 1) := by rw [← hst]; exact HK.out.iv.cle n
                        have h5 := (HK.out.chg hm cleF (fun _ => rfl) hiv (strOfNums (A.at n).dat) rfl).more
                        rw [← hat.2.2, upN_same] at h5
                        have h6 : upN P n (cleF (A.at n)).pins = P := by show upN P n (A.at n).pins = P; rw [← hat.2.1]; exact upN_same P n
                        rw [h6] at h5
                        exact h5)
                      rw [hr, hst] at HC
                      clear hr hst hat hm
                      go_wp2_with fail
                      refine HC.out.mono ?_
                      rintro e w5 ⟨rfl, S5, v5, a5, o5⟩
                      have H5 := hid v5
                      have HA5 := hid a5
                      have HO5 := hid o5
                      clear v5 a5 o5 HC
                      have HA6 := hid (HA5.out.setD n (false))
                      have HO6 : Hid (Ow w0 (w5.setCell ⟨gd, n, none⟩ (.bool (false))) S5 F0 ba ca 33) := hid ⟨(HA6.out.2.block ba HO5.out.glt (HO5.out.ne HA5.out.od (by decide))).trans HO5.out.hh, HO5.out.ns, HO5.out.nt, HO5.out.low⟩
                      have HV6 := hid (H5.out.outside HA6.out.2 (fun b e => by rw [e]; exact HA5.out.od.ns) (fun b e => by rw [e]; exact HA5.out.od.low))
                      have c5 := HA5.out.cells hn16
                      have c51 := c5.1
                      have c52 := c5.2.1
                      have c53 := c5.2.2.1
                      have f52 := c5.2.2.2.2.1
                      have f53 := c5.2.2.2.2.2
                      have cba := (HCE.out w5 _ HO5.out).2.1
                      clear c5
                      go_wp2_with fail
                      go_meet
                      case rel => exact ⟨S5, _, L, _, P, HV6.out.more (by omega), HA6.out.1, HKK.out, HO6.out, HAN.out⟩
                    · have hr : pinR A n = 17 := by unfold pinR; rw [if_neg hm]
                      have hst : cleS A n = A := by unfold cleS; rw [if_neg hm]
                      have HKK := hid (HK.out.more.more)
                      rw [hr, hst] at HC
                      clear hr hst hm
                      go_wp2_with fail
                      refine HC.out.mono ?_
                      rintro e w5 ⟨rfl, S5, v5, a5, o5⟩
                      have H5 := hid v5
                      have HA5 := hid a5
                      have HO5 := hid o5
                      clear v5 a5 o5 HC
                      go_wp2_with fail
                      go_meet
                      case rel => exact ⟨S5, A, L, D, P, H5.out.more (by omega), HA5.out, HKK.out, HO5.out, HAN.out⟩
                · by_cases k7 : ck = 7
                  · subst k7
                    as_aux_lemma =>
                      have HC : Hid (Calls Try.prog 20 #[pv p, .int .i64 (n : Int)] W7 fun e w' => e = .returned (.int .i64 (droR A n)) ∧ ∃ S', Hv w0 w' p S' (droS A n) (3 * i) ∧ Arr w0 w' S' gl gd gp L D P ∧ Ow w0 w' S' F0 ba ca 33) := hid ((Drop_any HV7.out.ca n hn).mono (fun e w' ⟨q1, S', q2, q3⟩ => ⟨q1, S', HV7.out.step q2 q3, HA7.out.keep q3, HO7.out.c1 q3⟩))
                      clear HVd HAd HOd
                      by_cases hr0 : droR A n = 0
                      · have hm : (n : Int) ∈ nums A.row := by
                          by_cases hm : (n : Int) ∈ nums A.row
                          · exact hm
                          · unfold droR at hr0; rw [if_neg hm] at hr0; omega
                        have hmay : may (A.at n) = true := by
                          by_cases hy : may (A.at n) = true
                          · exact hy
                          · unfold droR at hr0; rw [if_pos hm, if_neg hy] at hr0; omega
                        have hst : droS A n = A.cut n := by unfold droS; rw [if_pos hr0]
                        have hat := HK.out.at hn16 hm
                        have HKK := hid ((HK.out.drop hm hmay).more)
                        have hDP : D n = false ∧ P n = 0 := by
                          unfold may at hmay
                          simp at hmay
                          exact ⟨hat.1.trans hmay.1, hat.2.1.trans hmay.2⟩
                        have HDP := hid hDP
                        rw [hr0, hst] at HC
                        clear hr0 hst hat hm hmay hDP
                        go_wp2_with fail
                        refine HC.out.mono ?_
                        rintro e w5 ⟨rfl, S5, v5, a5, o5⟩
                        have H5 := hid v5
                        have HA5 := hid a5
                        have HO5 := hid o5
                        clear v5 a5 o5 HC
                        have c5 := HA5.out.cells hn16
                        have c52 := c5.2.1
                        have c53 := c5.2.2.1
                        have cba := (HCE.out w5 _ HO5.out).2.1
                        rw [HDP.out.1] at c52
                        rw [HDP.out.2] at c53
                        clear c5
                        go_wp2_with fail
                        go_meet
                        case rel => exact ⟨S5, _, L, D, P, H5.out.more (by omega), HA5.out, HKK.out, HO5.out, HAN.out⟩
                      · have hst : droS A n = A := by unfold droS; rw [if_neg hr0]
                        have HKK := hid (HK.out.more.more)
                        rw [hst] at HC
                        have hrb : (droR A n == 0) = false := by rw [beq_eq_false_iff_ne]; exact hr0
                        generalize droR A n = rr at *
                        clear hst
                        go_wp2_with fail
                        refine HC.out.mono ?_
                        rintro e w5 ⟨rfl, S5, v5, a5, o5⟩
                        have H5 := hid v5
                        have HA5 := hid a5
                        have HO5 := hid o5
                        clear v5 a5 o5 HC
                        go_wp2_with fail
                        go_meet
                        case rel => exact ⟨S5, A, L, D, P, H5.out.more (by omega), HA5.out, HKK.out, HO5.out, HAN.out⟩
                  · have HKK := hid (HK.out.more.more)
                    clear HVd HAd HOd
                    go_wp2_with fail
                    go_meet
                    case rel => exact ⟨S1, A, L, D, P, HV7.out.more (by omega), HA7.out, HKK.out, HO7.out, HAN.out⟩
      case rest =>
        obtain ⟨S', A', L', D', P', hv, ha, hk, ho, han⟩ := hcut
        have HV := hid hv
        have HA := hid ha
        have HKI := hid hk
        have HO := hid ho
        have HAN2 := hid han
        have HL9 : Hid ((nums A'.row).length = A'.row.length) := hid (by simp [nums])
        have hrl : A'.row.length ≤ N := by
          obtain ⟨ad, bm, vr, M, hc⟩ := hv.ca
          have := hc.len
          omega
        have HHE := hid (Held_any hv.ca)
        clear hv ha hk ho han HVd HAd HOd HV7 HA7 HO7 HK hx0 hx1 hx2 hx3 HDA
        obtain ⟨l9, hl9⟩ : ∃ l9, l9 = A'.row.length := ⟨_, rfl⟩
        rw [← hl9] at HL9 hrl HHE
        clear hl9
        go_wp2_with fail
        refine HHE.out.mono ?_
        rintro e w9 ⟨v9, rfl, o9, b9⟩
        have HV9 := hid (HV.out.below b9)
        have HA9 := hid (HA.out.keep (Kp.below b9))
        have HO9 := hid (HO.out.c1 (Kp.below b9))
        obtain ⟨a9, c9, e9⟩ := owns_slice o9
        subst e9
        have HR9 := hid (owns_zero o9)
        have HRN : Hid (∀ g, (Value.slice a9 l9 c9).ownBlock = some g → ¬ S' g) := hid (fun g hg e => by have := (owns_lt o9 hg).2; have := HV.out.ca.lt g e; omega)
        have hrl2 : ¬ ((N : Int) < (l9 : Int)) := by omega
        have hrl3 : ¬ (N < l9) := by omega
        have hrl4 : decide (N < l9) = false := decide_eq_false hrl3
        clear o9 b9 HV HA HO HHE
        go_wp2_with fail
        go_loopw [15] (fun z wy => ∃ k : Nat, k ≤ 16 ∧ z = .int .i64 k ∧ Below w9.heap.size w9 wy) (fun z _ => 16 - (RowKit.intOf z).toNat)
        case atStart => exact ⟨0, by omega, rfl, Below.refl _ _⟩
        case round =>
          obtain ⟨k, hk, rfl, hbk⟩ := hrel
          obtain ⟨w5, hw5⟩ : ∃ w5, w5 = wr := ⟨_, rfl⟩
          rw [← hw5] at hbk ⊢
          clear hw5 wr
          have HBK := hid hbk
          have HVk := hid (HV9.out.below hbk)
          have HAk := hid (HA9.out.keep (Kp.below hbk))
          have HOk := hid (HO9.out.c1 (Kp.below hbk))
          have HRk := hid (owns_later9 HR9.out hbk)
          clear hbk
          by_cases hk16 : k < 16
          · have hki : (k : Int) < 16 := by omega
            obtain ⟨q1, q2, q3, q4⟩ := HKI.out.held hk16
            have cD := (HAk.out.cells hk16).2.1
            have cP := (HAk.out.cells hk16).2.2.1
            have hbd : Below w5.heap.size w5 w5.drew := (Below.refl _ _).drew
            have HH := hid (has_any w5.drew (.slice a9 l9 c9) (nums A'.row) l9 HL9.out (k : Int) 0 (owns_later9 HRk.out hbd) (by omega))
            have HDT := hid (Dirty_any (HVk.out.below hbd).ca)
            have hdl9 : (dirL A'.row).length ≤ 1000000 := by
              have h8 := dirL_len A'.row
              have h9 : (nums A'.row).length = A'.row.length := by simp [nums]
              have h10 := HL9.out
              omega
            have HHD : Hid (∀ w8 v8, w8.ownsRow w5.drew.heap.size 3 1 v8 (dirL A'.row).length (ints (srt (dirL A'.row))) → Calls Try.prog 25 #[v8, .int .i64 (k : Int)] w8 fun e w' => e = .returned (.bool (decide ((k : Int) ∈ srt (dirL A'.row)))) ∧ w' = w8) := hid (fun w8 v8 o8 => has_any w8 v8 (srt (dirL A'.row)) _ (srt_len _) (k : Int) _ o8 hdl9)
            rw [q4] at HHD
            have hmem : (D' k = true ∨ 0 < P' k) → decide ((k : Int) ∈ nums A'.row) = true := fun h => decide_eq_true (h.elim q1 q2)
            clear q1 q2 q4 hbd hdl9
            generalize P' k = pk at *
            generalize D' k = dk at *
            have hp0 : ¬ (pk < 0) := by omega
            cases dk with
            | true =>
              rw [hmem (.inl rfl)] at HH
              clear hmem
              as_aux_lemma =>
                go_wp2_with fail
                refine wp_region_held_drew (S := (fun w' => w'.cell? ⟨gd, k, none⟩ = some (.bool true) ∧ w'.cell? ⟨gp, k, none⟩ = some (.int .i64 pk))) (by kernel_rfl) ⟨cD, cP⟩ (fun hS => ?_)
                refine nany_take 0 167 (.slice (some ⟨gd, 0, none⟩) 16 16) rfl rfl (by kernel_rfl) (by kernel_rfl) (by kernel_rfl) (fun _ _ _ h => h) (Or.inl ⟨by rfl, ?_⟩) hS ?_
                · rintro w' ⟨hw0, hw1⟩
                  go_simp
                simp only [List.setIfInBounds_toArray, List.set_cons_zero, List.set_cons_succ]
                refine nany_take 1 168 (.int .i64 (k : Int)) rfl rfl (by kernel_rfl) (by kernel_rfl) (by kernel_rfl) (fun _ _ _ h => h) (Or.inl ⟨by rfl, ?_⟩) hS ?_
                · rintro w' ⟨hw0, hw1⟩
                  go_simp
                simp only [List.setIfInBounds_toArray, List.set_cons_zero, List.set_cons_succ]
                refine nany_take 2 169 (.pointer (some ⟨gd, k, none⟩)) rfl rfl (by kernel_rfl) (by kernel_rfl) (by kernel_rfl) (fun _ _ _ h => h) (Or.inl ⟨by rfl, ?_⟩) hS ?_
                · rintro w' ⟨hw0, hw1⟩
                  go_simp
                simp only [List.setIfInBounds_toArray, List.set_cons_zero, List.set_cons_succ]
                refine nany_take 3 170 (.bool true) rfl rfl (by kernel_rfl) (by kernel_rfl) (by kernel_rfl) (fun _ _ _ h => h) (Or.inl ⟨by rfl, ?_⟩) hS ?_
                · rintro w' ⟨hw0, hw1⟩
                  go_simp
                simp only [List.setIfInBounds_toArray, List.set_cons_zero, List.set_cons_succ]
                refine nany_take 4 171 (.bool true) rfl rfl (by kernel_rfl) (by kernel_rfl) (by kernel_rfl) (fun _ _ _ h => h) (Or.inl ⟨by rfl, ?_⟩) hS ?_
                · rintro w' ⟨hw0, hw1⟩
                  go_simp
                simp only [List.setIfInBounds_toArray, List.set_cons_zero, List.set_cons_succ]
                refine nany_skip 5 172 rfl rfl (by kernel_rfl) (by kernel_rfl) (by kernel_rfl) (fun _ _ _ h => h) (by rfl) hS ?_
                simp only [List.setIfInBounds_toArray, List.set_cons_zero, List.set_cons_succ]
                refine nany_skip 6 173 rfl rfl (by kernel_rfl) (by kernel_rfl) (by kernel_rfl) (fun _ _ _ h => h) (by rfl) hS ?_
                simp only [List.setIfInBounds_toArray, List.set_cons_zero, List.set_cons_succ]
                refine nany_skip 7 174 rfl rfl (by kernel_rfl) (by kernel_rfl) (by kernel_rfl) (fun _ _ _ h => h) (by rfl) hS ?_
                simp only [List.setIfInBounds_toArray, List.set_cons_zero, List.set_cons_succ]
                refine nany_skip 8 175 rfl rfl (by kernel_rfl) (by kernel_rfl) (by kernel_rfl) (fun _ _ _ h => h) (by rfl) hS ?_
                simp only [List.setIfInBounds_toArray, List.set_cons_zero, List.set_cons_succ]
                refine nany_skip 9 176 rfl rfl (by kernel_rfl) (by kernel_rfl) (by kernel_rfl) (fun _ _ _ h => h) (by rfl) hS ?_
                simp only [List.setIfInBounds_toArray, List.set_cons_zero, List.set_cons_succ]
                refine nany_take 10 177 (.bool true) rfl rfl (by kernel_rfl) (by kernel_rfl) (by kernel_rfl) (fun _ _ _ h => h) (Or.inl ⟨by rfl, ?_⟩) hS ?_
                · rintro w' ⟨hw0, hw1⟩
                  go_simp
                simp only [List.setIfInBounds_toArray, List.set_cons_zero, List.set_cons_succ]
                refine nany_take 11 178 (.bool true) rfl rfl (by kernel_rfl) (by kernel_rfl) (by kernel_rfl) (fun _ _ _ h => h) (Or.inl ⟨by rfl, ?_⟩) hS ?_
                · rintro w' ⟨hw0, hw1⟩
                  go_simp
                simp only [List.setIfInBounds_toArray, List.set_cons_zero, List.set_cons_succ]
                refine nany_take 12 179 (.slice a9 l9 c9) rfl rfl (by kernel_rfl) (by kernel_rfl) (by kernel_rfl) (fun _ _ _ h => h) (Or.inl ⟨by rfl, ?_⟩) hS ?_
                · rintro w' ⟨hw0, hw1⟩
                  go_simp
                simp only [List.setIfInBounds_toArray, List.set_cons_zero, List.set_cons_succ]
                refine nany_take 13 180 (.int .i64 (k : Int)) rfl rfl (by kernel_rfl) (by kernel_rfl) (by kernel_rfl) (fun _ _ _ h => h) (Or.inl ⟨by rfl, ?_⟩) hS ?_
                · rintro w' ⟨hw0, hw1⟩
                  go_simp
                simp only [List.setIfInBounds_toArray, List.set_cons_zero, List.set_cons_succ]
                refine nany_one 14 (by kernel_rfl) ?_
                refine nop_callE 181 (f := 25) (args := #[.slice a9 l9 c9, .int .i64 (k : Int)]) (R := fun v w' => v = .bool true ∧ w' = w5.drew) rfl (by rfl) rfl (by go_simp) (HH.out.mono (fun e w' h => ⟨.bool true, h.1, rfl, h.2⟩)) ?_
                rintro v8 w8 ⟨rfl, hw8⟩
                rw [hw8]
                clear hw8 w8
                refine ⟨⟨cD, cP⟩, ?_⟩
                simp only [List.setIfInBounds_toArray, List.set_cons_zero, List.set_cons_succ]
                refine nany_take 15 182 (.bool false) rfl rfl (by kernel_rfl) (by kernel_rfl) (by kernel_rfl) (fun _ _ _ h => h) (Or.inl ⟨by rfl, ?_⟩) hS ?_
                · rintro w' ⟨hw0, hw1⟩
                  go_simp
                simp only [List.setIfInBounds_toArray, List.set_cons_zero, List.set_cons_succ]
                refine nany_take 16 183 (.bool false) rfl rfl (by kernel_rfl) (by kernel_rfl) (by kernel_rfl) (fun _ _ _ h => h) (Or.inl ⟨by rfl, ?_⟩) hS ?_
                · rintro w' ⟨hw0, hw1⟩
                  go_simp
                simp only [List.setIfInBounds_toArray, List.set_cons_zero, List.set_cons_succ]
                refine nany_take 17 184 (.bool false) rfl rfl (by kernel_rfl) (by kernel_rfl) (by kernel_rfl) (fun _ _ _ h => h) (Or.inl ⟨by rfl, ?_⟩) hS ?_
                · rintro w' ⟨hw0, hw1⟩
                  go_simp
                simp only [List.setIfInBounds_toArray, List.set_cons_zero, List.set_cons_succ]
                refine nany_take 18 185 (.slice (some ⟨gd, 0, none⟩) 16 16) rfl rfl (by kernel_rfl) (by kernel_rfl) (by kernel_rfl) (fun _ _ _ h => h) (Or.inl ⟨by rfl, ?_⟩) hS ?_
                · rintro w' ⟨hw0, hw1⟩
                  go_simp
                simp only [List.setIfInBounds_toArray, List.set_cons_zero, List.set_cons_succ]
                refine nany_take 19 186 (.int .i64 (k : Int)) rfl rfl (by kernel_rfl) (by kernel_rfl) (by kernel_rfl) (fun _ _ _ h => h) (Or.inl ⟨by rfl, ?_⟩) hS ?_
                · rintro w' ⟨hw0, hw1⟩
                  go_simp
                simp only [List.setIfInBounds_toArray, List.set_cons_zero, List.set_cons_succ]
                refine nany_take 20 187 (.pointer (some ⟨gd, k, none⟩)) rfl rfl (by kernel_rfl) (by kernel_rfl) (by kernel_rfl) (fun _ _ _ h => h) (Or.inl ⟨by rfl, ?_⟩) hS ?_
                · rintro w' ⟨hw0, hw1⟩
                  go_simp
                simp only [List.setIfInBounds_toArray, List.set_cons_zero, List.set_cons_succ]
                refine nany_take 21 188 (.bool true) rfl rfl (by kernel_rfl) (by kernel_rfl) (by kernel_rfl) (fun _ _ _ h => h) (Or.inl ⟨by rfl, ?_⟩) hS ?_
                · rintro w' ⟨hw0, hw1⟩
                  go_simp
                simp only [List.setIfInBounds_toArray, List.set_cons_zero, List.set_cons_succ]
                refine nany_take 22 189 (pv p) rfl rfl (by kernel_rfl) (by kernel_rfl) (by kernel_rfl) (fun _ _ _ h => h) (Or.inl ⟨by rfl, ?_⟩) hS ?_
                · rintro w' ⟨hw0, hw1⟩
                  go_simp
                simp only [List.setIfInBounds_toArray, List.set_cons_zero, List.set_cons_succ]
                refine nany_take 24 191 (.int .i64 (k : Int)) rfl rfl (by kernel_rfl) (by kernel_rfl) (by kernel_rfl) (fun _ _ _ h => h) (Or.inl ⟨by rfl, ?_⟩) hS ?_
                · rintro w' ⟨hw0, hw1⟩
                  go_simp
                simp only [List.setIfInBounds_toArray, List.set_cons_zero, List.set_cons_succ]
                refine nany_one 23 (by kernel_rfl) ?_
                refine nop_callE 190 (f := 14) (args := #[pv p]) (R := fun v w' => ∃ a n c, v = .slice a n c ∧ w'.ownsRow w5.drew.heap.size 3 1 v (dirL A'.row).length (ints (srt (dirL A'.row))) ∧ Below w5.drew.heap.size w5.drew w') rfl (by rfl) rfl (by go_simp) (HDT.out.mono (fun e w' ⟨v, h1, h2, h3⟩ => ⟨v, h1, by obtain ⟨a, c, e⟩ := owns_slice h2; exact ⟨a, _, c, e, h2, h3⟩⟩)) ?_
                rintro v8 w8 ⟨a8, n8, c8, rfl, o8, b8⟩
                have HB8 := hid b8
                have HH2 := hid (HHD.out w8 _ o8)
                have cD8 := cell_later b8 (show w5.drew.cell? _ = _ from cD)
                have cP8 := cell_later b8 (show w5.drew.cell? _ = _ from cP)
                clear hS o8 b8
                refine ⟨⟨cD8, cP8⟩, ?_⟩
                have hS : w8.cell? ⟨gd, k, none⟩ = some (.bool true) ∧ w8.cell? ⟨gp, k, none⟩ = some (.int .i64 pk) := ⟨cD8, cP8⟩
                simp only [List.setIfInBounds_toArray, List.set_cons_zero, List.set_cons_succ]
                refine nany_one 25 (by kernel_rfl) ?_
                refine nop_callE 192 (f := 25) (args := #[.slice a8 n8 c8, .int .i64 (k : Int)]) (R := fun v w' => v = .bool true ∧ w' = w8) rfl (by rfl) rfl (by go_simp) (HH2.out.mono (fun e w' h => ⟨.bool true, h.1, rfl, h.2⟩)) ?_
                rintro v9 w9' ⟨rfl, hw9⟩
                rw [hw9]
                clear hw9 w9'
                refine ⟨⟨cD8, cP8⟩, ?_⟩
                simp only [List.setIfInBounds_toArray, List.set_cons_zero, List.set_cons_succ]
                refine nany_take 26 193 (.bool false) rfl rfl (by kernel_rfl) (by kernel_rfl) (by kernel_rfl) (fun _ _ _ h => h) (Or.inl ⟨by rfl, ?_⟩) hS ?_
                · rintro w' ⟨hw0, hw1⟩
                  go_simp
                simp only [List.setIfInBounds_toArray, List.set_cons_zero, List.set_cons_succ]
                refine nany_take 27 194 (.bool false) rfl rfl (by kernel_rfl) (by kernel_rfl) (by kernel_rfl) (fun _ _ _ h => h) (Or.inl ⟨by rfl, ?_⟩) hS ?_
                · rintro w' ⟨hw0, hw1⟩
                  go_simp
                simp only [List.setIfInBounds_toArray, List.set_cons_zero, List.set_cons_succ]
                refine nany_take 28 195 (.bool false) rfl rfl (by kernel_rfl) (by kernel_rfl) (by kernel_rfl) (fun _ _ _ h => h) (Or.inl ⟨by rfl, ?_⟩) hS ?_
                · rintro w' ⟨hw0, hw1⟩
                  go_simp
                simp only [List.setIfInBounds_toArray, List.set_cons_zero, List.set_cons_succ]
                refine nany_take 29 196 (.slice (some ⟨gp, 0, none⟩) 16 16) rfl rfl (by kernel_rfl) (by kernel_rfl) (by kernel_rfl) (fun _ _ _ h => h) (Or.inl ⟨by rfl, ?_⟩) hS ?_
                · rintro w' ⟨hw0, hw1⟩
                  go_simp
                simp only [List.setIfInBounds_toArray, List.set_cons_zero, List.set_cons_succ]
                refine nany_take 30 197 (.int .i64 (k : Int)) rfl rfl (by kernel_rfl) (by kernel_rfl) (by kernel_rfl) (fun _ _ _ h => h) (Or.inl ⟨by rfl, ?_⟩) hS ?_
                · rintro w' ⟨hw0, hw1⟩
                  go_simp
                simp only [List.setIfInBounds_toArray, List.set_cons_zero, List.set_cons_succ]
                refine nany_take 31 198 (.pointer (some ⟨gp, k, none⟩)) rfl rfl (by kernel_rfl) (by kernel_rfl) (by kernel_rfl) (fun _ _ _ h => h) (Or.inl ⟨by rfl, ?_⟩) hS ?_
                · rintro w' ⟨hw0, hw1⟩
                  go_simp
                simp only [List.setIfInBounds_toArray, List.set_cons_zero, List.set_cons_succ]
                refine nany_take 32 199 (.int .i64 pk) rfl rfl (by kernel_rfl) (by kernel_rfl) (by kernel_rfl) (fun _ _ _ h => h) (Or.inl ⟨by rfl, ?_⟩) hS ?_
                · rintro w' ⟨hw0, hw1⟩
                  go_simp
                simp only [List.setIfInBounds_toArray, List.set_cons_zero, List.set_cons_succ]
                refine nany_take 33 200 (.bool false) rfl rfl (by kernel_rfl) (by kernel_rfl) (by kernel_rfl) (fun _ _ _ h => h) (Or.inl ⟨by rfl, ?_⟩) hS ?_
                · rintro w' ⟨hw0, hw1⟩
                  go_simp
                simp only [List.setIfInBounds_toArray, List.set_cons_zero, List.set_cons_succ]
                refine nany_take 34 201 (.bool false) rfl rfl (by kernel_rfl) (by kernel_rfl) (by kernel_rfl) (fun _ _ _ h => h) (Or.inl ⟨by rfl, ?_⟩) hS ?_
                · rintro w' ⟨hw0, hw1⟩
                  go_simp
                simp only [List.setIfInBounds_toArray, List.set_cons_zero, List.set_cons_succ]
                refine wpAnyH_done (by kernel_rfl) ?_ _
                clear hS cD8 cP8
                go_wp2_with fail
                go_roundw
                case rel => exact ⟨k + 1, by omega, by go_num, HBK.out.trans ((((Below.refl _ w5).drew).trans HB8.out).mono HBK.out.size)⟩
                case measure => simp [RowKit.intOf]; omega
            | false =>
              by_cases hpp : 0 < pk
              · rw [hmem (.inr hpp)] at HH
                clear hmem
                as_aux_lemma =>
                  go_wp2_with fail
                  refine wp_region_held_drew (S := (fun w' => w'.cell? ⟨gd, k, none⟩ = some (.bool false) ∧ w'.cell? ⟨gp, k, none⟩ = some (.int .i64 pk))) (by kernel_rfl) ⟨cD, cP⟩ (fun hS => ?_)
                  refine nany_take 0 167 (.slice (some ⟨gd, 0, none⟩) 16 16) rfl rfl (by kernel_rfl) (by kernel_rfl) (by kernel_rfl) (fun _ _ _ h => h) (Or.inl ⟨by rfl, ?_⟩) hS ?_
                  · rintro w' ⟨hw0, hw1⟩
                    go_simp
                  simp only [List.setIfInBounds_toArray, List.set_cons_zero, List.set_cons_succ]
                  refine nany_take 1 168 (.int .i64 (k : Int)) rfl rfl (by kernel_rfl) (by kernel_rfl) (by kernel_rfl) (fun _ _ _ h => h) (Or.inl ⟨by rfl, ?_⟩) hS ?_
                  · rintro w' ⟨hw0, hw1⟩
                    go_simp
                  simp only [List.setIfInBounds_toArray, List.set_cons_zero, List.set_cons_succ]
                  refine nany_take 2 169 (.pointer (some ⟨gd, k, none⟩)) rfl rfl (by kernel_rfl) (by kernel_rfl) (by kernel_rfl) (fun _ _ _ h => h) (Or.inl ⟨by rfl, ?_⟩) hS ?_
                  · rintro w' ⟨hw0, hw1⟩
                    go_simp
                  simp only [List.setIfInBounds_toArray, List.set_cons_zero, List.set_cons_succ]
                  refine nany_take 3 170 (.bool false) rfl rfl (by kernel_rfl) (by kernel_rfl) (by kernel_rfl) (fun _ _ _ h => h) (Or.inl ⟨by rfl, ?_⟩) hS ?_
                  · rintro w' ⟨hw0, hw1⟩
                    go_simp
                  simp only [List.setIfInBounds_toArray, List.set_cons_zero, List.set_cons_succ]
                  refine nany_take 4 171 (.bool false) rfl rfl (by kernel_rfl) (by kernel_rfl) (by kernel_rfl) (fun _ _ _ h => h) (Or.inl ⟨by rfl, ?_⟩) hS ?_
                  · rintro w' ⟨hw0, hw1⟩
                    go_simp
                  simp only [List.setIfInBounds_toArray, List.set_cons_zero, List.set_cons_succ]
                  refine nany_take 5 172 (.slice (some ⟨gp, 0, none⟩) 16 16) rfl rfl (by kernel_rfl) (by kernel_rfl) (by kernel_rfl) (fun _ _ _ h => h) (Or.inl ⟨by rfl, ?_⟩) hS ?_
                  · rintro w' ⟨hw0, hw1⟩
                    go_simp
                  simp only [List.setIfInBounds_toArray, List.set_cons_zero, List.set_cons_succ]
                  refine nany_take 6 173 (.int .i64 (k : Int)) rfl rfl (by kernel_rfl) (by kernel_rfl) (by kernel_rfl) (fun _ _ _ h => h) (Or.inl ⟨by rfl, ?_⟩) hS ?_
                  · rintro w' ⟨hw0, hw1⟩
                    go_simp
                  simp only [List.setIfInBounds_toArray, List.set_cons_zero, List.set_cons_succ]
                  refine nany_take 7 174 (.pointer (some ⟨gp, k, none⟩)) rfl rfl (by kernel_rfl) (by kernel_rfl) (by kernel_rfl) (fun _ _ _ h => h) (Or.inl ⟨by rfl, ?_⟩) hS ?_
                  · rintro w' ⟨hw0, hw1⟩
                    go_simp
                  simp only [List.setIfInBounds_toArray, List.set_cons_zero, List.set_cons_succ]
                  refine nany_take 8 175 (.int .i64 pk) rfl rfl (by kernel_rfl) (by kernel_rfl) (by kernel_rfl) (fun _ _ _ h => h) (Or.inl ⟨by rfl, ?_⟩) hS ?_
                  · rintro w' ⟨hw0, hw1⟩
                    go_simp
                  simp only [List.setIfInBounds_toArray, List.set_cons_zero, List.set_cons_succ]
                  refine nany_take 9 176 (.bool true) rfl rfl (by kernel_rfl) (by kernel_rfl) (by kernel_rfl) (fun _ _ _ h => h) (Or.inl ⟨by rfl, ?_⟩) hS ?_
                  · rintro w' ⟨hw0, hw1⟩
                    go_simp
                  simp only [List.setIfInBounds_toArray, List.set_cons_zero, List.set_cons_succ]
                  refine nany_take 10 177 (.bool true) rfl rfl (by kernel_rfl) (by kernel_rfl) (by kernel_rfl) (fun _ _ _ h => h) (Or.inl ⟨by rfl, ?_⟩) hS ?_
                  · rintro w' ⟨hw0, hw1⟩
                    go_simp
                  simp only [List.setIfInBounds_toArray, List.set_cons_zero, List.set_cons_succ]
                  refine nany_take 11 178 (.bool true) rfl rfl (by kernel_rfl) (by kernel_rfl) (by kernel_rfl) (fun _ _ _ h => h) (Or.inl ⟨by rfl, ?_⟩) hS ?_
                  · rintro w' ⟨hw0, hw1⟩
                    go_simp
                  simp only [List.setIfInBounds_toArray, List.set_cons_zero, List.set_cons_succ]
                  refine nany_take 12 179 (.slice a9 l9 c9) rfl rfl (by kernel_rfl) (by kernel_rfl) (by kernel_rfl) (fun _ _ _ h => h) (Or.inl ⟨by rfl, ?_⟩) hS ?_
                  · rintro w' ⟨hw0, hw1⟩
                    go_simp
                  simp only [List.setIfInBounds_toArray, List.set_cons_zero, List.set_cons_succ]
                  refine nany_take 13 180 (.int .i64 (k : Int)) rfl rfl (by kernel_rfl) (by kernel_rfl) (by kernel_rfl) (fun _ _ _ h => h) (Or.inl ⟨by rfl, ?_⟩) hS ?_
                  · rintro w' ⟨hw0, hw1⟩
                    go_simp
                  simp only [List.setIfInBounds_toArray, List.set_cons_zero, List.set_cons_succ]
                  refine nany_one 14 (by kernel_rfl) ?_
                  refine nop_callE 181 (f := 25) (args := #[.slice a9 l9 c9, .int .i64 (k : Int)]) (R := fun v w' => v = .bool true ∧ w' = w5.drew) rfl (by rfl) rfl (by go_simp) (HH.out.mono (fun e w' h => ⟨.bool true, h.1, rfl, h.2⟩)) ?_
                  rintro v8 w8 ⟨rfl, hw8⟩
                  rw [hw8]
                  clear hw8 w8
                  refine ⟨⟨cD, cP⟩, ?_⟩
                  simp only [List.setIfInBounds_toArray, List.set_cons_zero, List.set_cons_succ]
                  refine nany_take 15 182 (.bool false) rfl rfl (by kernel_rfl) (by kernel_rfl) (by kernel_rfl) (fun _ _ _ h => h) (Or.inl ⟨by rfl, ?_⟩) hS ?_
                  · rintro w' ⟨hw0, hw1⟩
                    go_simp
                  simp only [List.setIfInBounds_toArray, List.set_cons_zero, List.set_cons_succ]
                  refine nany_take 16 183 (.bool false) rfl rfl (by kernel_rfl) (by kernel_rfl) (by kernel_rfl) (fun _ _ _ h => h) (Or.inl ⟨by rfl, ?_⟩) hS ?_
                  · rintro w' ⟨hw0, hw1⟩
                    go_simp
                  simp only [List.setIfInBounds_toArray, List.set_cons_zero, List.set_cons_succ]
                  refine nany_take 17 184 (.bool false) rfl rfl (by kernel_rfl) (by kernel_rfl) (by kernel_rfl) (fun _ _ _ h => h) (Or.inl ⟨by rfl, ?_⟩) hS ?_
                  · rintro w' ⟨hw0, hw1⟩
                    go_simp
                  simp only [List.setIfInBounds_toArray, List.set_cons_zero, List.set_cons_succ]
                  refine nany_take 18 185 (.slice (some ⟨gd, 0, none⟩) 16 16) rfl rfl (by kernel_rfl) (by kernel_rfl) (by kernel_rfl) (fun _ _ _ h => h) (Or.inl ⟨by rfl, ?_⟩) hS ?_
                  · rintro w' ⟨hw0, hw1⟩
                    go_simp
                  simp only [List.setIfInBounds_toArray, List.set_cons_zero, List.set_cons_succ]
                  refine nany_take 19 186 (.int .i64 (k : Int)) rfl rfl (by kernel_rfl) (by kernel_rfl) (by kernel_rfl) (fun _ _ _ h => h) (Or.inl ⟨by rfl, ?_⟩) hS ?_
                  · rintro w' ⟨hw0, hw1⟩
                    go_simp
                  simp only [List.setIfInBounds_toArray, List.set_cons_zero, List.set_cons_succ]
                  refine nany_take 20 187 (.pointer (some ⟨gd, k, none⟩)) rfl rfl (by kernel_rfl) (by kernel_rfl) (by kernel_rfl) (fun _ _ _ h => h) (Or.inl ⟨by rfl, ?_⟩) hS ?_
                  · rintro w' ⟨hw0, hw1⟩
                    go_simp
                  simp only [List.setIfInBounds_toArray, List.set_cons_zero, List.set_cons_succ]
                  refine nany_take 21 188 (.bool false) rfl rfl (by kernel_rfl) (by kernel_rfl) (by kernel_rfl) (fun _ _ _ h => h) (Or.inl ⟨by rfl, ?_⟩) hS ?_
                  · rintro w' ⟨hw0, hw1⟩
                    go_simp
                  simp only [List.setIfInBounds_toArray, List.set_cons_zero, List.set_cons_succ]
                  refine nany_take 22 189 (pv p) rfl rfl (by kernel_rfl) (by kernel_rfl) (by kernel_rfl) (fun _ _ _ h => h) (Or.inl ⟨by rfl, ?_⟩) hS ?_
                  · rintro w' ⟨hw0, hw1⟩
                    go_simp
                  simp only [List.setIfInBounds_toArray, List.set_cons_zero, List.set_cons_succ]
                  refine nany_take 24 191 (.int .i64 (k : Int)) rfl rfl (by kernel_rfl) (by kernel_rfl) (by kernel_rfl) (fun _ _ _ h => h) (Or.inl ⟨by rfl, ?_⟩) hS ?_
                  · rintro w' ⟨hw0, hw1⟩
                    go_simp
                  simp only [List.setIfInBounds_toArray, List.set_cons_zero, List.set_cons_succ]
                  refine nany_one 23 (by kernel_rfl) ?_
                  refine nop_callE 190 (f := 14) (args := #[pv p]) (R := fun v w' => ∃ a n c, v = .slice a n c ∧ w'.ownsRow w5.drew.heap.size 3 1 v (dirL A'.row).length (ints (srt (dirL A'.row))) ∧ Below w5.drew.heap.size w5.drew w') rfl (by rfl) rfl (by go_simp) (HDT.out.mono (fun e w' ⟨v, h1, h2, h3⟩ => ⟨v, h1, by obtain ⟨a, c, e⟩ := owns_slice h2; exact ⟨a, _, c, e, h2, h3⟩⟩)) ?_
                  rintro v8 w8 ⟨a8, n8, c8, rfl, o8, b8⟩
                  have HB8 := hid b8
                  have HH2 := hid (HHD.out w8 _ o8)
                  have cD8 := cell_later b8 (show w5.drew.cell? _ = _ from cD)
                  have cP8 := cell_later b8 (show w5.drew.cell? _ = _ from cP)
                  clear hS o8 b8
                  refine ⟨⟨cD8, cP8⟩, ?_⟩
                  have hS : w8.cell? ⟨gd, k, none⟩ = some (.bool false) ∧ w8.cell? ⟨gp, k, none⟩ = some (.int .i64 pk) := ⟨cD8, cP8⟩
                  simp only [List.setIfInBounds_toArray, List.set_cons_zero, List.set_cons_succ]
                  refine nany_one 25 (by kernel_rfl) ?_
                  refine nop_callE 192 (f := 25) (args := #[.slice a8 n8 c8, .int .i64 (k : Int)]) (R := fun v w' => v = .bool false ∧ w' = w8) rfl (by rfl) rfl (by go_simp) (HH2.out.mono (fun e w' h => ⟨.bool false, h.1, rfl, h.2⟩)) ?_
                  rintro v9 w9' ⟨rfl, hw9⟩
                  rw [hw9]
                  clear hw9 w9'
                  refine ⟨⟨cD8, cP8⟩, ?_⟩
                  simp only [List.setIfInBounds_toArray, List.set_cons_zero, List.set_cons_succ]
                  refine nany_take 26 193 (.bool false) rfl rfl (by kernel_rfl) (by kernel_rfl) (by kernel_rfl) (fun _ _ _ h => h) (Or.inl ⟨by rfl, ?_⟩) hS ?_
                  · rintro w' ⟨hw0, hw1⟩
                    go_simp
                  simp only [List.setIfInBounds_toArray, List.set_cons_zero, List.set_cons_succ]
                  refine nany_take 27 194 (.bool false) rfl rfl (by kernel_rfl) (by kernel_rfl) (by kernel_rfl) (fun _ _ _ h => h) (Or.inl ⟨by rfl, ?_⟩) hS ?_
                  · rintro w' ⟨hw0, hw1⟩
                    go_simp
                  simp only [List.setIfInBounds_toArray, List.set_cons_zero, List.set_cons_succ]
                  refine nany_take 28 195 (.bool false) rfl rfl (by kernel_rfl) (by kernel_rfl) (by kernel_rfl) (fun _ _ _ h => h) (Or.inl ⟨by rfl, ?_⟩) hS ?_
                  · rintro w' ⟨hw0, hw1⟩
                    go_simp
                  simp only [List.setIfInBounds_toArray, List.set_cons_zero, List.set_cons_succ]
                  refine nany_take 29 196 (.slice (some ⟨gp, 0, none⟩) 16 16) rfl rfl (by kernel_rfl) (by kernel_rfl) (by kernel_rfl) (fun _ _ _ h => h) (Or.inl ⟨by rfl, ?_⟩) hS ?_
                  · rintro w' ⟨hw0, hw1⟩
                    go_simp
                  simp only [List.setIfInBounds_toArray, List.set_cons_zero, List.set_cons_succ]
                  refine nany_take 30 197 (.int .i64 (k : Int)) rfl rfl (by kernel_rfl) (by kernel_rfl) (by kernel_rfl) (fun _ _ _ h => h) (Or.inl ⟨by rfl, ?_⟩) hS ?_
                  · rintro w' ⟨hw0, hw1⟩
                    go_simp
                  simp only [List.setIfInBounds_toArray, List.set_cons_zero, List.set_cons_succ]
                  refine nany_take 31 198 (.pointer (some ⟨gp, k, none⟩)) rfl rfl (by kernel_rfl) (by kernel_rfl) (by kernel_rfl) (fun _ _ _ h => h) (Or.inl ⟨by rfl, ?_⟩) hS ?_
                  · rintro w' ⟨hw0, hw1⟩
                    go_simp
                  simp only [List.setIfInBounds_toArray, List.set_cons_zero, List.set_cons_succ]
                  refine nany_take 32 199 (.int .i64 pk) rfl rfl (by kernel_rfl) (by kernel_rfl) (by kernel_rfl) (fun _ _ _ h => h) (Or.inl ⟨by rfl, ?_⟩) hS ?_
                  · rintro w' ⟨hw0, hw1⟩
                    go_simp
                  simp only [List.setIfInBounds_toArray, List.set_cons_zero, List.set_cons_succ]
                  refine nany_take 33 200 (.bool false) rfl rfl (by kernel_rfl) (by kernel_rfl) (by kernel_rfl) (fun _ _ _ h => h) (Or.inl ⟨by rfl, ?_⟩) hS ?_
                  · rintro w' ⟨hw0, hw1⟩
                    go_simp
                  simp only [List.setIfInBounds_toArray, List.set_cons_zero, List.set_cons_succ]
                  refine nany_take 34 201 (.bool false) rfl rfl (by kernel_rfl) (by kernel_rfl) (by kernel_rfl) (fun _ _ _ h => h) (Or.inl ⟨by rfl, ?_⟩) hS ?_
                  · rintro w' ⟨hw0, hw1⟩
                    go_simp
                  simp only [List.setIfInBounds_toArray, List.set_cons_zero, List.set_cons_succ]
                  refine wpAnyH_done (by kernel_rfl) ?_ _
                  clear hS cD8 cP8
                  go_wp2_with fail
                  go_roundw
                  case rel => exact ⟨k + 1, by omega, by go_num, HBK.out.trans ((((Below.refl _ w5).drew).trans HB8.out).mono HBK.out.size)⟩
                  case measure => simp [RowKit.intOf]; omega
              · obtain rfl : pk = 0 := by omega
                clear hmem HH
                as_aux_lemma =>
                  go_wp2_with fail
                  refine wp_region_held_drew (S := (fun w' => w'.cell? ⟨gd, k, none⟩ = some (.bool false) ∧ w'.cell? ⟨gp, k, none⟩ = some (.int .i64 0))) (by kernel_rfl) ⟨cD, cP⟩ (fun hS => ?_)
                  refine nany_take 0 167 (.slice (some ⟨gd, 0, none⟩) 16 16) rfl rfl (by kernel_rfl) (by kernel_rfl) (by kernel_rfl) (fun _ _ _ h => h) (Or.inl ⟨by rfl, ?_⟩) hS ?_
                  · rintro w' ⟨hw0, hw1⟩
                    go_simp
                  simp only [List.setIfInBounds_toArray, List.set_cons_zero, List.set_cons_succ]
                  refine nany_take 1 168 (.int .i64 (k : Int)) rfl rfl (by kernel_rfl) (by kernel_rfl) (by kernel_rfl) (fun _ _ _ h => h) (Or.inl ⟨by rfl, ?_⟩) hS ?_
                  · rintro w' ⟨hw0, hw1⟩
                    go_simp
                  simp only [List.setIfInBounds_toArray, List.set_cons_zero, List.set_cons_succ]
                  refine nany_take 2 169 (.pointer (some ⟨gd, k, none⟩)) rfl rfl (by kernel_rfl) (by kernel_rfl) (by kernel_rfl) (fun _ _ _ h => h) (Or.inl ⟨by rfl, ?_⟩) hS ?_
                  · rintro w' ⟨hw0, hw1⟩
                    go_simp
                  simp only [List.setIfInBounds_toArray, List.set_cons_zero, List.set_cons_succ]
                  refine nany_take 3 170 (.bool false) rfl rfl (by kernel_rfl) (by kernel_rfl) (by kernel_rfl) (fun _ _ _ h => h) (Or.inl ⟨by rfl, ?_⟩) hS ?_
                  · rintro w' ⟨hw0, hw1⟩
                    go_simp
                  simp only [List.setIfInBounds_toArray, List.set_cons_zero, List.set_cons_succ]
                  refine nany_take 4 171 (.bool false) rfl rfl (by kernel_rfl) (by kernel_rfl) (by kernel_rfl) (fun _ _ _ h => h) (Or.inl ⟨by rfl, ?_⟩) hS ?_
                  · rintro w' ⟨hw0, hw1⟩
                    go_simp
                  simp only [List.setIfInBounds_toArray, List.set_cons_zero, List.set_cons_succ]
                  refine nany_take 5 172 (.slice (some ⟨gp, 0, none⟩) 16 16) rfl rfl (by kernel_rfl) (by kernel_rfl) (by kernel_rfl) (fun _ _ _ h => h) (Or.inl ⟨by rfl, ?_⟩) hS ?_
                  · rintro w' ⟨hw0, hw1⟩
                    go_simp
                  simp only [List.setIfInBounds_toArray, List.set_cons_zero, List.set_cons_succ]
                  refine nany_take 6 173 (.int .i64 (k : Int)) rfl rfl (by kernel_rfl) (by kernel_rfl) (by kernel_rfl) (fun _ _ _ h => h) (Or.inl ⟨by rfl, ?_⟩) hS ?_
                  · rintro w' ⟨hw0, hw1⟩
                    go_simp
                  simp only [List.setIfInBounds_toArray, List.set_cons_zero, List.set_cons_succ]
                  refine nany_take 7 174 (.pointer (some ⟨gp, k, none⟩)) rfl rfl (by kernel_rfl) (by kernel_rfl) (by kernel_rfl) (fun _ _ _ h => h) (Or.inl ⟨by rfl, ?_⟩) hS ?_
                  · rintro w' ⟨hw0, hw1⟩
                    go_simp
                  simp only [List.setIfInBounds_toArray, List.set_cons_zero, List.set_cons_succ]
                  refine nany_take 8 175 (.int .i64 0) rfl rfl (by kernel_rfl) (by kernel_rfl) (by kernel_rfl) (fun _ _ _ h => h) (Or.inl ⟨by rfl, ?_⟩) hS ?_
                  · rintro w' ⟨hw0, hw1⟩
                    go_simp
                  simp only [List.setIfInBounds_toArray, List.set_cons_zero, List.set_cons_succ]
                  refine nany_take 9 176 (.bool false) rfl rfl (by kernel_rfl) (by kernel_rfl) (by kernel_rfl) (fun _ _ _ h => h) (Or.inl ⟨by rfl, ?_⟩) hS ?_
                  · rintro w' ⟨hw0, hw1⟩
                    go_simp
                  simp only [List.setIfInBounds_toArray, List.set_cons_zero, List.set_cons_succ]
                  refine nany_take 10 177 (.bool false) rfl rfl (by kernel_rfl) (by kernel_rfl) (by kernel_rfl) (fun _ _ _ h => h) (Or.inl ⟨by rfl, ?_⟩) hS ?_
                  · rintro w' ⟨hw0, hw1⟩
                    go_simp
                  simp only [List.setIfInBounds_toArray, List.set_cons_zero, List.set_cons_succ]
                  refine nany_take 11 178 (.bool false) rfl rfl (by kernel_rfl) (by kernel_rfl) (by kernel_rfl) (fun _ _ _ h => h) (Or.inl ⟨by rfl, ?_⟩) hS ?_
                  · rintro w' ⟨hw0, hw1⟩
                    go_simp
                  simp only [List.setIfInBounds_toArray, List.set_cons_zero, List.set_cons_succ]
                  refine nany_skip 12 179 rfl rfl (by kernel_rfl) (by kernel_rfl) (by kernel_rfl) (fun _ _ _ h => h) (by rfl) hS ?_
                  simp only [List.setIfInBounds_toArray, List.set_cons_zero, List.set_cons_succ]
                  refine nany_skip 13 180 rfl rfl (by kernel_rfl) (by kernel_rfl) (by kernel_rfl) (fun _ _ _ h => h) (by rfl) hS ?_
                  simp only [List.setIfInBounds_toArray, List.set_cons_zero, List.set_cons_succ]
                  refine nany_skip 14 181 rfl rfl (by kernel_rfl) (by kernel_rfl) (by kernel_rfl) (fun _ _ _ h => h) (by rfl) hS ?_
                  simp only [List.setIfInBounds_toArray, List.set_cons_zero, List.set_cons_succ]
                  refine nany_skip 15 182 rfl rfl (by kernel_rfl) (by kernel_rfl) (by kernel_rfl) (fun _ _ _ h => h) (by rfl) hS ?_
                  simp only [List.setIfInBounds_toArray, List.set_cons_zero, List.set_cons_succ]
                  refine nany_take 16 183 (.bool false) rfl rfl (by kernel_rfl) (by kernel_rfl) (by kernel_rfl) (fun _ _ _ h => h) (Or.inl ⟨by rfl, ?_⟩) hS ?_
                  · rintro w' ⟨hw0, hw1⟩
                    go_simp
                  simp only [List.setIfInBounds_toArray, List.set_cons_zero, List.set_cons_succ]
                  refine nany_take 17 184 (.bool false) rfl rfl (by kernel_rfl) (by kernel_rfl) (by kernel_rfl) (fun _ _ _ h => h) (Or.inl ⟨by rfl, ?_⟩) hS ?_
                  · rintro w' ⟨hw0, hw1⟩
                    go_simp
                  simp only [List.setIfInBounds_toArray, List.set_cons_zero, List.set_cons_succ]
                  refine nany_take 18 185 (.slice (some ⟨gd, 0, none⟩) 16 16) rfl rfl (by kernel_rfl) (by kernel_rfl) (by kernel_rfl) (fun _ _ _ h => h) (Or.inl ⟨by rfl, ?_⟩) hS ?_
                  · rintro w' ⟨hw0, hw1⟩
                    go_simp
                  simp only [List.setIfInBounds_toArray, List.set_cons_zero, List.set_cons_succ]
                  refine nany_take 19 186 (.int .i64 (k : Int)) rfl rfl (by kernel_rfl) (by kernel_rfl) (by kernel_rfl) (fun _ _ _ h => h) (Or.inl ⟨by rfl, ?_⟩) hS ?_
                  · rintro w' ⟨hw0, hw1⟩
                    go_simp
                  simp only [List.setIfInBounds_toArray, List.set_cons_zero, List.set_cons_succ]
                  refine nany_take 20 187 (.pointer (some ⟨gd, k, none⟩)) rfl rfl (by kernel_rfl) (by kernel_rfl) (by kernel_rfl) (fun _ _ _ h => h) (Or.inl ⟨by rfl, ?_⟩) hS ?_
                  · rintro w' ⟨hw0, hw1⟩
                    go_simp
                  simp only [List.setIfInBounds_toArray, List.set_cons_zero, List.set_cons_succ]
                  refine nany_take 21 188 (.bool false) rfl rfl (by kernel_rfl) (by kernel_rfl) (by kernel_rfl) (fun _ _ _ h => h) (Or.inl ⟨by rfl, ?_⟩) hS ?_
                  · rintro w' ⟨hw0, hw1⟩
                    go_simp
                  simp only [List.setIfInBounds_toArray, List.set_cons_zero, List.set_cons_succ]
                  refine nany_take 22 189 (pv p) rfl rfl (by kernel_rfl) (by kernel_rfl) (by kernel_rfl) (fun _ _ _ h => h) (Or.inl ⟨by rfl, ?_⟩) hS ?_
                  · rintro w' ⟨hw0, hw1⟩
                    go_simp
                  simp only [List.setIfInBounds_toArray, List.set_cons_zero, List.set_cons_succ]
                  refine nany_take 24 191 (.int .i64 (k : Int)) rfl rfl (by kernel_rfl) (by kernel_rfl) (by kernel_rfl) (fun _ _ _ h => h) (Or.inl ⟨by rfl, ?_⟩) hS ?_
                  · rintro w' ⟨hw0, hw1⟩
                    go_simp
                  simp only [List.setIfInBounds_toArray, List.set_cons_zero, List.set_cons_succ]
                  refine nany_one 23 (by kernel_rfl) ?_
                  refine nop_callE 190 (f := 14) (args := #[pv p]) (R := fun v w' => ∃ a n c, v = .slice a n c ∧ w'.ownsRow w5.drew.heap.size 3 1 v (dirL A'.row).length (ints (srt (dirL A'.row))) ∧ Below w5.drew.heap.size w5.drew w') rfl (by rfl) rfl (by go_simp) (HDT.out.mono (fun e w' ⟨v, h1, h2, h3⟩ => ⟨v, h1, by obtain ⟨a, c, e⟩ := owns_slice h2; exact ⟨a, _, c, e, h2, h3⟩⟩)) ?_
                  rintro v8 w8 ⟨a8, n8, c8, rfl, o8, b8⟩
                  have HB8 := hid b8
                  have HH2 := hid (HHD.out w8 _ o8)
                  have cD8 := cell_later b8 (show w5.drew.cell? _ = _ from cD)
                  have cP8 := cell_later b8 (show w5.drew.cell? _ = _ from cP)
                  clear hS o8 b8
                  refine ⟨⟨cD8, cP8⟩, ?_⟩
                  have hS : w8.cell? ⟨gd, k, none⟩ = some (.bool false) ∧ w8.cell? ⟨gp, k, none⟩ = some (.int .i64 0) := ⟨cD8, cP8⟩
                  simp only [List.setIfInBounds_toArray, List.set_cons_zero, List.set_cons_succ]
                  refine nany_one 25 (by kernel_rfl) ?_
                  refine nop_callE 192 (f := 25) (args := #[.slice a8 n8 c8, .int .i64 (k : Int)]) (R := fun v w' => v = .bool false ∧ w' = w8) rfl (by rfl) rfl (by go_simp) (HH2.out.mono (fun e w' h => ⟨.bool false, h.1, rfl, h.2⟩)) ?_
                  rintro v9 w9' ⟨rfl, hw9⟩
                  rw [hw9]
                  clear hw9 w9'
                  refine ⟨⟨cD8, cP8⟩, ?_⟩
                  simp only [List.setIfInBounds_toArray, List.set_cons_zero, List.set_cons_succ]
                  refine nany_take 26 193 (.bool false) rfl rfl (by kernel_rfl) (by kernel_rfl) (by kernel_rfl) (fun _ _ _ h => h) (Or.inl ⟨by rfl, ?_⟩) hS ?_
                  · rintro w' ⟨hw0, hw1⟩
                    go_simp
                  simp only [List.setIfInBounds_toArray, List.set_cons_zero, List.set_cons_succ]
                  refine nany_take 27 194 (.bool false) rfl rfl (by kernel_rfl) (by kernel_rfl) (by kernel_rfl) (fun _ _ _ h => h) (Or.inl ⟨by rfl, ?_⟩) hS ?_
                  · rintro w' ⟨hw0, hw1⟩
                    go_simp
                  simp only [List.setIfInBounds_toArray, List.set_cons_zero, List.set_cons_succ]
                  refine nany_take 28 195 (.bool false) rfl rfl (by kernel_rfl) (by kernel_rfl) (by kernel_rfl) (fun _ _ _ h => h) (Or.inl ⟨by rfl, ?_⟩) hS ?_
                  · rintro w' ⟨hw0, hw1⟩
                    go_simp
                  simp only [List.setIfInBounds_toArray, List.set_cons_zero, List.set_cons_succ]
                  refine nany_take 29 196 (.slice (some ⟨gp, 0, none⟩) 16 16) rfl rfl (by kernel_rfl) (by kernel_rfl) (by kernel_rfl) (fun _ _ _ h => h) (Or.inl ⟨by rfl, ?_⟩) hS ?_
                  · rintro w' ⟨hw0, hw1⟩
                    go_simp
                  simp only [List.setIfInBounds_toArray, List.set_cons_zero, List.set_cons_succ]
                  refine nany_take 30 197 (.int .i64 (k : Int)) rfl rfl (by kernel_rfl) (by kernel_rfl) (by kernel_rfl) (fun _ _ _ h => h) (Or.inl ⟨by rfl, ?_⟩) hS ?_
                  · rintro w' ⟨hw0, hw1⟩
                    go_simp
                  simp only [List.setIfInBounds_toArray, List.set_cons_zero, List.set_cons_succ]
                  refine nany_take 31 198 (.pointer (some ⟨gp, k, none⟩)) rfl rfl (by kernel_rfl) (by kernel_rfl) (by kernel_rfl) (fun _ _ _ h => h) (Or.inl ⟨by rfl, ?_⟩) hS ?_
                  · rintro w' ⟨hw0, hw1⟩
                    go_simp
                  simp only [List.setIfInBounds_toArray, List.set_cons_zero, List.set_cons_succ]
                  refine nany_take 32 199 (.int .i64 0) rfl rfl (by kernel_rfl) (by kernel_rfl) (by kernel_rfl) (fun _ _ _ h => h) (Or.inl ⟨by rfl, ?_⟩) hS ?_
                  · rintro w' ⟨hw0, hw1⟩
                    go_simp
                  simp only [List.setIfInBounds_toArray, List.set_cons_zero, List.set_cons_succ]
                  refine nany_take 33 200 (.bool false) rfl rfl (by kernel_rfl) (by kernel_rfl) (by kernel_rfl) (fun _ _ _ h => h) (Or.inl ⟨by rfl, ?_⟩) hS ?_
                  · rintro w' ⟨hw0, hw1⟩
                    go_simp
                  simp only [List.setIfInBounds_toArray, List.set_cons_zero, List.set_cons_succ]
                  refine nany_take 34 201 (.bool false) rfl rfl (by kernel_rfl) (by kernel_rfl) (by kernel_rfl) (fun _ _ _ h => h) (Or.inl ⟨by rfl, ?_⟩) hS ?_
                  · rintro w' ⟨hw0, hw1⟩
                    go_simp
                  simp only [List.setIfInBounds_toArray, List.set_cons_zero, List.set_cons_succ]
                  refine wpAnyH_done (by kernel_rfl) ?_ _
                  clear hS cD8 cP8
                  go_wp2_with fail
                  go_roundw
                  case rel => exact ⟨k + 1, by omega, by go_num, HBK.out.trans ((((Below.refl _ w5).drew).trans HB8.out).mono HBK.out.size)⟩
                  case measure => simp [RowKit.intOf]; omega
          · have hki : ¬ ((k : Int) < 16) := by omega
            have cb1 := (HCE.out w5 _ HOk.out).2.1
            by_cases hm : (n : Int) ∈ nums A'.row
            · as_aux_lemma =>
                have HG := hid (Get_has HVk.out.ca n hn hm)
                have HKU := hid (HKI.out.use hm)
                have HAT := hid (HKI.out.at hn16 hm).2.2
                have HDM := hid (decide_eq_true hm)
                have HLD : Hid ((A'.at n).dat.length = 512) := hid (by
                  obtain ⟨ad, bm, vr, M, hc⟩ := HVk.out.ca
                  exact (hc.at hm).2.2.1)
                clear hm
                go_wp2_with fail
                refine HG.out.mono ?_
                rintro e w11 ⟨v11, S11, rfl, h11, k11, t11⟩
                have H11 := hid (HVk.out.step h11 k11)
                have HA11 := hid (HAk.out.keep k11)
                have HO11 := hid (HOk.out.c1 k11)
                have HNR : Hid (∀ t, (w11.drewN t).ownsRow 0 3 1 (.slice a9 l9 c9) l9 (ints (nums A'.row))) := hid (fun t => owns_keep HRk.out (fun g hg => k11.block (owns_lt HRk.out hg).1 (HRN.out g hg)))
                have HHQ : Hid (∀ t, Calls Try.prog 25 #[.slice a9 l9 c9, .int .i64 (n : Int)] (w11.drewN t) fun e w' => e = .returned (.bool true) ∧ w' = w11.drewN t) := hid (fun t => by
                  have := has_any (w11.drewN t) (.slice a9 l9 c9) (nums A'.row) l9 HL9.out (n : Int) 0 (HNR.out t) (by omega)
                  rw [HDM.out] at this
                  exact this)
                have hcv : ∀ t, (convert 40 9 v11).run Try.prog (w11.drewN t) = .ok (.string (strOfNums (A'.at n).dat)) (w11.drewN t) := fun t => conv5 (n := (A'.at n).dat.length) rfl (owns_later9 (owns_zero t11.1) (below_drewN (Below.refl _ _) t))
                have cl11 : ∀ t, (w11.drewN t).cell? ⟨gl, n, none⟩ = some (.string (strOfNums (A'.at n).dat)) := fun t => by rw [← HAT.out]; exact (HA11.out.cells hn16).1
                have cb11 : ∀ t, (w11.drewN t).cell? ⟨ba, 1, none⟩ = some (.int .i64 (n : Int)) := fun t => (HCE.out w11 _ HO11.out).2.1
                have hnl : (n : Int) < 16 := hni
                obtain ⟨a11, c11, e11⟩ := owns_slice t11.1
                subst e11
                clear h11 k11 t11 HG
                generalize (A'.at n).dat.length = sl at *
                generalize strOfNums (A'.at n).dat = sx at *
                go_wp2_with fail
                go_quiet ((go_at_call 25; exact Calls.quiet_of_same (HHQ.out _)))
                go_wp2_with fail
                go_roundw
                case rel => exact ⟨i + 1, S11, A'.use n, L', D', P', by omega, by omega, by go_num, (H11.out.below (below_drewN (Below.refl _ _) _)).more (by omega), HA11.out.keep (Kp.below (below_drewN (Below.refl _ _) _)), HKU.out, HAN2.out⟩
                case measure => simp [RowKit.intOf]; omega
            · as_aux_lemma =>
                have HG := hid (Get_no HVk.out.ca n hn hm)
                have HDM := hid (decide_eq_false hm)
                have HHQ : Hid (∀ t, Calls Try.prog 25 #[.slice a9 l9 c9, .int .i64 (n : Int)] (w5.drewN t) fun e w' => e = .returned (.bool false) ∧ w' = w5.drewN t) := hid (fun t => by
                  have := has_any (w5.drewN t) (.slice a9 l9 c9) (nums A'.row) l9 HL9.out (n : Int) 0 (owns_later9 HRk.out (below_drewN (Below.refl _ _) t)) (by omega)
                  rw [HDM.out] at this
                  exact this)
                have cb11 : ∀ t, (w5.drewN t).cell? ⟨ba, 1, none⟩ = some (.int .i64 (n : Int)) := fun t => cb1
                have HKU := hid HKI.out.more
                clear hm
                go_wp2_with (go_at_call 23; refine HG.out.mono ?_; rintro e w11 ⟨rfl, hw11⟩; rw [hw11]; clear hw11)
                go_quiet ((go_at_call 25; exact Calls.quiet_of_same (HHQ.out _)))
                go_wp2_with fail
                go_roundw
                case rel => exact ⟨i + 1, S', A', L', D', P', by omega, by omega, by go_num, (HVk.out.below (below_drewN (Below.refl _ _) _)).more (by omega), HAk.out.keep (Kp.below (below_drewN (Below.refl _ _) _)), HKU.out, HAN2.out⟩
                case measure => simp [RowKit.intOf]; omega
    · have HB := hid HV.out.bel
      clear HV HA HK
      by_cases h1 : i < ln
      · have hi3 : (i : Int) < ln := by omega
        have hi4 : ¬ ((i : Int) < 150) := by omega
        go_wp2_with fail
        go_ret
        exact ⟨rfl, HB.out⟩
      · have hi3 : ¬ ((i : Int) < ln) := by omega
        have hi5 : decide ((i : Int) < ln) = false := decide_eq_false hi3
        go_wp2_with fail
        go_ret
        exact ⟨rfl, HB.out⟩
end Go.Proofs.Ytdfnfcimajomeaa
