/- The document's port: Deliver. -/
import Derived.Test.YtdjghkngiicncaaGreatR5G
import Derived.Test.YtdjghkngiicncaaGreatR5H
namespace Go.Proofs.YtdjghkngiicncaaGreat
open Go.RowKit

set_option maxRecDepth 100000 in
set_option maxHeartbeats 16000000 in
theorem rDeliver_any (w : World) (lab : Nat → Nat) (B : Rb) (H : Nh) (S : Ns) (hn : RNet w lab B H S) (ad : Option Addr) (cap len : Nat) (L : List Int) (hB : Bytes w ad L) (hln : L.length = len) (_hlm : len ≤ maxLen) (hl : ∀ b off, ad = some ⟨b, off, none⟩ → lab b = 0) :
    Calls Tryz.prog 17 #[.pointer (some ⟨B.pp, 0, none⟩), .slice ad len cap] w fun e w' => e = .returned (.int .i64 (delR H S L)) ∧ ∃ lab', RNet w' lab' B H (delS H S L) ∧ Keep lab w lab' w' := by
  unfold delR delS
  rw [hln]
  have HNN := hid hn
  obtain ⟨v1, v2, hat⟩ := hn
  cases hfr : frB (len : Int) with
  | false =>
    simp only [Bool.false_eq_true, if_false]
    have hout : ((len : Int) < 14) ∨ (1514 < (len : Int)) := by simp [frB] at hfr; omega
    clear hfr hat hB hln
    rcases hout with hout | hout
    · go_enter Tryz.func17, Tryz.ntmps17
      go_wp2
      go_ret
      exact ⟨rfl, lab, HNN.out, Keep.refl _ _⟩
    · have hn14 : ¬ ((len : Int) < 14) := by omega
      go_enter Tryz.func17, Tryz.ntmps17
      go_wp2
      go_ret
      exact ⟨rfl, lab, HNN.out, Keep.refl _ _⟩
  | true =>
    obtain ⟨h14, h15⟩ := frB_iff.1 hfr
    have g14 : ¬ ((len : Int) < 14) := by omega
    have g15 : ¬ (1514 < (len : Int)) := by omega
    simp only [if_true]
    have hbd := H.bd
    have hbig := H.big
    have HAT0 := hid hat
    have HB := hid hB
    have HLN := hid hln
    have HL := hid hl
    obtain ⟨R, hR⟩ : ∃ R, delN H S len = R := ⟨_, rfl⟩
    have HR : Hid (nextS H.qi (inP (12 + len : Nat)) S.i = R) := hid hR
    rw [hR]
    obtain ⟨RES, hRES⟩ : ∃ r : Int, (delT H L R).1 = r := ⟨_, rfl⟩
    obtain ⟨SF, hSF⟩ : ∃ r : Ns, S.setI (delT H L R).2 = r := ⟨_, rfl⟩
    rw [hRES, hSF]
    have HRES := hid hRES
    have HSF := hid hSF
    clear hRES hSF
    obtain ⟨I, hI⟩ : ∃ I : Int, rd S.f (H.qi.po + 2) 2 = I := ⟨_, rfl⟩
    have HI := hid hI
    have HME : Hid (∀ (T' : Sd) (wq : World), rd T'.f (H.qi.po + 2) 2 = I → cellN wq B.vi 3 = T'.o → ((I - (cellN wq B.vi 3 : Int)) % 65536).toNat = left H.qi T') := hid (fun T' wq a1 a2 => by unfold left; rw [a1, a2])
    clear hat hB hln hl hfr hI hR HNN
    go_enter Tryz.func17, Tryz.ntmps17
    go_wp2_with fail
    go_loopw [5] (fun _ wr => ∃ (T : Sd) (lab1 : Nat → Nat), nextS H.qi (inP (12 + len : Nat)) T = R ∧ rd T.f (H.qi.po + 2) 2 = I ∧ T.A = S.Ai ∧ RNetAt wr lab1 B H (S.setI T) v1 v2 (hds S.Ai) (hds S.Ao) ∧ Keep lab w lab1 wr)
      (fun _ wr => ((I - (cellN wr B.vi 3 : Int)) % 65536).toNat)
    case atStart => exact ⟨S.i, lab, HR.out, HI.out, rfl, HAT0.out, Keep.refl _ _⟩
    case round =>
      obtain ⟨T, lab1, hnx, hTI, hTA, hnT, hkT⟩ := hrel
      obtain ⟨d0, d1, d2⟩ := hnT.pcells
      have HNX := hid hnx
      have HTI := hid hTI
      have HTA := hid hTA
      have HNT := hid hnT
      have HKT := hid hkT
      have HOK : Hid (Ok H.qi T) := hid hnT.oki
      have HTK := hid (RNetAt.takeI hnT)
      have hcell : Hid (cellN wr B.vi 3 = T.o) := hid hnT.vi.offs
      clear hnx hTI hTA hnT hkT
      rcases takeR_kind H.qi T with hk | hk | hk
      · have HX := hid ((next_none (P := inP (12 + len : Nat)) HOK.out hk).symm.trans HNX.out)
        have HTS : Hid (takeS H.qi T = T) := hid (by unfold takeS; rw [if_pos (takeR_none.1 hk)])
        rw [hk] at HTK
        generalize (takeR H.qi T).1 = t1 at *
        generalize (takeR H.qi T).2.1 = TL at *
        clear hk
        go_wp2_with (go_at_call 48; refine HTK.out.mono ?_; rintro e w3 ⟨v3, rfl, ho3, lab3, h3, hk3⟩; have HN3 := hid h3; have HK3 := hid (HKT.out.trans hk3); clear h3 hk3 ho3)
        go_ret
        have hr := HRES.out
        have hs := HSF.out
        rw [← HX.out] at hr hs
        subst hr hs
        refine ⟨rfl, lab3, ⟨v1, v2, ?_⟩, HK3.out⟩
        have h := HN3.out
        rw [HTS.out] at h
        have e1 : hds (S.setI (delT H L (T, none)).2).Ai = hds S.Ai := by show hds T.A = _; rw [HTA.out]
        rw [e1]
        exact h
      · have HBM := hid ((next_bad (P := inP (12 + len : Nat)) HOK.out hk).symm.trans HNX.out)
        have HST := hid (takeS_step HOK.out (fun e => by rw [takeR_none.2 e] at hk; omega))
        rw [hk] at HTK
        generalize (takeR H.qi T).1 = t1 at *
        generalize (takeR H.qi T).2.1 = TL at *
        clear hk
        go_wp2_with (go_at_call 48; refine HTK.out.mono ?_; rintro e w3 ⟨v3, rfl, ho3, lab3, h3, hk3⟩; have HN3 := hid h3; have HK3 := hid (HKT.out.trans hk3); clear h3 hk3 ho3)
        go_roundw
        case rel => exact ⟨takeS H.qi T, lab3, HBM.out, by rw [takeS_f]; exact HTI.out, (takeS_A _ _).trans HTA.out, HN3.out, HK3.out⟩
        case measure =>
          have m1 := HME.out T wr HTI.out hcell.out
          have m2 := HME.out (takeS H.qi T) w3 (by rw [takeS_f]; exact HTI.out) HN3.out.vi.offs
          have m3 := HST.out
          omega
      · obtain ⟨hb1, hb2⟩ := takeR_bd HOK.out
        have HB1 := hid hb1
        clear hb1 hb2
        have HST := hid (takeS_step HOK.out (fun e => by rw [takeR_none.2 e] at hk; omega))
        have hsum : ((12 + len : Nat) : Int) = 12 + (len : Int) := by omega
        have HPC : Hid (rpB H.N (12 + (len : Int)) true (takeR H.qi T).2.1 = pcB H.N (inP (12 + len : Nat)) (takeR H.qi T).2.1) := hid (by rw [pcB_in, hsum])
        have HXS := hid (next_some (P := inP (12 + len : Nat)) HOK.out hk)
        have HXK := hid (next_skip (P := inP (12 + len : Nat)) HOK.out hk)
        rw [hk] at HTK
        generalize (takeR H.qi T).1 = t1 at *
        generalize (takeR H.qi T).2.1 = TL at *
        clear hk
        cases hp : pcB H.N (inP (12 + len : Nat)) TL with
        | false =>
          have HBM := hid ((HXK.out hp).symm.trans HNX.out)
          have HP : Hid (rpB H.N (12 + (len : Int)) true TL = false) := hid (HPC.out.trans hp)
          have HPI : Hid (∀ (w3 : World) v3 (lab3 : Nat → Nat), RNetAt w3 lab3 B H (S.setI (takeS H.qi T)) v1 v2 (hds S.Ai) (hds S.Ao) → w3.ownsRow wr.heap.size 88 3 v3 TL.length (cellsB TL) → Calls Tryz.prog 49 #[.pointer (some ⟨B.pp, 0, none⟩), v3, .int .i64 (12 + (len : Int)), .bool true] w3 fun e w' => e = .returned (.bool false) ∧ ∃ q, w' = w3.drewN q) := hid (fun w3 v3 lab3 a1 a2 => by
            have h := rpiece_any w3 B.pp (some ⟨B.g, 0, none⟩) H.N wr.heap.size v3 TL (12 + (len : Int)) true a1.pcells.2.2 hbig a2 (fun b hb => ⟨(HB1.out b hb).1, (HB1.out b hb).2.1⟩)
            rw [HP.out] at h
            exact h)
          clear hp HPC HXS HXK hsum
          go_wp2_with (first
            | (go_at_call 48; refine HTK.out.mono ?_; rintro e w3 ⟨v3, rfl, ho3, lab3, h3, hk3⟩; obtain ⟨f0, f1, f2⟩ := h3.pcells; have HO3 := hid ho3; have HN3 := hid h3; have HK3 := hid (HKT.out.trans hk3); clear h3 hk3 ho3)
            | (go_at_call 49; refine (HPI.out w3 v3 lab3 HN3.out HO3.out).mono ?_; rintro e w4 ⟨rfl, q4, hw4⟩; have HB4 : Hid (Below w3.heap.size w3 w4) := hid (by rw [hw4]; exact below_drewN (Below.refl _ _) q4); have HN4 := hid (HN3.out.below HB4.out); have HK4 := hid (HK3.out.trans (Keep.below HB4.out)); obtain ⟨k0, k1, k2⟩ := HN4.out.pcells; clear hw4)
            | (go_at_call 50; refine (RNetAt.giveI HN4.out t1 0).mono ?_; rintro e w5 ⟨rfl, lab5, h5, hk5⟩; have HN5 := hid h5; have HK5 := hid (HK4.out.trans hk5); clear h5 hk5))
          go_roundw
          case rel => exact ⟨giveS H.qi (takeS H.qi T) t1 0, lab5, HBM.out, by rw [giveS_po, takeS_f]; exact HTI.out, (giveS_A _ _ _ _).trans ((takeS_A _ _).trans HTA.out), HN5.out, HK5.out⟩
          case measure =>
            have m1 := HME.out T wr HTI.out hcell.out
            have m2 := HME.out (giveS H.qi (takeS H.qi T) t1 0) w5 (by rw [giveS_po, takeS_f]; exact HTI.out) HN5.out.vi.offs
            have m3 := HST.out
            rw [giveS_left] at m2
            omega
        | true =>
          have HX := hid ((HXS.out hp).symm.trans HNX.out)
          have HP : Hid (rpB H.N (12 + (len : Int)) true TL = true) := hid (HPC.out.trans hp)
          have HPI : Hid (∀ (w3 : World) v3 (lab3 : Nat → Nat), RNetAt w3 lab3 B H (S.setI (takeS H.qi T)) v1 v2 (hds S.Ai) (hds S.Ao) → w3.ownsRow wr.heap.size 88 3 v3 TL.length (cellsB TL) → Calls Tryz.prog 49 #[.pointer (some ⟨B.pp, 0, none⟩), v3, .int .i64 (12 + (len : Int)), .bool true] w3 fun e w' => e = .returned (.bool true) ∧ ∃ q, w' = w3.drewN q) := hid (fun w3 v3 lab3 a1 a2 => by
            have h := rpiece_any w3 B.pp (some ⟨B.g, 0, none⟩) H.N wr.heap.size v3 TL (12 + (len : Int)) true a1.pcells.2.2 hbig a2 (fun b hb => ⟨(HB1.out b hb).1, (HB1.out b hb).2.1⟩)
            rw [HP.out] at h
            exact h)
          obtain ⟨⟨bx, by_, bt⟩, hTL, hPb, hAb⟩ := pcB_true hp
          have hbo := HB1.out ⟨bx, by_, bt⟩ (by rw [hTL]; simp)
          obtain ⟨ho1, ho2, ho3, ho4⟩ := hbo
          simp only [inP, Bool.and_eq_true, decide_eq_true_eq] at hPb hAb ho1 ho2 ho3 ho4
          obtain ⟨z, rfl⟩ : ∃ z : Nat, bx = z := ⟨bx.toNat, by omega⟩
          have hfit : z + (12 + len) ≤ H.N := by have := hPb.2; omega
          subst hTL
          have HT1A : Hid ((takeS H.qi T).A = S.Ai) := hid ((takeS_A _ _).trans HTA.out)
          have HGL : Hid (B.g < wr.heap.size) := hid HNT.out.mem.lt
          simp only [List.headD_cons] at HX
          generalize takeS H.qi T = T1 at *
          clear hp HPC HXS HXK hsum HP HB1 ho1 ho2 ho3 ho4 hPb hAb HST HNT HNX HOK
          go_wp2_with (first
            | (go_at_call 48; refine HTK.out.mono ?_; rintro e w3 ⟨v3, rfl, ho3, lab3, h3, hk3⟩; obtain ⟨lb, lc, hv3, hlb1, hlb2, l0, l1, l2⟩ := buf_cells ho3; subst hv3; have HLG : Hid (lb ≠ B.g) := hid (by have := HGL.out; omega); obtain ⟨f0, f1, f2⟩ := h3.pcells; have HO3 := hid ho3; have HN3 := hid h3; have HK3 := hid (HKT.out.trans hk3); clear h3 hk3 ho3)
            | (go_at_call 49; refine (HPI.out w3 _ lab3 HN3.out HO3.out).mono ?_; rintro e w4 ⟨rfl, q4, hw4⟩; have HB4 : Hid (Below w3.heap.size w3 w4) := hid (by rw [hw4]; exact below_drewN (Below.refl _ _) q4); have HN4 := hid (HN3.out.below HB4.out); have HK4 := hid (HK3.out.trans (Keep.below HB4.out)); have HM0 := hid (cell_later HB4.out l0); clear hw4))
          have HR5 : Hid (RNetAt w4 lab3 B H { S.setI T1 with f := puts T1.f z ((rowL L).take 0) } v1 v2 (hds S.Ai) (hds S.Ao)) := hid (by rw [puts_zero]; exact HN4.out)
          clear f0 f1 f2 d0 d1 d2 l0 l1 l2 hlb1 hlb2
          go_loopw [8] (fun y wr => ∃ (k : Nat) (lab4 : Nat → Nat), k ≤ 12 + len ∧ y = .int .i64 k ∧ RNetAt wr lab4 B H { S.setI T1 with f := puts T1.f z ((rowL L).take k) } v1 v2 (hds S.Ai) (hds S.Ao) ∧ Keep lab w lab4 wr ∧ wr.cell? ⟨lb, 0, none⟩ = some (.int .i64 z)) (fun y _ => 12 + len - (RowKit.intOf y).toNat)
          case atStart => exact ⟨0, lab3, Nat.zero_le _, rfl, HR5.out, HK4.out, HM0.out⟩
          case round =>
            obtain ⟨k, lab4, hk, rfl, hR, hK, hm0⟩ := hrel
            have HR := hid hR
            have HK := hid hK
            obtain ⟨e0, e1, e2⟩ := hR.pcells
            by_cases hkl : k < 12 + len
            · have hki : (k : Int) < 12 + len := by omega
              obtain ⟨lab6, hR6, hK6⟩ := hR.wr (z + k) 0 ⟨by omega, by omega⟩
              have hfz := hR.mem.frozen (z + k)
              have hzk := hR.mem.cell (i := z + k) (by omega)
              have hK6d : Keep lab w lab6 (wr.setCell ⟨B.g, z + k, none⟩ (.int .u8 0)).drew := hK.trans (hK6.trans (Keep.below ((Below.refl _ _).drew)))
              have hR6d := hR6.below ((Below.refl _ (wr.setCell ⟨B.g, z + k, none⟩ (.int .u8 0))).drew)
              have hm6 : (wr.setCell ⟨B.g, z + k, none⟩ (.int .u8 0)).drew.cell? ⟨lb, 0, none⟩ = some (.int .i64 z) := ((Mods.refl (fun b => b = B.g) wr).setCell B.g (z + k) (.int .u8 0) rfl).cell hm0 HLG.out
              obtain ⟨_, _, g2⟩ := hR6d.pcells
              have hfz6 := hR6d.mem.frozen (z + k)
              obtain ⟨vz, hzk6⟩ : ∃ vz, (wr.setCell ⟨B.g, z + k, none⟩ (.int .u8 0)).drew.cell? ⟨B.g, z + k, none⟩ = some vz := ⟨_, hR6d.mem.cell (i := z + k) (by omega)⟩
              clear hR hK hR6 hK6
              by_cases hk12 : k < 12
              · have hk12i : ¬ ((12 : Int) ≤ k) := by omega
                go_wp2
                go_region
                go_wp2
                go_roundw
                case rel =>
                  refine ⟨k + 1, lab6, by omega, by go_num, ?_, hK6d, hm6⟩
                  rw [puts_row _ _ _ _ (by rw [HLN.out]; exact hkl), if_pos hk12]
                  exact hR6d
                case measure => simp [RowKit.intOf]; omega
              · have hk12i : (12 : Int) ≤ k := by omega
                have hby := HB.out.keep_lab hK6d HL.out
                obtain ⟨i, rfl⟩ : ∃ i, k = 12 + i := ⟨k - 12, by omega⟩
                obtain ⟨bb, ob, hab, hcb, hib⟩ := hby i (by rw [HLN.out]; omega)
                subst hab
                obtain ⟨lab7, hR7, hK7⟩ := hR6d.wr (z + (12 + i)) _ hib
                have HR7 := hid hR7
                have HK7 := hid (hK6d.trans hK7)
                have HPR : Hid (puts T1.f z ((rowL L).take (12 + i + 1)) = fun j => if j = z + (12 + i) then L.getD i 0 else if j = z + (12 + i) then 0 else puts T1.f z ((rowL L).take (12 + i)) j) := hid (by
                  rw [puts_row _ _ _ _ (by rw [HLN.out]; exact hkl)]
                  funext j
                  rw [if_neg (show ¬ 12 + i < 12 by omega), Nat.add_sub_cancel_left]
                  split
                  · rfl
                  · rename_i hj0
                    first | rfl | rw [if_neg hj0])
                clear hR7 hK7 hK6d hib hby hR6d
                generalize L.getD i 0 = bv at *
                go_wp2
                go_region
                generalize hw6 : (wr.setCell ⟨B.g, z + (12 + i), none⟩ (.int .u8 0)).drew = w6 at *
                clear hw6
                go_wp2
                go_region
                go_wp2
                go_roundw
                case rel =>
                  refine ⟨12 + i + 1, lab7, by omega, by go_num, ?_, HK7.out.trans (Keep.below ((Below.refl _ _).drew)), ((Mods.refl (fun b => b = B.g) w6).setCell B.g (z + (12 + i)) (.int .u8 bv) rfl).cell hm6 HLG.out⟩
                  rw [HPR.out]
                  exact HR7.out.below ((Below.refl _ _).drew)
                case measure => simp [RowKit.intOf]; omega
            · have hki : ¬ ((k : Int) < 12 + len) := by omega
              obtain rfl : k = 12 + len := by omega
              have hfull : (rowL L).take (12 + len) = rowL L := List.take_of_length_le (by rw [rowL_len, HLN.out]; omega)
              have HRF : Hid (RNetAt wr lab4 B H (S.setI { T1 with f := puts T1.f z (rowL L) }) v1 v2 (hds S.Ai) (hds S.Ao)) := hid (by rw [← hfull]; exact hR)
              clear hR hK hfull
              go_wp2_with (go_at_call 50; refine (RNetAt.giveI HRF.out t1 (12 + (len : Int))).mono ?_; rintro e w5 ⟨rfl, lab5, h5, hk5⟩; have HN5 := hid h5; have HK5 := hid (HK.out.trans hk5); clear h5 hk5)
              go_ret
              have hr := HRES.out
              have hs := HSF.out
              rw [← HX.out] at hr hs
              subst hr hs
              refine ⟨rfl, lab5, ⟨v1, v2, ?_⟩, HK5.out⟩
              have e1 : hds (S.setI (delT H L (T1, some (t1, ⟨(z : Int), by_, bt⟩))).2).Ai = hds S.Ai := by
                show hds (giveS _ _ _ _).A = _
                rw [giveS_A]
                show hds T1.A = _
                rw [HT1A.out]
              rw [e1]
              have e2 : (delT H L (T1, some (t1, ⟨(z : Int), by_, bt⟩))).2 = giveS H.qi { T1 with f := puts T1.f z (rowL L) } t1 (12 + (len : Int)) := by
                unfold delT
                simp only [Int.toNat_natCast, HLN.out]
                rw [show ((12 + len : Nat) : Int) = 12 + (len : Int) by omega]
              rw [e2]
              exact HN5.out
end Go.Proofs.YtdjghkngiicncaaGreat
