/- The document's card: Receive. -/
import Derived.Test.YtdjghkngiicncaaGreatR5J
namespace Go.Proofs.YtdjghkngiicncaaGreat
open Go.RowKit

theorem Keep.own {lab lab6 : Nat → Nat} {w w6 w7 : World} {P : Nat → Prop} (h : Keep lab w lab6 w6) (hm : Mods P w6 w7) (hP : ∀ b, P b → w.heap.size ≤ b) : Keep lab w lab6 w7 := ⟨h.1, h.2.trans hm (fun b hb => .inr (hP b hb))⟩
set_option maxRecDepth 100000 in
set_option maxHeartbeats 16000000 in
theorem rReceive_any (w : World) (lab : Nat → Nat) (B : Rb) (H : Nh) (S : Ns) (hn : RNet w lab B H S) (hfull : S.Ai.free = []) :
    Calls Tryz.prog 15 #[.pointer (some ⟨B.pc, 0, none⟩)] w fun e w' => ∃ v, e = .returned v ∧ ∃ lab', RNet w' lab' B H (S.setI (recvAll H S).1) ∧ Keep lab w lab' w' ∧ FmRow w' (Mine5 w w' lab') v (recvAll H S).2 := by
  obtain ⟨v1, v2, hat⟩ := hn
  have HAT0 := hid hat
  have HFULL := hid hfull
  have hbd := H.bd
  have hbigN := H.big
  unfold recvAll
  generalize hR : recvS H S.i [] = R
  have HR := hid hR
  obtain ⟨I, hI⟩ : ∃ I : Int, rd S.f (H.qi.pu + 2) 2 = I := ⟨_, rfl⟩
  have HI := hid hI
  have HME : Hid (∀ (T' : Sd) (wq : World), rd T'.f (H.qi.pu + 2) 2 = I → cellN wq B.di 5 = T'.A.uses → ((I - (cellN wq B.di 5 : Int)) % 65536).toNat = more H.qi T') := hid (fun T' wq a1 a2 => by unfold more; rw [a1, a2])
  have HM0 : Hid (more H.qi S.i ≤ 65535) := hid (by unfold more; omega)
  clear hat hfull hR hI
  go_enter Tryz.func15, Tryz.ntmps15
  go_wp2_with fail
  go_loopw [3, 4] (fun x3 x4 wr => ∃ (T : Sd) (Ls : List (List Int)) (lk : List Nat) (lab1 : Nat → Nat) (v1' : Value), recvS H T Ls = R ∧ T.A.free = [] ∧ T.o = S.oi ∧ T.u = S.ui ∧ rd T.f (H.qi.pu + 2) 2 = I ∧ Ls.length + more H.qi T ≤ 65536 ∧ lk.length + more H.qi T ≤ 65536 ∧ RNetAt wr lab1 B H (S.setI T) v1' v2 (hds T.A) (hds S.Ao) ∧ Keep lab w lab1 wr ∧ Bag w wr lab1 x3 Ls x4 lk)
    (fun _ _ wr => ((I - (cellN wr B.di 5 : Int)) % 65536).toNat)
  case atStart =>
    have := HM0.out
    exact ⟨S.i, [], [], lab, v1, HR.out, HFULL.out, rfl, rfl, HI.out, by simp; omega, by simp; omega, HAT0.out, Keep.refl _ _, FmRow.nil _ _, ⟨rfl, .inl ⟨rfl, rfl⟩⟩, fun b hb => by simp [Value.ownBlock] at hb⟩
  case round =>
    obtain ⟨T, Ls, lk, lab1, v1', hr, hfu, hTo, hTu, hTI, hl1, hl2, hnT, hkT, hbag⟩ := hrel
    obtain ⟨d0, d1, d2, d3, d4, d5, d6, z5, z6⟩ := hnT.cells
    have HRT := hid hr
    have HFU := hid hfu
    have HTO := hid (And.intro hTo hTu)
    have HTI := hid hTI
    have HLL := hid (And.intro hl1 hl2)
    have HNT := hid hnT
    have HKT := hid hkT
    have HBG := hid hbag
    have HOK : Hid (Ok H.qi T) := hid hnT.oki
    have HON : Hid (One T.A) := hid hnT.oi
    have HUS := hid (RNetAt.usedI hnT)
    have hcell : Hid (cellN wr B.di 5 = T.A.uses) := hid hnT.di.uses
    obtain ⟨va, vc, hv⟩ := hbag.fr.shape
    obtain ⟨ka, kc, hkv⟩ := owns_slice hbag.ir
    clear hr hfu hTo hTu hTI hl1 hl2 hnT hkT hbag
    rcases usedR_kind H.qi T with hk | hk | hk
    · have HX := hid ((recv_none (Ls := Ls) HOK.out hk).symm.trans HRT.out)
      have HUT : Hid (usedS H.qi T = T) := hid (by unfold usedS; rw [if_pos (usedR_none.1 hk)])
      rw [hk] at HUS
      generalize (usedR H.qi T).1 = t1 at *
      generalize (usedR H.qi T).2.1 = t2 at *
      clear hk
      subst hv hkv
      go_wp2_with (go_at_call 36; refine HUS.out.mono ?_; rintro e w3 ⟨rfl, lab3, h3, hk3⟩; have HN3 := hid h3; have HK3 := hid hk3; clear h3 hk3)
      go_ret
      refine ⟨_, rfl, lab3, ?_, HKT.out.trans HK3.out, ?_⟩
      · rw [← HX.out]
        have h := HN3.out
        rw [HUT.out] at h
        exact ⟨_, _, h⟩
      · rw [← HX.out]
        exact (HBG.out.onward HK3.out).fr
    · have HX := hid ((recv_bad (Ls := Ls) HOK.out hk).symm.trans HRT.out)
      have HST := hid (usedS_step HOK.out (fun e => by rw [usedR_none.2 e] at hk; omega))
      have HHD := hid (hds_bad (q := H.qi) (S := T) (by rw [hk]; decide))
      have HFU2 : Hid ((usedS H.qi T).A.free = []) := hid (by
        unfold usedS
        split
        · exact HFU.out
        · rename_i hne
          split
          · exact HFU.out
          · rename_i ch hl
            unfold usedR at hk
            rw [if_neg hne, hl] at hk
            simp at hk)
      rw [hk] at HUS
      generalize (usedR H.qi T).1 = t1 at *
      generalize (usedR H.qi T).2.1 = t2 at *
      clear hk
      subst hv hkv
      go_wp2_with (go_at_call 36; refine HUS.out.mono ?_; rintro e w3 ⟨rfl, lab3, h3, hk3⟩; have HN3 := hid h3; have HK3 := hid hk3; clear h3 hk3)
      go_roundw
      case rel =>
        have h1 := HLL.out
        have h2 := HST.out
        refine ⟨usedS H.qi T, Ls, lk, lab3, v1', HX.out, HFU2.out, (usedS_o _ _).1.trans HTO.out.1, (usedS_o _ _).2.trans HTO.out.2, by rw [usedS_f]; exact HTI.out, by omega, by omega, ?_, HKT.out.trans HK3.out, HBG.out.onward HK3.out⟩
        rw [HHD.out]
        exact HN3.out
      case measure =>
        have m1 := HME.out T wr HTI.out hcell.out
        have m2 := HME.out (usedS H.qi T) w3 (by rw [usedS_f]; exact HTI.out) HN3.out.di.uses
        have m3 := HST.out
        omega
    · obtain ⟨x0, hx, hxn, hfr1, hl0, hl1⟩ := used_ok HOK.out HON.out HFU.out hk
      replace hxn : x0 < H.n := hxn
      have HX := hid ((recv_ok (Ls := Ls) HOK.out HON.out HFU.out hk).symm.trans HRT.out)
      have HST := hid (usedS_step HOK.out (fun e => by rw [usedR_none.2 e] at hk; omega))
      obtain ⟨x, la, lb, q1, q2, q3, q4⟩ := hds_usedS (q := H.qi) (S := T) hk
      obtain rfl : x = x0 := by have := q1.symm.trans hx; omega
      obtain ⟨ln, hln⟩ : ∃ ln : Nat, (usedR H.qi T).2.1 = ln := ⟨(usedR H.qi T).2.1.toNat, by omega⟩
      rw [hx, hln] at HX
      simp only [Int.toNat_natCast] at HX
      obtain ⟨z, hz⟩ : ∃ z, H.fi + x * 1528 = z := ⟨_, rfl⟩
      have hzN : z + 1526 ≤ H.N := by rw [← hz]; exact H.fi_fit x hxn
      rw [hz] at HX
      have HZ := hid hz
      have HF0 : Hid ((usedS H.qi T).A.free.getD 0 0 = x) := hid (by rw [hfr1]; rfl)
      have HF1 : Hid (0 < (usedS H.qi T).A.free.length) := hid (by rw [hfr1]; simp)
      have hwf : Wf H.n T.A := HOK.out.wf
      have hmn : (hds T.A).length ≤ 256 := by have := hds_len hwf HON.out; omega
      have HQ := hid (And.intro q2 (And.intro q3 hmn))
      have hlab : (la ++ lb).length ≤ 65535 := by rw [q2] at hmn; simp at hmn ⊢; omega
      have HAM := hid (addS_more (q := H.qi) (S := usedS H.qi T) (b := ⟨z, 1526, true⟩) (by rw [hfr1]; exact hxn) (by rw [hfr1]; simp))
      have HAF : Hid (rd (addS H.qi (usedS H.qi T) ⟨z, 1526, true⟩).f (H.qi.pu + 2) 2 = I) := hid (by
        show rd (addF (usedS H.qi T).f H.qi (usedS H.qi T).A [⟨z, 1526, true⟩]) (H.qi.pu + 2) 2 = I
        rw [addF_up _ _ _ _ (by rw [hfr1]; exact hxn) (by rw [hfr1]; simp) _ _ (by omega), usedS_f]
        exact HTI.out)
      have HAE : Hid ((addS H.qi (usedS H.qi T) ⟨z, 1526, true⟩).A.free = []) := hid (by show (usedS H.qi T).A.free.drop 1 = []; rw [hfr1]; rfl)
      have HAO : Hid ((addS H.qi (usedS H.qi T) ⟨z, 1526, true⟩).o = S.oi ∧ (addS H.qi (usedS H.qi T) ⟨z, 1526, true⟩).u = S.ui) := hid ⟨(usedS_o _ _).1.trans HTO.out.1, (usedS_o _ _).2.trans HTO.out.2⟩
      have HHD : Hid (hds (addS H.qi (usedS H.qi T) ⟨z, 1526, true⟩).A = la ++ lb ++ [x]) := hid (by
        show hds (AddA (usedS H.qi T).A 1) = _
        rw [hds_add, q4, HF0.out])
      have HOF : Hid (∀ (W : World) (labW : Nat → Nat) (vW : Value), RNetAt W labW B H (S.setI (usedS H.qi T)) vW v2 (la ++ lb) (hds S.Ao) → Calls Tryz.prog 28 #[.pointer (some ⟨B.pc, 0, none⟩), .int .i64 x] W fun e w' => e = .returned (.tuple #[]) ∧ ∃ lab' v', RNetAt w' lab' B H (S.setI (addS H.qi (usedS H.qi T) ⟨z, 1526, true⟩)) v' v2 (hds (addS H.qi (usedS H.qi T) ⟨z, 1526, true⟩).A) (hds S.Ao) ∧ Keep labW W lab' w') := hid (fun W labW vW hW => by
        rw [HHD.out]
        refine (roffer_any W labW B H (S.setI (usedS H.qi T)) vW v2 (la ++ lb) (hds S.Ao) hW x hxn HF1.out HF0.out hlab).mono ?_
        rintro e w' ⟨rfl, lab', v', h', hk'⟩
        refine ⟨rfl, lab', v', ?_, hk'⟩
        have he : S.setI (addS H.qi (usedS H.qi T) ⟨z, 1526, true⟩) = { S.setI (usedS H.qi T) with Ai := AddA (S.setI (usedS H.qi T)).Ai 1, f := addF (S.setI (usedS H.qi T)).f H.qi (S.setI (usedS H.qi T)).Ai [inB H x] } := by
          rw [show inB H x = ⟨z, 1526, true⟩ by unfold inB; rw [HZ.out]]
          rfl
        rw [he]
        exact h')
      have HUF := hid (usedS_f H.qi T)
      have HLK : Hid (lk.length + 1 ≤ 65536) := hid (by have := HLL.out; have := HST.out; omega)
      have HONE : Hid (∀ w6 : World, ∀ i, i < 1 → (w6.alloc (.cells #[.int .i64 (x : Int)] 3)).cell? ⟨w6.heap.size, i, none⟩ = some (.int .i64 (([x] : List Nat).getD i 0 : Nat))) := hid (fun w6 i hi => by
        obtain rfl : i = 0 := by omega
        exact new_cell w6 _ _ _ 0 (by simp))
      rw [hk, hx, hln] at HUS
      clear hk hx hln hfr1 hz hl0 hl1 q1 q2 q3 q4 hwf hmn HHD
      generalize usedS H.qi T = UT at *
      generalize hAT : addS H.qi UT ⟨z, 1526, true⟩ = AT at *
      clear hAT
      cases hfd : fdB (ln : Int)
      · rw [hfd] at HX
        simp only [Bool.false_eq_true, if_false] at HX
        have HX2 := hid HX.out
        have hcs : ¬ ((26 : Int) ≤ ln) ∨ ((26 : Int) ≤ ln ∧ ¬ ((ln : Int) ≤ 1526)) := by simp [fdB] at hfd; omega
        clear hfd
        rcases hcs with hc1 | ⟨hc1, hc2⟩
        · subst hv hkv
          go_wp2_with (first
            | (at_builtin; refine wpList_append_ints rfl (.tmp 62) (.tmp 64) rfl _ lk rfl (owns_below HB6.out.ir ((Below.refl _ w6).alloc (Nat.le_refl _) _)) w6.heap.size 1 1 [x] rfl rfl (HONE.out w6) (HLK.out) ?_; intro v7 w7 hi7 hg7 ho7; obtain ⟨hbg7, hmo7⟩ := HB6.out.back HN6.out.lt HK6.out.2.size ((Below.refl _ w6).alloc (Nat.le_refl _) _) hi7.out hg7.out ho7.out; have HN7 := hid (HN6.out.outside hmo7 (fun b e => (HB6.out.own b e).2.2)); have HK7 := hid (HK6.out.own hmo7 (fun b e => (HB6.out.own b e).1)); have HB7 := hid hbg7; obtain ⟨qa, qc, nq, qv⟩ : ∃ qa qc nq, v7 = .slice qa nq qc := (let ⟨a, c, h⟩ := owns_slice hi7.out; ⟨a, c, _, h⟩); subst qv; clear hi7 hg7 ho7 hbg7 hmo7)
            | (go_at_call 36; refine HUS.out.mono ?_; rintro e w3 ⟨rfl, lab3, h3, hk3⟩; obtain ⟨f0, f1, f2, f3, f4, f5, f6, y5, y6⟩ := h3.cells; have HN3 := hid h3; have HK3 := hid (HKT.out.trans hk3); have HB3 := hid (HBG.out.onward hk3); clear h3 hk3)
            | (go_at_call 37; refine (taken_any w3 v1' la lb x (by have h := HN3.out.r1; rw [HQ.out.1] at h; exact h) HQ.out.2.1 (by have h := HQ.out.2.2; rw [HQ.out.1] at h; exact h)).mono ?_; rintro e w4 ⟨v4, rfl, hr4, hv4, hb4⟩; obtain ⟨a4, c4, n4, hvv⟩ : ∃ a4 c4 n4, v4 = .slice a4 n4 c4 := (let ⟨a, c, h, _⟩ := hr4.open_; ⟨a, c, _, h⟩); subst hvv; obtain ⟨k0, k1, k2, k3, k4, k5, k6, x5, x6⟩ := (HN3.out.below hb4).cells; obtain ⟨lab5, h5, hk5⟩ := HN3.out.took1 hb4 hr4 hv4; obtain ⟨m0, m1, m2, m3, m4, _, _, _, _⟩ := h5.cells; have HN5 := hid h5; have HK5 := hid (HK3.out.trans hk5); have HB5 := hid (HB3.out.onward hk5); clear h5 hk5 hr4 hv4 hb4)
            | (go_at_call 28; refine (HOF.out _ lab5 _ HN5.out).mono ?_; rintro e w6 ⟨rfl, lab6, v6, h6, hk6⟩; have HN6 := hid h6; have HK6 := hid (HK5.out.trans hk6); have HB6 := hid (HB5.out.onward hk6); clear h6 hk6))
          go_roundw
          case rel =>
            have h1 := HLL.out
            have h2 := HST.out
            have h3 := HAM.out
            exact ⟨AT, Ls, lk ++ [x], lab6, v6, HX2.out, HAE.out, HAO.out.1, HAO.out.2, HAF.out, by first | omega | (rw [List.length_append, List.length_singleton]; omega), by rw [List.length_append, List.length_singleton]; omega, HN7.out, HK7.out, HB7.out⟩
          case measure =>
            have m1 := HME.out T wr HTI.out hcell.out
            have m2 := HME.out AT w7 HAF.out HN7.out.di.uses
            have m3 := HST.out
            have m4 := HAM.out
            omega

        · subst hv hkv
          go_wp2_with (first
            | (at_builtin; refine wpList_append_ints rfl (.tmp 62) (.tmp 64) rfl _ lk rfl (owns_below HB6.out.ir ((Below.refl _ w6).alloc (Nat.le_refl _) _)) w6.heap.size 1 1 [x] rfl rfl (HONE.out w6) (HLK.out) ?_; intro v7 w7 hi7 hg7 ho7; obtain ⟨hbg7, hmo7⟩ := HB6.out.back HN6.out.lt HK6.out.2.size ((Below.refl _ w6).alloc (Nat.le_refl _) _) hi7.out hg7.out ho7.out; have HN7 := hid (HN6.out.outside hmo7 (fun b e => (HB6.out.own b e).2.2)); have HK7 := hid (HK6.out.own hmo7 (fun b e => (HB6.out.own b e).1)); have HB7 := hid hbg7; obtain ⟨qa, qc, nq, qv⟩ : ∃ qa qc nq, v7 = .slice qa nq qc := (let ⟨a, c, h⟩ := owns_slice hi7.out; ⟨a, c, _, h⟩); subst qv; clear hi7 hg7 ho7 hbg7 hmo7)
            | (go_at_call 36; refine HUS.out.mono ?_; rintro e w3 ⟨rfl, lab3, h3, hk3⟩; obtain ⟨f0, f1, f2, f3, f4, f5, f6, y5, y6⟩ := h3.cells; have HN3 := hid h3; have HK3 := hid (HKT.out.trans hk3); have HB3 := hid (HBG.out.onward hk3); clear h3 hk3)
            | (go_at_call 37; refine (taken_any w3 v1' la lb x (by have h := HN3.out.r1; rw [HQ.out.1] at h; exact h) HQ.out.2.1 (by have h := HQ.out.2.2; rw [HQ.out.1] at h; exact h)).mono ?_; rintro e w4 ⟨v4, rfl, hr4, hv4, hb4⟩; obtain ⟨a4, c4, n4, hvv⟩ : ∃ a4 c4 n4, v4 = .slice a4 n4 c4 := (let ⟨a, c, h, _⟩ := hr4.open_; ⟨a, c, _, h⟩); subst hvv; obtain ⟨k0, k1, k2, k3, k4, k5, k6, x5, x6⟩ := (HN3.out.below hb4).cells; obtain ⟨lab5, h5, hk5⟩ := HN3.out.took1 hb4 hr4 hv4; obtain ⟨m0, m1, m2, m3, m4, _, _, _, _⟩ := h5.cells; have HN5 := hid h5; have HK5 := hid (HK3.out.trans hk5); have HB5 := hid (HB3.out.onward hk5); clear h5 hk5 hr4 hv4 hb4)
            | (go_at_call 28; refine (HOF.out _ lab5 _ HN5.out).mono ?_; rintro e w6 ⟨rfl, lab6, v6, h6, hk6⟩; have HN6 := hid h6; have HK6 := hid (HK5.out.trans hk6); have HB6 := hid (HB5.out.onward hk6); clear h6 hk6))
          go_roundw
          case rel =>
            have h1 := HLL.out
            have h2 := HST.out
            have h3 := HAM.out
            exact ⟨AT, Ls, lk ++ [x], lab6, v6, HX2.out, HAE.out, HAO.out.1, HAO.out.2, HAF.out, by first | omega | (rw [List.length_append, List.length_singleton]; omega), by rw [List.length_append, List.length_singleton]; omega, HN7.out, HK7.out, HB7.out⟩
          case measure =>
            have m1 := HME.out T wr HTI.out hcell.out
            have m2 := HME.out AT w7 HAF.out HN7.out.di.uses
            have m3 := HST.out
            have m4 := HAM.out
            omega

      · rw [hfd] at HX
        simp only [if_true] at HX
        have hcs : (26 : Int) ≤ ln ∧ (ln : Int) ≤ 1526 := by simp [fdB] at hfd; omega
        obtain ⟨hc1, hc2⟩ := hcs
        obtain ⟨lm, rfl⟩ : ∃ lm, ln = 12 + lm := ⟨ln - 12, by omega⟩
        have ELM : Hid (z + (12 + lm) - (z + 12) = lm) := hid (by omega)
        have HX2 := HX
        rw [frAt_at, ← HUF.out] at HX2
        clear hfd
        subst hv hkv
        go_wp2_with (first
            | (at_builtin; refine wpList_append_ints rfl (.tmp 62) (.tmp 64) rfl _ lk rfl (owns_below HB6.out.ir ((Below.refl _ w6).alloc (Nat.le_refl _) _)) w6.heap.size 1 1 [x] rfl rfl (HONE.out w6) (HLK.out) ?_; intro v7 w7 hi7 hg7 ho7; obtain ⟨hbg7, hmo7⟩ := HB6.out.back HN6.out.lt HK6.out.2.size ((Below.refl _ w6).alloc (Nat.le_refl _) _) hi7.out hg7.out ho7.out; have HN7 := hid (HN6.out.outside hmo7 (fun b e => (HB6.out.own b e).2.2)); have HK7 := hid (HK6.out.own hmo7 (fun b e => (HB6.out.own b e).1)); have HB7 := hid hbg7; obtain ⟨qa, qc, nq, qv⟩ : ∃ qa qc nq, v7 = .slice qa nq qc := (let ⟨a, c, h⟩ := owns_slice hi7.out; ⟨a, c, _, h⟩); subst qv; clear hi7 hg7 ho7 hbg7 hmo7)
            | (at_builtin; rw [ELM.out]; refine nappend_run rfl (.tmp 45) (.tmp 55) 25 rfl rfl rfl hr9 ?_)
            | (at_builtin; refine nappend_run rfl (.tmp 44) (.tmp 57) 44 rfl rfl rfl hr10 ?_)
            | (go_at_call 36; refine HUS.out.mono ?_; rintro e w3 ⟨rfl, lab3, h3, hk3⟩; obtain ⟨f0, f1, f2, f3, f4, f5, f6, y5, y6⟩ := h3.cells; have HN3 := hid h3; have HK3 := hid (HKT.out.trans hk3); have HB3 := hid (HBG.out.onward hk3); clear h3 hk3)
            | (go_at_call 37; refine (taken_any w3 v1' la lb x (by have h := HN3.out.r1; rw [HQ.out.1] at h; exact h) HQ.out.2.1 (by have h := HQ.out.2.2; rw [HQ.out.1] at h; exact h)).mono ?_; rintro e w4 ⟨v4, rfl, hr4, hv4, hb4⟩; obtain ⟨a4, c4, n4, hvv⟩ : ∃ a4 c4 n4, v4 = .slice a4 n4 c4 := (let ⟨a, c, h, _⟩ := hr4.open_; ⟨a, c, _, h⟩); subst hvv; obtain ⟨k0, k1, k2, k3, k4, k5, k6, x5, x6⟩ := (HN3.out.below hb4).cells; obtain ⟨lab5, h5, hk5⟩ := HN3.out.took1 hb4 hr4 hv4; obtain ⟨m0, m1, m2, m3, m4, _, _, _, _⟩ := h5.cells; have HN5 := hid h5; have HK5 := hid (HK3.out.trans hk5); have HB5 := hid (HB3.out.onward hk5); clear h5 hk5 hr4 hv4 hb4)
            | (go_at_call 38; refine (rat_any _ B.pc H x z m3 m4 (by omega) HZ.out).mono ?_; rintro e w8 ⟨rfl, q8, hw8⟩; have HBL8 : Hid (Below (w4.setCell ⟨B.pc, 5, none⟩ (.slice a4 n4 c4)).heap.size (w4.setCell ⟨B.pc, 5, none⟩ (.slice a4 n4 c4)) w8) := hid (by rw [hw8]; exact below_drewN (Below.refl _ _) q8); have HN8 := hid (HN5.out.below HBL8.out); have HK8 := hid (HK5.out.trans (Keep.below HBL8.out)); have HB8 := hid (HB5.out.onward (Keep.below HBL8.out)); obtain ⟨g0, g1, g2, _, _, _, _, _, _⟩ := HN8.out.cells; have g2a := cell_later ((Below.refl _ w8).alloc (Nat.le_refl _) (.cells #[] 5)) g2; obtain ⟨fb, fc, w9, hr9, hfb, hblk, hb9⟩ := clone_run w8 B.g H.N UT.f (z + 12) lm (H.N - (z + 12)) HN8.out.mem (by omega) (by omega) (by omega) 25; have HFR9 := hid (HB8.out.onward (Keep.below hb9)).fr; have HM5 : Hid (Mine5 w w9 lab5 fb) := hid ⟨Nat.le_trans HK8.out.2.size hfb, hblk.lt, Classical.byContradiction (fun e2 => by have := HN8.out.lt fb e2; omega)⟩; obtain ⟨v10, w10, hr10, hf10, hs10, hm10⟩ := row_run w9 fb fc lm (Mine5 w w9 lab5) (at_ UT.f (z + 12) lm) _ Ls HFR9.out (by simp [at_]) hblk HM5.out (by have := HLL.out; omega) 44; obtain ⟨hbg10, hmo10⟩ := HB8.out.row HN8.out.lt HK8.out.2.size hb9 hf10 hs10 hm10; have HN10 := hid (HN8.out.outside hmo10 (fun b e => (HB8.out.fr.own b e).2.2)); have HK10 := hid (HK8.out.own hmo10 (fun b e => (HB8.out.fr.own b e).1)); obtain ⟨ra, rc, nr, hrv⟩ : ∃ ra rc nr, v10 = .slice ra nr rc := (let ⟨a, c, h⟩ := hbg10.fr.shape; ⟨a, c, _, h⟩); subst hrv; have HB10 := hid hbg10; clear hw8 hbg10 hmo10 hf10 hs10 hm10 hfb hblk hb9)
            | (go_at_call 28; refine (HOF.out w10 lab5 _ HN10.out).mono ?_; rintro e w6 ⟨rfl, lab6, v6, h6, hk6⟩; have HN6 := hid h6; have HK6 := hid (HK10.out.trans hk6); have HB6 := hid (HB10.out.onward hk6); clear h6 hk6))
        go_roundw
        case rel =>
          have h1 := HLL.out
          have h2 := HST.out
          have h3 := HAM.out
          exact ⟨AT, _, lk ++ [x], lab6, v6, HX2.out, HAE.out, HAO.out.1, HAO.out.2, HAF.out, by first | omega | (rw [List.length_append, List.length_singleton]; omega), by rw [List.length_append, List.length_singleton]; omega, HN7.out, HK7.out, HB7.out⟩
        case measure =>
          have m1 := HME.out T wr HTI.out hcell.out
          have m2 := HME.out AT w7 HAF.out HN7.out.di.uses
          have m3 := HST.out
          have m4 := HAM.out
          omega

end Go.Proofs.YtdjghkngiicncaaGreat
