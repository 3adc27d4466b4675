/- vnet: Receive. -/
import Derived.Test.YtdjghkngiicncaaGreatNetJ
namespace Go.Proofs.YtdjghkngiicncaaGreat
open Go.RowKit

theorem Net.used {w : World} {lab : Nat → Nat} {H : Nh} {S : Ns} {c : Nat} {T : Sd} (h : Net w lab H (S.setI T) c) (ho : T.o = S.oi) (hu : T.u = S.ui) :
    Calls Tryz.prog 40 #[.pointer (some ⟨H.di, 0, none⟩)] w fun e w' => e = .returned (.tuple #[.int .i64 (usedR H.qi T).1, .int .i64 (usedR H.qi T).2.1, .int .i64 (usedR H.qi T).2.2]) ∧ ∃ lab', Net w' lab' H (S.setI (usedS H.qi T)) c ∧ Keep lab w lab' w' ∧ (usedS H.qi T).o = S.oi ∧ (usedS H.qi T).u = S.ui := by
  refine (Used_S w H.di H.qi T c (fun b => lab b = 1) h.di h.mem).mono ?_
  rintro e w' ⟨rfl, hs, hm⟩
  obtain ⟨lab', h1, h2, _⟩ := h.toDI hs hm (Nat.le_refl _) (One.used (S := T) h.oi)
  have h3 := usedS_o H.qi T
  have he : S.setI (usedS H.qi T) = { S.setI T with Ai := (usedS H.qi T).A, f := (usedS H.qi T).f } := by unfold Ns.setI; rw [h3.1, h3.2]
  exact ⟨rfl, lab', he ▸ h1, h2, h3.1.trans ho, h3.2.trans hu⟩
theorem Net.offer {w w' : World} {lab : Nat → Nat} {H : Nh} {S : Ns} {c : Nat} {T : Sd} (h : Net w lab H (S.setI T) c) (b : Bf) (hf : 0 < T.A.free.length) (hs : Step w w' H.di H.qi (addS H.qi T b).A (c + 1) (fun b => lab b = 1)) (hm : Mem w' H.g H.N (addS H.qi T b).f) :
    ∃ lab', Net w' lab' H (S.setI (addS H.qi T b)) (c + 1) ∧ Keep lab w lab' w' := by
  obtain ⟨lab', h1, h2, _⟩ := h.toDI hs hm (by omega) (One.add (A := T.A) h.oi hf)
  exact ⟨lab', h1, h2⟩
def ms (e k : Int) : Nat := if e = 2 then 0 else 1 + (k % 65536).toNat
theorem ms_two (k : Int) : ms 2 k = 0 := rfl
theorem ms_other {e k : Int} (h : ¬ e = 2) : ms e k = 1 + (k % 65536).toNat := by unfold ms; rw [if_neg h]
theorem Keep.extra {lab lab1 : Nat → Nat} {w w1 w2 : World} (h : Keep lab w lab1 w1) {P : Nat → Prop} (hm : Mods P w1 w2) (hP : ∀ b, P b → w.heap.size ≤ b) : Keep lab w lab1 w2 := ⟨h.1, h.2.trans hm (fun b hb => .inr (hP b hb))⟩
theorem FmRow.own {w : World} {al : Nat → Prop} {v : Value} {Ls : List (List Int)} (h : FmRow w al v Ls) : ∀ b, v.ownBlock = some b → al b := let ⟨_, _, _, _, h4⟩ := h; h4
def recvAll (H : Nh) (S : Ns) : Sd × List (List Int) := recvS H S.i []
/-- The blocks of a call's own: new, and not the net's. -/
def Mine5 (w w' : World) (lab' : Nat → Nat) (b : Nat) : Prop := w.heap.size ≤ b ∧ b < w'.heap.size ∧ lab' b = 0
theorem FmRow.onward {w w1 w2 : World} {lab1 lab2 : Nat → Nat} {v : Value} {Ls : List (List Int)} (h : FmRow w1 (Mine5 w w1 lab1) v Ls) (hk : Keep lab1 w1 lab2 w2) : FmRow w2 (Mine5 w w2 lab2) v Ls :=
  (h.keep (fun b hb _ => hk.block hb.2.1 hb.2.2)).weak (fun b hb _ => ⟨hb.1, Nat.lt_of_lt_of_le hb.2.1 hk.size, by rw [hk.1 b hb.2.1]; exact hb.2.2⟩)

set_option maxRecDepth 100000 in
set_option maxHeartbeats 8000000 in
theorem Receive_any (w : World) (lab : Nat → Nat) (H : Nh) (S : Ns) (c : Nat) (hn : Net w lab H S c) (hfull : S.Ai.free = []) (hc : c < 549755813888) :
    Calls Tryz.prog 14 #[.pointer (some ⟨H.pc, 0, none⟩)] w fun e w' => ∃ v, e = .returned v ∧ ∃ lab', Net w' lab' H (S.setI (recvAll H S).1) (c + 65537) ∧ Keep lab w lab' w' ∧ FmRow w' (Mine5 w w' lab') v (recvAll H S).2 := by
  have HN := hid hn
  obtain ⟨p0, p1, p2, _, _, _⟩ := hn.cardCells
  have HU0 := hid (Net.used (S := S) (T := S.i) hn rfl rfl)
  have hok := hid hn.oki
  have hone := hid hn.oi
  have HFULL := hid hfull
  have HFI := hid H.fi_fit
  have hni := H.bd
  have hbigN := H.big
  unfold recvAll
  generalize hR : recvS H S.i [] = R
  have HR := hid hR
  obtain ⟨I, hI⟩ : ∃ I : Int, rd S.f (H.qi.pu + 2) 2 = I := ⟨_, rfl⟩
  have HI := hid hI
  clear hn hfull hR hI
  have HM0 : Hid (more H.qi S.i ≤ 65535) := hid (by unfold more; omega)
  go_enter Tryz.func14, Tryz.ntmps14
  go_wp2_with (go_at_call 40; refine HU0.out.mono ?_; rintro e w2 ⟨rfl, lab2, hn2, hk2, ho2, hu2⟩; have HN2 := hid hn2; have HK2 := hid hk2; have HO2 := hid (And.intro ho2 hu2); clear hn2 hk2 ho2 hu2)
  go_loopw [3, 4, 5, 6] (fun v x4 x5 x6 wr => ∃ (T : Sd) (Ls : List (List Int)) (c1 : Nat) (lab1 : Nat → Nat), x4 = .int .i64 (usedR H.qi T).1 ∧ x5 = .int .i64 (usedR H.qi T).2.1 ∧ x6 = .int .i64 (usedR H.qi T).2.2 ∧
      recvS H T Ls = R ∧ Ok H.qi T ∧ One T.A ∧ T.A.free = [] ∧ T.o = S.oi ∧ T.u = S.ui ∧ rd T.f (H.qi.pu + 2) 2 = I ∧ c1 + more H.qi T ≤ c + 65536 ∧ Ls.length + more H.qi T ≤ 65536 ∧ Net wr lab1 H (S.setI (usedS H.qi T)) c1 ∧ Keep lab w lab1 wr ∧ FmRow wr (Mine5 w wr lab1) v Ls)
    (fun _ _ _ x6 wr => ms (RowKit.intOf x6) (I - (cellN wr H.di 9 : Int)))
  case atStart =>
    have := HM0.out
    exact ⟨S.i, [], c, lab2, rfl, rfl, rfl, HR.out, hok.out, hone.out, HFULL.out, rfl, rfl, HI.out, by omega, by simp; omega, HN2.out, HK2.out, FmRow.nil _ _⟩
  case round =>
    obtain ⟨T, Ls, c1, lab1, rfl, rfl, rfl, hr, hokT, honeT, hfullT, hoT, huT, hIT, hcT, hlT, hnT, hkT, hfrT⟩ := hrel
    have HRT := hid hr
    have HOK := hid hokT
    have HON := hid honeT
    have HFU := hid hfullT
    have HOU := hid (And.intro hoT huT)
    have HIT := hid hIT
    have HCT := hid (And.intro hcT hlT)
    have HNT := hid hnT
    have HKT := hid hkT
    have HFR := hid hfrT
    obtain ⟨q0, q1, q2, _, _, _⟩ := hnT.cardCells
    have HOU2 := hid (usedS_o H.qi T)
    have hcell : Hid (cellN wr H.di 9 = (usedS H.qi T).A.uses) := hid hnT.di.uses
    obtain ⟨va, vc, hv⟩ := hfrT.shape
    clear hr hokT honeT hfullT hoT huT hIT hcT hlT hnT hkT hfrT p0 p1 p2
    rcases usedR_kind H.qi T with hk | hk | hk
    · have HX := hid (recv_none (Ls := Ls) HOK.out hk)
      have HUS : Hid (usedS H.qi T = T) := hid (by unfold usedS; rw [if_pos (usedR_none.1 hk)])
      rw [hk]
      generalize (usedR H.qi T).1 = t1 at *
      generalize (usedR H.qi T).2.1 = t2 at *
      clear hk
      subst hv
      go_wp2
      go_ret
      refine ⟨_, rfl, lab1, ?_, HKT.out, ?_⟩
      · have h1 := HNT.out.more (show c1 ≤ c + 65537 by have := HCT.out; omega)
        rw [HUS.out] at h1
        rw [← HRT.out, HX.out]
        exact h1
      · rw [← HRT.out, HX.out]
        exact HFR.out
    · have HX := hid (recv_bad (Ls := Ls) HOK.out hk)
      have HST := hid (usedS_step HOK.out (fun e => by rw [usedR_none.2 e] at hk; omega))
      have HU := hid (Net.used (S := S) (T := usedS H.qi T) HNT.out (HOU2.out.1.trans HOU.out.1) (HOU2.out.2.trans HOU.out.2))
      have HKD := hid (usedR_kind H.qi (usedS H.qi T))
      have HUN := hid (@usedR_none H.qi (usedS H.qi T))
      have HST2 := hid (@usedS_step H.qi (usedS H.qi T) HOK.out.used)
      have HUF := hid (usedS_f H.qi T)
      have HUF2 := hid (usedS_f H.qi (usedS H.qi T))
      have HFU2 : Hid ((usedS H.qi T).A.free = []) := hid (by
        unfold usedS
        split
        · exact HFU.out
        · rename_i hne
          split
          · exact HFU.out
          · rename_i ch hl
            unfold usedR at hk
            rw [if_neg hne, hl] at hk
            simp at hk)
      rw [hk]
      generalize (usedR H.qi T).1 = t1 at *
      generalize (usedR H.qi T).2.1 = t2 at *
      clear hk
      subst hv
      go_wp2_with (go_at_call 40; refine HU.out.mono ?_; rintro e w8 ⟨rfl, lab8, hn8, hk8, ho8, hu8⟩; have HN8 := hid hn8; have HK8 := hid hk8; clear hn8 hk8 ho8 hu8)
      go_roundw
      case rel =>
        have h1 := HCT.out
        have h2 := HST.out
        exact ⟨usedS H.qi T, Ls, c1, lab8, rfl, rfl, rfl, by rw [← HX.out]; exact HRT.out, HOK.out.used, One.used HON.out, HFU2.out, HOU2.out.1.trans HOU.out.1, HOU2.out.2.trans HOU.out.2, by rw [HUF.out]; exact HIT.out, by omega, by omega, HN8.out, HKT.out.trans HK8.out, HFR.out.onward HK8.out⟩
      case measure =>
        have h1 := HN8.out.di.uses
        have h2 := hcell.out
        show ms (usedR H.qi (usedS H.qi T)).2.2 _ < ms 15 _
        rw [ms_other (e := 15) (by omega), h2]
        by_cases h : (usedR H.qi (usedS H.qi T)).2.2 = 2
        · rw [h, ms_two]; omega
        · rw [ms_other h]
          have h4 := HST2.out (fun e => h (HUN.out.2 e))
          unfold more at h4
          rw [HUF2.out, HUF.out, HIT.out] at h4
          have h5 : cellN w8 H.di 9 = (usedS H.qi (usedS H.qi T)).A.uses := h1
          rw [h5]
          omega
    · obtain ⟨x, hx, hxn, hfr1, hl0, hl1⟩ := used_ok HOK.out HON.out HFU.out hk
      replace hxn : x < H.n := hxn
      have HX := hid (recv_ok (Ls := Ls) HOK.out HON.out HFU.out hk)
      have HST := hid (usedS_step HOK.out (fun e => by rw [usedR_none.2 e] at hk; omega))
      obtain ⟨ln, hln⟩ : ∃ ln : Nat, (usedR H.qi T).2.1 = ln := ⟨(usedR H.qi T).2.1.toNat, by omega⟩
      rw [hx, hln] at HX
      simp only [Int.toNat_natCast] at HX
      have HUF := hid (usedS_f H.qi T)
      obtain ⟨z, hz⟩ : ∃ z, H.fi + x * 1528 = z := ⟨_, rfl⟩
      have hzN : z + 1526 ≤ H.N := by rw [← hz]; exact HFI.out x hxn
      rw [hz] at HX
      have HZ := hid hz
      have HF1 : Hid (0 < (usedS H.qi T).A.free.length) := hid (by rw [hfr1]; simp)
      have HOA : Hid ((addS H.qi (usedS H.qi T) ⟨z, 1526, true⟩).o = S.oi ∧ (addS H.qi (usedS H.qi T) ⟨z, 1526, true⟩).u = S.ui) := hid ⟨HOU2.out.1.trans HOU.out.1, HOU2.out.2.trans HOU.out.2⟩
      have HAM := hid (addS_more (q := H.qi) (S := usedS H.qi T) (b := ⟨z, 1526, true⟩) (by rw [hfr1]; exact hxn) (by rw [hfr1]; simp))
      have HAF : Hid (rd (addS H.qi (usedS H.qi T) ⟨z, 1526, true⟩).f (H.qi.pu + 2) 2 = I) := hid (by
        show rd (addF (usedS H.qi T).f H.qi (usedS H.qi T).A [⟨z, 1526, true⟩]) (H.qi.pu + 2) 2 = I
        rw [addF_up _ _ _ _ (by rw [hfr1]; exact hxn) (by rw [hfr1]; simp) _ _ (by omega), HUF.out]
        exact HIT.out)
      have HAO := hid (HOK.out.used.add HF1.out ⟨z, 1526, true⟩)
      have HAN : Hid (One (addS H.qi (usedS H.qi T) ⟨z, 1526, true⟩).A) := hid (One.add (One.used HON.out) HF1.out)
      have HAE : Hid ((addS H.qi (usedS H.qi T) ⟨z, 1526, true⟩).A.free = []) := hid (by show (usedS H.qi T).A.free.drop 1 = []; rw [hfr1]; rfl)
      have HOFF : Hid (∀ W lab1' , Net W lab1' H (S.setI (usedS H.qi T)) c1 → Calls Tryz.prog 25 #[sideV H.di H.g H.N H.fi, .int .i64 x] W fun e w' => e = .returned (.int .i64 0) ∧ Step W w' H.di H.qi (addS H.qi (usedS H.qi T) ⟨z, 1526, true⟩).A (c1 + 1) (fun b => lab1' b = 1) ∧ Mem w' H.g H.N (addS H.qi (usedS H.qi T) ⟨z, 1526, true⟩).f) := hid (fun W lab1' hW =>
        offerRoom_any W H.di H.qi (usedS H.qi T) c1 (fun b => lab1' b = 1) H.fi x z hW.di hW.mem (by omega) hz hzN HF1.out (by have := HCT.out; omega))
      have HST2 := hid (@usedS_step H.qi (addS H.qi (usedS H.qi T) ⟨z, 1526, true⟩) HAO.out)
      have HUN := hid (@usedR_none H.qi (addS H.qi (usedS H.qi T) ⟨z, 1526, true⟩))
      have HUF2 := hid (usedS_f H.qi (addS H.qi (usedS H.qi T) ⟨z, 1526, true⟩))
      have HAU : Hid ((addS H.qi (usedS H.qi T) ⟨z, 1526, true⟩).A.uses = (usedS H.qi T).A.uses) := hid rfl
      unfold sideV at HOFF
      rw [hk, hx, hln]
      clear hk hx hln hfr1 hz hl0 hl1
      cases hfd : fdB (ln : Int)
      · have HISF := hid (isFramed_any wr ln)
        rw [hfd] at HISF HX
        simp only [Bool.false_eq_true, if_false] at HX
        clear hfd
        subst hv
        generalize hUT : usedS H.qi T = UT at *
        generalize hAT : addS H.qi UT ⟨z, 1526, true⟩ = AT at *
        have HAT := hid hAT
        clear hAT hUT
        have HNO : Hid (∀ W w' (lb : Nat → Nat), Net W lb H (S.setI UT) c1 → Step W w' H.di H.qi AT.A (c1 + 1) (fun b => lb b = 1) → Mem w' H.g H.N AT.f → ∃ lab', Net w' lab' H (S.setI AT) (c1 + 1) ∧ Keep lb W lab' w') := hid (fun W w' lb h1 h2 h3 => by
          rw [← HAT.out] at h2 h3 ⊢
          exact h1.offer ⟨z, 1526, true⟩ HF1.out h2 h3)
        go_wp2_with (first
          | (go_at_call 41; refine HISF.out.mono ?_; rintro e w5 ⟨rfl, hw5⟩; rw [hw5]; clear hw5)
          | (go_at_call 25; refine (HOFF.out wr lab1 HNT.out).mono ?_; rintro e w7 ⟨rfl, hs7, hm7⟩; obtain ⟨lab7, hn7, hk7⟩ := HNO.out _ w7 _ HNT.out hs7 hm7; obtain ⟨s0, s1, s2, _, _, _⟩ := hn7.cardCells; have HN7 := hid hn7; have HK7 := hid hk7; clear hs7 hm7 hn7 hk7)
          | (go_at_call 40; refine (Net.used (S := S) HN7.out HOA.out.1 HOA.out.2).mono ?_; rintro e w8 ⟨rfl, lab8, hn8, hk8, ho8, hu8⟩; have HN8 := hid hn8; have HK8 := hid hk8; clear hn8 hk8 ho8 hu8))
        go_roundw
        case rel =>
          have h1 := HCT.out
          have h2 := HST.out
          have h3 := HAM.out
          exact ⟨AT, Ls, c1 + 1, lab8, rfl, rfl, rfl, by rw [← HX.out]; exact HRT.out, HAO.out, HAN.out, HAE.out, HOA.out.1, HOA.out.2, HAF.out, by omega, by omega, HN8.out, HKT.out.trans (HK7.out.trans HK8.out), HFR.out.onward (HK7.out.trans HK8.out)⟩
        case measure =>
          have h1 := HN8.out.di.uses
          have h2 := hcell.out
          show ms (usedR H.qi AT).2.2 _ < ms 0 _
          rw [ms_other (e := 0) (by omega), h2]
          by_cases h : (usedR H.qi AT).2.2 = 2
          · rw [h, ms_two]; omega
          · rw [ms_other h]
            have h4 := HST2.out (fun e => h (HUN.out.2 e))
            unfold more at h4
            rw [HUF2.out, HAF.out, HAU.out] at h4
            have h5 : cellN w8 H.di 9 = (usedS H.qi AT).A.uses := h1
            rw [h5]
            omega
      · have HISF := hid (isFramed_any wr ln)
        rw [hfd] at HISF HX
        simp only [if_true] at HX
        have hln : 26 ≤ ln ∧ ln ≤ 1526 := by simp [fdB] at hfd; omega
        clear hfd
        have HBY := hid (bytes_any wr H.di H.g H.N H.fi x ln z hbigN (by omega) HZ.out (by omega) (by omega))
        unfold sideV at HBY
        have HTF : Hid ((S.setI (usedS H.qi T)).f = T.f) := hid HUF.out
        have HFO : Hid (∀ W, Below wr.heap.size wr W → Calls Tryz.prog 42 #[.slice (some ⟨H.g, z, none⟩) ln ln] W fun e w' => ∃ b c, e = .returned (.slice (some ⟨b, 0, none⟩) (ln - 12) c) ∧ W.heap.size ≤ b ∧ ln - 12 ≤ c ∧ Blk w' b (frAt T.f z ln) ∧ Below W.heap.size W w') := hid (fun W hW => by
          have h1 := (HNT.out.mem.below hW).bytes z ln (by omega)
          rw [HTF.out] at h1
          exact frameOf_any W H.g z ln ln _ h1 (at_len _ _ _) hln.1 hln.2 (Nat.le_refl _))
        have HLEN : Hid ((frAt T.f z ln).length = ln - 12) := hid (by unfold frAt; rw [List.length_drop, at_len])
        have HLS : Hid (Ls.length ≤ 1048576) := hid (by have := HCT.out; omega)
        have HLS1 : Hid ((Ls ++ [frAt T.f z ln]).length = Ls.length + 1) := hid (by simp)
        generalize hUT : usedS H.qi T = UT at *
        generalize hAT : addS H.qi UT ⟨z, 1526, true⟩ = AT at *
        have HAT := hid hAT
        clear hAT hUT
        have HNO : Hid (∀ W w' (lb : Nat → Nat), Net W lb H (S.setI UT) c1 → Step W w' H.di H.qi AT.A (c1 + 1) (fun b => lb b = 1) → Mem w' H.g H.N AT.f → ∃ lab', Net w' lab' H (S.setI AT) (c1 + 1) ∧ Keep lb W lab' w') := hid (fun W w' lb h1 h2 h3 => by
          rw [← HAT.out] at h2 h3 ⊢
          exact h1.offer ⟨z, 1526, true⟩ HF1.out h2 h3)
        subst hv
        have HLZ : Hid (∀ b, wr.heap.size ≤ b → lab1 b = 0) := hid (fun b hb => by
          by_cases e : lab1 b = 0
          · exact e
          · have := HNT.out.lt b e; omega)
        have HSZ : Hid (w.heap.size ≤ wr.heap.size) := hid HKT.out.size
        have APPF : Hid (∀ w4 w9 v9, Below wr.heap.size wr w4 → FmRow w9 (fun b => Mine5 w w4 lab1 b ∨ (w4.heap.size < b ∧ b < w9.heap.size)) v9 (Ls ++ [frAt T.f z ln]) → FmRow w9 (Mine5 w w9 lab1) v9 (Ls ++ [frAt T.f z ln])) := hid (fun w4 w9 v9 h4 h9 => h9.weak (fun b hb hl => by
          have h1 := HSZ.out
          have h2 := h4.size
          rcases hb with hb | hb
          · exact ⟨hb.1, hl, hb.2.2⟩
          · exact ⟨by omega, hl, HLZ.out b (by omega)⟩))
        have APPN : Hid (∀ w4 w9 fb fc, Below wr.heap.size wr w4 → Mods (fun b => (Value.slice va Ls.length vc).ownBlock = some b) (w4.alloc (.cells #[.slice (some ⟨fb, 0, none⟩) (ln - 12) fc] 25)) w9 → Net w9 lab1 H (S.setI UT) c1 ∧ Keep lab w lab1 w9) := hid (fun w4 w9 fb fc h4 h9 => by
          have hb : Below wr.heap.size wr (w4.alloc (.cells #[.slice (some ⟨fb, 0, none⟩) (ln - 12) fc] 25)) := h4.alloc h4.size _
          exact ⟨(HNT.out.below hb).outside h9 (fun b e => (HFR.out.own b e).2.2), (HKT.out.trans (Keep.below hb)).extra h9 (fun b e => (HFR.out.own b e).1)⟩)
        go_wp2_with (first
          | (go_at_call 41; refine HISF.out.mono ?_; rintro e w5 ⟨rfl, hw5⟩; rw [hw5]; clear hw5)
          | (go_at_call 43; refine HBY.out.mono ?_; rintro e w3 ⟨rfl, hb3⟩; have HB3 := hid hb3; clear hb3)
          | (go_at_call 42; refine (HFO.out w3 HB3.out).mono ?_; rintro e w4 ⟨fb, fc, rfl, hfb, hfc, hbk, hb4⟩; have HBK := hid hbk; have HFBO : Hid (Mine5 w w4 lab1 fb) := hid ⟨by have h1 := HSZ.out; have h2 := HB3.out.size; omega, hbk.lt, HLZ.out fb (by have h2 := HB3.out.size; omega)⟩; have HB4 := hid (HB3.out.trans (hb4.mono HB3.out.size)); clear hfb hbk hb4)
          | (at_builtin; refine wpList_append_row rfl (.tmp 33) (.tmp 42) rfl w4 fb fc (ln - 12) (Mine5 w w4 lab1) (frAt T.f z ln) _ Ls rfl (HFR.out.onward (Keep.below HB4.out)) HLEN.out HBK.out (HFBO.out) 1 rfl HLS.out ?_; intro v9 w9 hf9 hs9 hm9; have HF9 := hid (APPF.out w4 w9 v9 HB4.out hf9.out); obtain ⟨hn9, hk9⟩ := APPN.out w4 w9 fb fc HB4.out hm9.out; obtain ⟨t0, t1, t2, _, _, _⟩ := hn9.cardCells; obtain ⟨xa, xc, hxv⟩ := HF9.out.shape; subst hxv; have HN9 := hid hn9; have HK9 := hid hk9; clear hn9 hk9 hf9 hs9 hm9)
          | (go_at_call 25; refine (HOFF.out w9 lab1 HN9.out).mono ?_; rintro e w7 ⟨rfl, hs7, hm7⟩; obtain ⟨lab7, hn7, hk7⟩ := HNO.out w9 w7 lab1 HN9.out hs7 hm7; obtain ⟨s0, s1, s2, _, _, _⟩ := hn7.cardCells; have HN7 := hid hn7; have HK7 := hid hk7; clear hs7 hm7 hn7 hk7)
          | (go_at_call 40; refine (Net.used (S := S) HN7.out HOA.out.1 HOA.out.2).mono ?_; rintro e w8 ⟨rfl, lab8, hn8, hk8, ho8, hu8⟩; have HN8 := hid hn8; have HK8 := hid hk8; clear hn8 hk8 ho8 hu8))
        go_roundw
        case rel =>
          have h1 := HCT.out
          have h2 := HST.out
          have h3 := HAM.out
          exact ⟨AT, Ls ++ [frAt T.f z ln], c1 + 1, lab8, rfl, rfl, rfl, by rw [← HX.out]; exact HRT.out, HAO.out, HAN.out, HAE.out, HOA.out.1, HOA.out.2, HAF.out, by omega, by rw [HLS1.out]; omega, HN8.out, HK9.out.trans (HK7.out.trans HK8.out), by have h9 := HF9.out.onward (HK7.out.trans HK8.out); rw [HLS1.out] at h9; exact h9⟩
        case measure =>
          have h1 := HN8.out.di.uses
          have h2 := hcell.out
          show ms (usedR H.qi AT).2.2 _ < ms 0 _
          rw [ms_other (e := 0) (by omega), h2]
          by_cases h : (usedR H.qi AT).2.2 = 2
          · rw [h, ms_two]; omega
          · rw [ms_other h]
            have h4 := HST2.out (fun e => h (HUN.out.2 e))
            unfold more at h4
            rw [HUF2.out, HAF.out, HAU.out] at h4
            have h5 : cellN w8 H.di 9 = (usedS H.qi AT).A.uses := h1
            rw [h5]
            omega
end Go.Proofs.YtdjghkngiicncaaGreat
