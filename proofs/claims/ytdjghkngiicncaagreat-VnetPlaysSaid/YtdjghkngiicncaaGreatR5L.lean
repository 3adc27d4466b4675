/- The document's port: Sent. -/
import Derived.Test.YtdjghkngiicncaaGreatR5K
namespace Go.Proofs.YtdjghkngiicncaaGreat
open Go.RowKit

theorem sent_none {q : Qu} {S : Sd} {Ls : List (List Int)} (h : Ok q S) (he : (takeR q S).2.2 = 2) : sentS q S Ls = (S, Ls) := by
  unfold sentS
  rw [h.left0.2 (takeR_none.1 he)]
  rfl
theorem sent_bad {q : Qu} {S : Sd} {Ls : List (List Int)} (h : Ok q S) (he : (takeR q S).2.2 = 15) : sentS q S Ls = sentS q (takeS q S) Ls := by
  unfold sentS
  rw [takeS_step h (fun e => by rw [takeR_none.2 e] at he; omega)]
  rw [sentN, if_pos he]
theorem sent_some {q : Qu} {S : Sd} {Ls : List (List Int)} (h : Ok q S) (he : (takeR q S).2.2 = 0) (hf : pcB q.N outP (takeR q S).2.1 = true) : sentS q S Ls = sentS q (giveS q (takeS q S) (takeR q S).1 0) (Ls ++ [frAt S.f ((takeR q S).2.1.headD default).addr.toNat ((takeR q S).2.1.headD default).len.toNat]) := by
  unfold sentS
  rw [takeS_step h (fun e => by rw [takeR_none.2 e] at he; omega), giveS_left]
  rw [sentN, if_neg (by omega), if_pos hf]
theorem sent_skip {q : Qu} {S : Sd} {Ls : List (List Int)} (h : Ok q S) (he : (takeR q S).2.2 = 0) (hf : pcB q.N outP (takeR q S).2.1 = false) : sentS q S Ls = sentS q (giveS q (takeS q S) (takeR q S).1 0) Ls := by
  unfold sentS
  rw [takeS_step h (fun e => by rw [takeR_none.2 e] at he; omega), giveS_left]
  rw [sentN, if_neg (by omega), hf]
  simp
theorem rpB_one {N : Nat} {n : Int} {t : Bool} {L : List Bf} (h : rpB N n t L = true) : ∃ b, L = [b] := by
  unfold rpB at h
  split at h
  · exact ⟨_, rfl⟩
  · simp at h
set_option maxRecDepth 100000 in
set_option maxHeartbeats 16000000 in
theorem rSent_any (w : World) (lab : Nat → Nat) (B : Rb) (H : Nh) (S : Ns) (hn : RNet w lab B H S) :
    Calls Tryz.prog 19 #[.pointer (some ⟨B.pp, 0, none⟩)] w fun e w' => ∃ v, e = .returned v ∧ ∃ lab', RNet w' lab' B H (S.setO (sentAll H S).1) ∧ Keep lab w lab' w' ∧ FmRow w' (Mine5 w w' lab') v (sentAll H S).2 := by
  obtain ⟨v1, v2, hat⟩ := hn
  have HAT0 := hid hat
  have hbd := H.bd
  have hbig := H.big
  unfold sentAll
  generalize hR : sentS H.qo S.o [] = R
  have HR := hid hR
  obtain ⟨I, hI⟩ : ∃ I : Int, rd S.f (H.qo.po + 2) 2 = I := ⟨_, rfl⟩
  have HI := hid hI
  have HME : Hid (∀ (T' : Sd) (wq : World), rd T'.f (H.qo.po + 2) 2 = I → cellN wq B.vo 3 = T'.o → ((I - (cellN wq B.vo 3 : Int)) % 65536).toNat = left H.qo T') := hid (fun T' wq a1 a2 => by unfold left; rw [a1, a2])
  have HM0 : Hid (left H.qo S.o ≤ 65535) := hid (by unfold left; omega)
  clear hat hR hI
  go_enter Tryz.func19, Tryz.ntmps19
  go_wp2_with fail
  go_loopw [3] (fun x3 wr => ∃ (T : Sd) (Ls : List (List Int)) (lab1 : Nat → Nat), sentS H.qo T Ls = R ∧ T.A = S.Ao ∧ rd T.f (H.qo.po + 2) 2 = I ∧ Ls.length + left H.qo T ≤ 65536 ∧ RNetAt wr lab1 B H (S.setO T) v1 v2 (hds S.Ai) (hds S.Ao) ∧ Keep lab w lab1 wr ∧ Bag w wr lab1 x3 Ls (.slice none 0 0) [])
    (fun _ wr => ((I - (cellN wr B.vo 3 : Int)) % 65536).toNat)
  case atStart =>
    have := HM0.out
    exact ⟨S.o, [], lab, HR.out, rfl, HI.out, by simp; omega, HAT0.out, Keep.refl _ _, FmRow.nil _ _, ⟨rfl, .inl ⟨rfl, rfl⟩⟩, fun b hb => by simp [Value.ownBlock] at hb⟩
  case round =>
    obtain ⟨T, Ls, lab1, hr, hTA, hTI, hll, hnT, hkT, hbag⟩ := hrel
    obtain ⟨d0, d1, d2⟩ := hnT.pcells
    have HRT := hid hr
    have HTI := hid hTI
    have HTA := hid hTA
    have HLL := hid hll
    have HNT := hid hnT
    have HKT := hid hkT
    have HBG := hid hbag
    have HOK : Hid (Ok H.qo T) := hid hnT.oko
    have HTK := hid (RNetAt.takeO hnT)
    have hcell : Hid (cellN wr B.vo 3 = T.o) := hid hnT.vo.offs
    obtain ⟨va, vc, hv⟩ := hbag.fr.shape
    clear hr hTI hTA hll hnT hkT hbag
    rcases takeR_kind H.qo T with hk | hk | hk
    · have HX := hid ((sent_none (Ls := Ls) HOK.out hk).symm.trans HRT.out)
      have HTS : Hid (takeS H.qo T = T) := hid (by unfold takeS; rw [if_pos (takeR_none.1 hk)])
      rw [hk] at HTK
      generalize (takeR H.qo T).1 = t1 at *
      generalize (takeR H.qo T).2.1 = TL at *
      clear hk
      subst hv
      go_wp2_with (go_at_call 48; refine HTK.out.mono ?_; rintro e w3 ⟨v3, rfl, ho3, lab3, h3, hk3⟩; obtain ⟨f0, f1, f2⟩ := h3.pcells; have HO3 := hid ho3; have HN3 := hid h3; have HK3 := hid (HKT.out.trans hk3); have HB3 := hid (HBG.out.onward hk3); clear h3 hk3 ho3)
      go_ret
      refine ⟨_, rfl, lab3, ?_, HK3.out, ?_⟩
      · rw [← HX.out]
        have h := HN3.out
        rw [HTS.out] at h
        refine ⟨v1, v2, ?_⟩
        have e1 : hds (S.setO (T, Ls).1).Ao = hds S.Ao := by show hds T.A = _; rw [HTA.out]
        rw [e1]
        exact h
      · rw [← HX.out]
        exact HB3.out.fr
    · have HBM := hid ((sent_bad (Ls := Ls) HOK.out hk).symm.trans HRT.out)
      have HST := hid (takeS_step HOK.out (fun e => by rw [takeR_none.2 e] at hk; omega))
      rw [hk] at HTK
      generalize (takeR H.qo T).1 = t1 at *
      generalize (takeR H.qo T).2.1 = TL at *
      clear hk
      subst hv
      go_wp2_with (go_at_call 48; refine HTK.out.mono ?_; rintro e w3 ⟨v3, rfl, ho3, lab3, h3, hk3⟩; obtain ⟨f0, f1, f2⟩ := h3.pcells; have HO3 := hid ho3; have HN3 := hid h3; have HK3 := hid (HKT.out.trans hk3); have HB3 := hid (HBG.out.onward hk3); clear h3 hk3 ho3)
      go_roundw
      case rel =>
        have h1 := HLL.out
        have h2 := HST.out
        exact ⟨takeS H.qo T, Ls, lab3, HBM.out, (takeS_A _ _).trans HTA.out, by rw [takeS_f]; exact HTI.out, by omega, HN3.out, HK3.out, HB3.out⟩
      case measure =>
        have m1 := HME.out T wr HTI.out hcell.out
        have m2 := HME.out (takeS H.qo T) w3 (by rw [takeS_f]; exact HTI.out) HN3.out.vo.offs
        have m3 := HST.out
        omega
    · obtain ⟨hb1, hb2⟩ := takeR_bd HOK.out
      have HB1 := hid hb1
      clear hb1 hb2
      have HST := hid (takeS_step HOK.out (fun e => by rw [takeR_none.2 e] at hk; omega))
      have HPC := hid (pcB_out (N := H.N) (L := (takeR H.qo T).2.1))
      have HXS := hid (sent_some (Ls := Ls) HOK.out hk)
      have HXK := hid (sent_skip (Ls := Ls) HOK.out hk)
      rw [hk] at HTK
      generalize (takeR H.qo T).1 = t1 at *
      generalize (takeR H.qo T).2.1 = TL at *
      clear hk
      cases hp : rpB H.N 26 false TL with
      | false =>
        have hq : pcB H.N outP TL = false := by rw [HPC.out, hp]; rfl
        have HBM := hid ((HXK.out hq).symm.trans HRT.out)
        have HP := hid hp
        have HPI : Hid (∀ (w3 : World) v3 (lab3 : Nat → Nat), RNetAt w3 lab3 B H (S.setO (takeS H.qo T)) v1 v2 (hds S.Ai) (hds S.Ao) → w3.ownsRow wr.heap.size 88 3 v3 TL.length (cellsB TL) → Calls Tryz.prog 49 #[.pointer (some ⟨B.pp, 0, none⟩), v3, .int .i64 26, .bool false] w3 fun e w' => e = .returned (.bool false) ∧ ∃ q, w' = w3.drewN q) := hid (fun w3 v3 lab3 a1 a2 => by
          have h := rpiece_any w3 B.pp (some ⟨B.g, 0, none⟩) H.N wr.heap.size v3 TL 26 false a1.pcells.2.2 hbig a2 (fun b hb => ⟨(HB1.out b hb).1, (HB1.out b hb).2.1⟩)
          rw [HP.out] at h
          exact h)
        clear hp hq HPC HXS HXK
        subst hv
        go_wp2_with (first
          | (go_at_call 48; refine HTK.out.mono ?_; rintro e w3 ⟨v3, rfl, ho3, lab3, h3, hk3⟩; obtain ⟨f0, f1, f2⟩ := h3.pcells; have HO3 := hid ho3; have HN3 := hid h3; have HK3 := hid (HKT.out.trans hk3); have HB3 := hid (HBG.out.onward hk3); clear h3 hk3 ho3)
          | (go_at_call 49; refine (HPI.out w3 v3 lab3 HN3.out HO3.out).mono ?_; rintro e w4 ⟨rfl, q4, hw4⟩; have HB4 : Hid (Below w3.heap.size w3 w4) := hid (by rw [hw4]; exact below_drewN (Below.refl _ _) q4); have HN4 := hid (HN3.out.below HB4.out); have HK4 := hid (HK3.out.trans (Keep.below HB4.out)); have HG4 := hid (HB3.out.onward (Keep.below HB4.out)); obtain ⟨k0, k1, k2⟩ := HN4.out.pcells; clear hw4)
          | (go_at_call 50; refine (RNetAt.giveO HN4.out t1 0).mono ?_; rintro e w5 ⟨rfl, lab5, h5, hk5⟩; have HN5 := hid h5; have HK5 := hid (HK4.out.trans hk5); have HG5 := hid (HG4.out.onward hk5); clear h5 hk5))
        go_roundw
        case rel =>
          have h1 := HLL.out
          have h2 := HST.out
          refine ⟨giveS H.qo (takeS H.qo T) t1 0, Ls, lab5, HBM.out, (giveS_A _ _ _ _).trans ((takeS_A _ _).trans HTA.out), by rw [giveS_po, takeS_f]; exact HTI.out, ?_, HN5.out, HK5.out, HG5.out⟩
          rw [giveS_left]
          first | omega | (rw [List.length_append, List.length_singleton]; omega)
        case measure =>
          have m1 := HME.out T wr HTI.out hcell.out
          have m2 := HME.out (giveS H.qo (takeS H.qo T) t1 0) w5 (by rw [giveS_po, takeS_f]; exact HTI.out) HN5.out.vo.offs
          have m3 := HST.out
          rw [giveS_left] at m2
          omega

      | true =>
        obtain ⟨⟨bx, bl, bt⟩, hTL⟩ := rpB_one hp
        have HP := hid hp
        have HPI : Hid (∀ (w3 : World) v3 (lab3 : Nat → Nat), RNetAt w3 lab3 B H (S.setO (takeS H.qo T)) v1 v2 (hds S.Ai) (hds S.Ao) → w3.ownsRow wr.heap.size 88 3 v3 TL.length (cellsB TL) → Calls Tryz.prog 49 #[.pointer (some ⟨B.pp, 0, none⟩), v3, .int .i64 26, .bool false] w3 fun e w' => e = .returned (.bool true) ∧ ∃ q, w' = w3.drewN q) := hid (fun w3 v3 lab3 a1 a2 => by
          have h := rpiece_any w3 B.pp (some ⟨B.g, 0, none⟩) H.N wr.heap.size v3 TL 26 false a1.pcells.2.2 hbig a2 (fun b hb => ⟨(HB1.out b hb).1, (HB1.out b hb).2.1⟩)
          rw [HP.out] at h
          exact h)
        have hbo := HB1.out ⟨bx, bl, bt⟩ (by rw [hTL]; simp)
        obtain ⟨ho1, ho2, ho3, ho4⟩ := hbo
        simp only at ho1 ho2 ho3 ho4
        obtain ⟨z, rfl⟩ : ∃ z : Nat, bx = z := ⟨bx.toNat, by omega⟩
        obtain ⟨y, rfl⟩ : ∃ y : Nat, bl = y := ⟨bl.toNat, by omega⟩
        rw [hTL] at hp
        subst hTL
        rw [hp] at HPC
        have hin : 26 ≤ y ∧ z + y ≤ H.N := by
          simp [rpB] at hp
          omega
        simp only [Bool.true_and, List.headD_cons] at HPC HXS HXK
        clear hp HP ho1 ho2 ho3 ho4 HB1
        by_cases hy : (y : Int) ≤ 1526
        · have hq : pcB H.N outP [⟨(z : Int), (y : Int), bt⟩] = true := by rw [HPC.out]; exact decide_eq_true hy
          have HBM0 := hid ((HXS.out hq).symm.trans HRT.out)
          simp only [Int.toNat_natCast] at HBM0
          obtain ⟨lm, rfl⟩ : ∃ lm, y = 12 + lm := ⟨y - 12, by omega⟩
          have HBM := HBM0
          rw [frAt_at, ← takeS_f H.qo T] at HBM
          have E1 : Hid (((z : Int) + 12).toNat = z + 12) := hid (by omega)
          have E2 : Hid (((z : Int) + (12 + (lm : Int))).toNat = z + (12 + lm)) := hid (by omega)
          have E3 : Hid (¬ H.N = z + 12) := hid (by omega)
          have ELM : Hid (z + (12 + lm) - (z + 12) = lm) := hid (by omega)
          clear hq HPC HXS HXK HBM0
          subst hv
          go_wp2_with (first
            | (go_at_call 48; refine HTK.out.mono ?_; rintro e w3 ⟨v3, rfl, ho3, lab3, h3, hk3⟩; obtain ⟨lb, lc, hv3, hlb1, hlb2, l0, l1, l2⟩ := buf_cells ho3; subst hv3; obtain ⟨f0, f1, f2⟩ := h3.pcells; have HO3 := hid ho3; have HN3 := hid h3; have HK3 := hid (HKT.out.trans hk3); have HB3 := hid (HBG.out.onward hk3); clear h3 hk3 ho3)
            | (go_at_call 49; refine (HPI.out w3 _ lab3 HN3.out HO3.out).mono ?_; rintro e w4 ⟨rfl, q4, hw4⟩; have HB4 : Hid (Below w3.heap.size w3 w4) := hid (by rw [hw4]; exact below_drewN (Below.refl _ _) q4); have HN4 := hid (HN3.out.below HB4.out); have HK4 := hid (HK3.out.trans (Keep.below HB4.out)); have HG4 := hid (HB3.out.onward (Keep.below HB4.out)); obtain ⟨k0, k1, k2⟩ := HN4.out.pcells; have m0 := cell_later HB4.out l0; have m1 := cell_later HB4.out l1; clear hw4))
          have HN4d := hid (HN4.out.below ((Below.refl _ w4).drew))
          obtain ⟨fb, fc, w9, hr9, hfb, hblk, hb9⟩ := clone_run w4.drew B.g H.N (takeS H.qo T).f (z + 12) lm (H.N - (z + 12)) HN4d.out.mem (by omega) (by omega) (by omega) 25
          have hwd : w4.drew.alloc (.cells #[] 5) = (w4.alloc (.cells #[] 5)).drew := rfl
          rw [hwd, show w4.drew.heap.size = w4.heap.size from rfl] at hr9
          clear hwd
          have hb9' : Below w4.heap.size w4 w9 := (Below.refl _ w4).drew.trans hb9
          have HFR9 := hid (HG4.out.onward (Keep.below hb9')).fr
          have HM5 : Hid (Mine5 w w9 lab3 fb) := hid ⟨Nat.le_trans HK4.out.2.size hfb, hblk.lt, Classical.byContradiction (fun e2 => by have := HN4d.out.lt fb e2; omega)⟩
          obtain ⟨v10, w10, hr10, hf10, hs10, hm10⟩ := row_run w9 fb fc lm (Mine5 w w9 lab3) (at_ (takeS H.qo T).f (z + 12) lm) _ Ls HFR9.out (by simp [at_]) hblk HM5.out (by have := HLL.out; omega) 44
          obtain ⟨hbg10, hmo10⟩ := HG4.out.row HN4.out.lt HK4.out.2.size hb9' hf10 hs10 hm10
          have HN10 := hid (HN4.out.outside hmo10 (fun b e => (HG4.out.fr.own b e).2.2))
          have HK10 := hid (HK4.out.own hmo10 (fun b e => (HG4.out.fr.own b e).1))
          obtain ⟨ra, rc, nr, hrv⟩ : ∃ ra rc nr, v10 = .slice ra nr rc := (let ⟨a, c, h⟩ := hbg10.fr.shape; ⟨a, c, _, h⟩)
          subst hrv
          have HG10 := hid hbg10
          have HSa := hid (And.intro (cell_later ((Below.refl _ w4).drew.alloc (Nat.le_refl _) (.cells #[] 5)) k2) (And.intro (cell_later ((Below.refl _ w4).drew.alloc (Nat.le_refl _) (.cells #[] 5)) m0) (cell_later ((Below.refl _ w4).drew.alloc (Nat.le_refl _) (.cells #[] 5)) m1)))
          have HSb := hid (And.intro (cell_later hb9' k2) (And.intro (cell_later hb9' m0) (cell_later hb9' m1)))
          have hb9c : Below w4.heap.size w4 (w9.alloc (.cells #[.slice (some ⟨fb, 0, none⟩) lm fc] 25)) := hb9'.alloc hb9'.size _
          have HSc := hid (And.intro (cell_later hb9c k2) (And.intro (cell_later hb9c m0) (cell_later hb9c m1)))
          have hne : ¬ (Value.slice va Ls.length vc).ownBlock = some lb := fun e => by have := (HBG.out.fr.own lb e).2.1; omega
          have HSd := hid (And.intro HN10.out.pcells.2.2 (And.intro (hmo10.cell m0 hne) (hmo10.cell m1 hne)))
          obtain ⟨g0, g1, g2⟩ := HN10.out.pcells
          clear hbg10 hmo10 hf10 hs10 hm10 hfb hblk hb9 hb9' hb9c hne
          have i1 : IntKind.i64.wrap ((z : Int) + 12) = z + 12 := IntWalk.i64_in _ (by omega)
          have i2 : IntKind.i64.wrap ((z : Int) + (12 + (lm : Int))) = z + (12 + (lm : Int)) := IntWalk.i64_in _ (by omega)
          have i3 : (0 : Int) ≤ (z : Int) + 12 := by omega
          have i4 : (z : Int) + 12 ≤ z + (12 + (lm : Int)) := by omega
          have i5 : (z : Int) + (12 + (lm : Int)) ≤ H.N := by omega
          have i6 : (0 : Int) ≤ (z : Int) + (12 + (lm : Int)) := by omega
          go_region_held3 (fun w' => w'.cell? ⟨B.pp, 2, none⟩ = some (.slice (some ⟨B.g, 0, none⟩) H.N H.N) ∧ w'.cell? ⟨lb, 0, none⟩ = some (.int .i64 z) ∧ w'.cell? ⟨lb, 1, none⟩ = some (.int .i64 ((12 + lm : Nat) : Int))) ((first | exact ⟨k2, m0, m1⟩ | exact HSa.out | exact HSb.out | exact HSc.out | exact HSd.out))
            ((first
              | (rw [E2.out, E1.out, ELM.out, if_neg E3.out]; refine nstep_append rfl (.tmp 32) (.tmp 51) 25 rfl rfl rfl hr9 ?_)
              | (refine nstep_append rfl (.tmp 31) (.tmp 53) 44 rfl rfl rfl hr10 ?_)))
          go_wp2_with (go_at_call 50; refine (RNetAt.giveO HN10.out t1 0).mono ?_; rintro e w5 ⟨rfl, lab5, h5, hk5⟩; have HN5 := hid h5; have HK5 := hid (HK10.out.trans hk5); have HG5 := hid (HG10.out.onward hk5); clear h5 hk5)
          go_roundw
          case rel =>
            have h1 := HLL.out
            have h2 := HST.out
            refine ⟨giveS H.qo (takeS H.qo T) t1 0, _, lab5, HBM.out, (giveS_A _ _ _ _).trans ((takeS_A _ _).trans HTA.out), by rw [giveS_po, takeS_f]; exact HTI.out, ?_, HN5.out, HK5.out, HG5.out⟩
            rw [giveS_left]
            first | omega | (rw [List.length_append, List.length_singleton]; omega)
          case measure =>
            have m1 := HME.out T wr HTI.out hcell.out
            have m2 := HME.out (giveS H.qo (takeS H.qo T) t1 0) w5 (by rw [giveS_po, takeS_f]; exact HTI.out) HN5.out.vo.offs
            have m3 := HST.out
            rw [giveS_left] at m2
            omega

        · have hq : pcB H.N outP [⟨(z : Int), (y : Int), bt⟩] = false := by rw [HPC.out]; exact decide_eq_false hy
          have HBM := hid ((HXK.out hq).symm.trans HRT.out)
          clear hq HPC HXS HXK
          subst hv
          go_wp2_with (first
            | (go_at_call 48; refine HTK.out.mono ?_; rintro e w3 ⟨v3, rfl, ho3, lab3, h3, hk3⟩; obtain ⟨lb, lc, hv3, hlb1, hlb2, l0, l1, l2⟩ := buf_cells ho3; subst hv3; obtain ⟨f0, f1, f2⟩ := h3.pcells; have HO3 := hid ho3; have HN3 := hid h3; have HK3 := hid (HKT.out.trans hk3); have HB3 := hid (HBG.out.onward hk3); clear h3 hk3 ho3)
            | (go_at_call 49; refine (HPI.out w3 _ lab3 HN3.out HO3.out).mono ?_; rintro e w4 ⟨rfl, q4, hw4⟩; have HB4 : Hid (Below w3.heap.size w3 w4) := hid (by rw [hw4]; exact below_drewN (Below.refl _ _) q4); have HN4 := hid (HN3.out.below HB4.out); have HK4 := hid (HK3.out.trans (Keep.below HB4.out)); have HG4 := hid (HB3.out.onward (Keep.below HB4.out)); obtain ⟨k0, k1, k2⟩ := HN4.out.pcells; have m0 := cell_later HB4.out l0; have m1 := cell_later HB4.out l1; clear hw4)
            | (go_at_call 50; refine (RNetAt.giveO HN4.out t1 0).mono ?_; rintro e w5 ⟨rfl, lab5, h5, hk5⟩; have HN5 := hid h5; have HK5 := hid (HK4.out.trans hk5); have HG5 := hid (HG4.out.onward hk5); clear h5 hk5))
          go_roundw
          case rel =>
            have h1 := HLL.out
            have h2 := HST.out
            refine ⟨giveS H.qo (takeS H.qo T) t1 0, Ls, lab5, HBM.out, (giveS_A _ _ _ _).trans ((takeS_A _ _).trans HTA.out), by rw [giveS_po, takeS_f]; exact HTI.out, ?_, HN5.out, HK5.out, HG5.out⟩
            rw [giveS_left]
            first | omega | (rw [List.length_append, List.length_singleton]; omega)
          case measure =>
            have m1 := HME.out T wr HTI.out hcell.out
            have m2 := HME.out (giveS H.qo (takeS H.qo T) t1 0) w5 (by rw [giveS_po, takeS_f]; exact HTI.out) HN5.out.vo.offs
            have m3 := HST.out
            rw [giveS_left] at m2
            omega

end Go.Proofs.YtdjghkngiicncaaGreat
