/- Records: Add, its walk. -/
import Derived.Test.YtbfdkbdjipiliaaDoorYpG
namespace Go.Proofs.YtbfdkbdjipiliaaDoor
open Go.RowKit Go.Maps
set_option linter.unusedVariables false

def slenA : Value → Nat | .slice _ n _ => n | _ => 0
/-- What is left of the bytes. -/
structure LeftA (b0 : Nat) (W : World) (ad : Option Addr) (k cc : Nat) (q : List Int) : Prop where
  by_ : Bytes W ad q
  len : q.length = k
  at_ : 0 < k → ∃ off, ad = some ⟨b0, off, none⟩
  cap : k ≤ cc
  top : cc ≤ maxLen
theorem LeftA.keep {b0 : Nat} {W W' : World} {ad : Option Addr} {k cc : Nat} {q : List Int} (h : LeftA b0 W ad k cc q) (hk : 0 < k → b0 < W.heap.size → W'.heap[b0]? = W.heap[b0]?) : LeftA b0 W' ad k cc q := by
  refine ⟨?_, h.len, h.at_, h.cap, h.top⟩
  by_cases h0 : 0 < k
  · obtain ⟨off, rfl⟩ := h.at_ h0
    intro i hi
    obtain ⟨b, o, e, h1, h2⟩ := h.by_ i hi
    obtain ⟨rfl, rfl, _⟩ : b0 = b ∧ off = o ∧ True := by simpa using e
    exact ⟨b0, off, rfl, (World.cell?_of_block (hk h0 (World.block_lt_of_cell? W _ h1))).trans h1, h2⟩
  · have : q = [] := List.eq_nil_of_length_eq_zero (by have := h.len; omega)
    rw [this]; exact Bytes.nil_ _ _
set_option maxRecDepth 100000 in
set_option maxHeartbeats 8000000 in
theorem Add_any (w : World) (p : Nat) (S : Nat → Prop) (s : Pc) (r : Rc) (h : RcAt w p S s) (hs : SR s r) (b0 : Nat) (a : Option Addr) (n c : Nat) (l : List Int) (hl : LeftA b0 w a n c l) (hnm : n ≤ 800000) (hb0 : 0 < n → b0 < w.heap.size ∧ ¬ S b0) :
    Calls Tryd.prog 8 #[.pointer (some ⟨p, 0, none⟩), .slice a n c] w (AddP w p S r l) := by
  have HST := hid (AdI.zero h hs)
  have HL := hid hl
  have HB0 := hid hb0
  have HNL := hid hl.len
  clear h hs hl hb0
  go_enter Tryd.func8, Tryd.ntmps8
  go_wp2
  go_loopw [1, 6] (fun bv vv wr => ∃ d ad k cc, bv = .slice ad k cc ∧ d + k = n ∧ Hid (LeftA b0 wr ad k cc (l.drop d)) ∧ Hid (AdI w p S r (l.take d) vv wr)) (fun bv _ _ => slenA bv)
  case atStart => exact ⟨0, a, n, c, rfl, by omega, HL, HST⟩
  case round =>
    obtain ⟨d, ad, k, cc, rfl, hdk, HB, HI⟩ := hrel
    clear HST HL
    obtain ⟨S1, s1, T, ⟨vm1, vr1, hx1⟩, hSR, hK1, hO1, hV1, hT1⟩ := HI.out.ex
    have g4 : wr.cell? ⟨p, 4, none⟩ = some (.bool s1.dd) := cell_of hx1.box rfl
    have hdd := hSR.dd
    have hspl : l = l.take d ++ l.drop d := (List.take_append_drop d l).symm
    by_cases hk0 : k = 0
    · have hz : ¬ (0 : Int) < (k : Int) := by omega
      have hzd : decide ((0 : Int) < (k : Int)) = false := by simpa using hz
      have hfull : l.take d = l := List.take_of_length_le (by have := HNL.out; omega)
      cases hd : (ruR r (l.take d)).1.dd with
      | true =>
        rw [hd] at hdd
        rw [hdd] at g4
        have HE := hid (HI.out.dead hspl hd)
        clear hx1 hSR hK1 hO1 hV1 hT1 hspl hfull hd hdd
        go_wp2
        go_ret2
        exact HE.out
      | false =>
        rw [hd] at hdd
        rw [hdd] at g4
        have hii := HI.out
        rw [hfull] at hii hd
        have HE := hid (hii.live hd)
        clear hx1 hSR hK1 hO1 hV1 hT1 hspl hfull hd hdd hii
        go_wp2
        go_ret2
        exact HE.out
    · have hz : (0 : Int) < (k : Int) := by omega
      have hzd : decide ((0 : Int) < (k : Int)) = true := by simpa using hz
      cases hd : (ruR r (l.take d)).1.dd with
      | true =>
        rw [hd] at hdd
        rw [hdd] at g4
        have HE := hid (HI.out.dead hspl hd)
        clear hx1 hSR hK1 hO1 hV1 hT1 hspl hd hdd
        go_wp2
        go_ret2
        exact HE.out
      | false =>
        rw [hd] at hdd
        rw [hdd] at g4
        have hbd : s1.mr.length ≤ 4 ∧ s1.lf < 2147483648 := by
          cases hp : (ruR r (l.take d)).1.pc with
          | true => have h1 := hSR.pc hd hp; exact ⟨by have := h1.1; omega, by have h2 := h1.2.2.2.2.2; have h3 := h1.2.1; omega⟩
          | false => have h1 := hSR.np hd hp; exact ⟨by have := h1.2.2.2; omega, by have := h1.2.1; omega⟩
        have hblen := (hSR.b hd).2
        obtain ⟨q, hq⟩ : ∃ x, l.drop d = x := ⟨_, rfl⟩
        rw [hq] at HB
        obtain ⟨off, rfl⟩ := HB.out.at_ (by omega)
        obtain ⟨hb1, hb2⟩ := HB0.out (by omega)
        have hb3 := Nat.lt_of_lt_of_le hb1 hK1.2.size
        have hb4 := hK1.off hb1 hb2
        have HTK0 := hid (take_any wr p S1 s1 vm1 vr1 hx1 hbd.1 hbd.2 hblen b0 off k cc q HB.out.len (by omega) (by omega) HB.out.cap HB.out.top HB.out.by_ hb3 hb4)
        have hro := round_ok hSR hd q (fun x hx => by
          rcases List.mem_append.1 hx with h1 | h1
          · exact hx1.im x h1
          · exact HB.out.by_.isB x h1) (by rw [HB.out.len]; omega)
        obtain ⟨⟨s2, kk⟩, htk⟩ : ∃ x, tkS s1 q = x := ⟨_, rfl⟩
        have HTK : Hid (Calls Tryd.prog 15 #[.pointer (some ⟨p, 0, none⟩), .slice (some ⟨b0, off, none⟩) k cc] wr fun e w' => ∃ a' m c', e = .returned (.slice a' m c') ∧ m = k - kk ∧ m ≤ c' ∧ c' ≤ maxLen ∧ Bytes w' a' (q.drop kk) ∧ (0 < m → ∃ off', a' = some ⟨b0, off', none⟩) ∧ ∃ S', RcAt w' p S' s2 ∧ Kp S1 wr S' w') := hid (HTK0.out.mono (fun e w' hh => by unfold TakeP at hh; rw [htk] at hh; exact hh))
        clear HTK0
        simp only [itS, itO, itK, htk] at hro
        have hrr := ruR_app (l.take d) (q.take kk) r
        have htk2 : l.take (d + kk) = l.take d ++ q.take kk := by rw [take_two, hq]
        have hdr2 : l.drop (d + kk) = q.drop kk := by rw [← List.drop_drop, hq]
        have hlL : (ruR r (l.take d)).2.length ≤ 900000 := by have h1 := ruR_len (l.take d) r; rw [List.length_take] at h1; have := HNL.out; omega
        obtain ⟨hr1, hr2, hr3, hr4, _⟩ := hro
        rw [HB.out.len] at hr4
        have HK1 := hid hK1
        have HT1 := hid hT1
        have HV1 := hid hV1
        have HO1 := hid (hO1 hd)
        have HR1 := hid hr1
        have HR2 := hid hr2
        have HRR := hid hrr
        have HTK2 := hid htk2
        have HDR := hid hdr2
        have HNT := hid (show ¬ T b0 from fun e => by rcases (hT1 b0 e).1 with h1 | h1; exact hb2 h1; omega)
        have HB4 := hid hb4
        clear hx1 hSR hK1 hO1 hV1 hT1 hspl hd hdd hbd hblen hb1 hb2 hb4 hrr htk2 hdr2 hr1 hr2 hq htk HI
        go_upto_region 4 with (go_at_call 15; refine HTK.out.mono ?_; rintro e w2 ⟨ad2, k2, cc2, rfl, hk2, hkc2, hcm2, hby2, hat2, S2, hR2, hK2⟩; have HL2 := hid (LeftA.mk (b0 := b0) hby2 (by rw [List.length_drop, HB.out.len, hk2]) hat2 hkc2 hcm2); have HR22 := hid hR2; have HK2 := hid hK2; clear hkc2 hcm2 hby2 hat2 hR2 hK2 HTK)
        clear g4
        obtain ⟨vm2, vr2, hx2⟩ := HR22.out
        have g1 : w2.cell? ⟨p, 1, none⟩ = some (.int .i64 s2.lf) := cell_of hx2.box rfl
        have HMK := hid (marked_any hx2)
        have HB42 := hid (HK2.out.off hb3 HB4.out)
        have hb5 := Nat.lt_of_lt_of_le hb3 HK2.out.2.size
        clear HB HB4
        by_cases h4 : s2.mr.length = 4
        · have hdec : decide (s2.mr.length = 4) = true := by simpa using h4
          rw [hdec] at HMK
          obtain ⟨lf2, hlf2⟩ : ∃ x, s2.lf = x := ⟨_, rfl⟩
          rw [hlf2] at g1
          by_cases hl0 : lf2 = 0
          · have hc : s2.mr.length = 4 ∧ s2.lf = 0 := ⟨h4, by omega⟩
            rw [if_pos hc] at HR1 HR2
            have HEP := hid (endPiece_any w2 p S2 s2 vm2 vr2 hx2)
            subst hl0
            clear hx2 hdec h4 hlf2 hc
            cases hla : s2.la with
            | false =>
              have hen : enO s2 = [] := by unfold enO; rw [hla]; rfl
              rw [hen] at HR2
              have HEN : Hid (Calls Tryd.prog 17 #[.pointer (some ⟨p, 0, none⟩)] w2 fun e w3 => e = .returned (.slice none 0 0) ∧ ∃ S3, RcAt w3 p S3 (enS s2) ∧ Kp S2 w2 S3 w3) := hid (HEP.out.mono (fun e w3 hh => by
                obtain ⟨S3, h1, h2, h3 | h3⟩ := hh
                · exact ⟨h3.2, S3, h1, h2⟩
                · rw [hla] at h3; exact (Bool.false_ne_true h3.1).elim))
              clear HEP hla hen
              go_wp2_with (first
                | (go_at_call 16; refine HMK.out.mono ?_; rintro e w9 ⟨rfl, h9⟩; rw [h9]; clear h9 w9 HMK)
                | (go_at_call 17; refine HEN.out.mono ?_; rintro e w3 ⟨rfl, S3, hR3, hK3⟩; obtain ⟨a4, c4, w4, hap, hO4, hm4, hbk4⟩ := (HO1.out.keep (fun b hb hl => (HK2.out.trans hK3).block hl (HT1.out b hb).2.1)).push0 hlL; have HR3 := hid hR3; have HK3 := hid hK3; have HO4 := hid hO4; have HM4 := hid hm4; have HBK4 := hid hbk4; clear hR3 hK3 hO4 hm4 hbk4 HEN)
                | (at_builtin; refine wpList_append_run rfl _ _ 22 rfl rfl rfl hap ?_; clear hap))
              go_roundw
              case rel =>
                refine ⟨d + kk, ad2, k - kk, cc2, rfl, by omega, hid (show LeftA b0 _ ad2 (k - kk) cc2 _ from ?_), hid ?_⟩
                · rw [HDR.out, ← hk2]
                  exact (HL2.out.keep (fun _ _ => HK3.out.block hb5 HB42.out)).keep (fun _ hl => HM4.out.block b0 hl (fun e => HNT.out (HV1.out b0 e)))
                · rw [HTK2.out]
                  refine AdI.put HK1.out HV1.out HT1.out HR3.out (HK2.out.trans HK3.out) (by rw [HRR.out]; exact HR1.out) (T3 := T) (fun b hb => .inl hb) HM4.out HBK4.out HO4.out.blk (fun hal => ?_)
                  rw [HRR.out] at hal ⊢
                  show OutL _ _ _ (_ ++ _)
                  rw [← HR2.out hal, List.append_nil]
                  exact HO4.out
              case measure => simp [slenA]; omega
            | true =>
              have hen : enO s2 = [s2.b] := by unfold enO; rw [hla]; rfl
              rw [hen] at HR2
              have HEN : Hid (Calls Tryd.prog 17 #[.pointer (some ⟨p, 0, none⟩)] w2 fun e w3 => ∃ g ar cr, e = .returned (.slice (some ⟨g, 0, none⟩) 1 1) ∧ ∃ S3, RcAt w3 p S3 (enS s2) ∧ Kp S2 w2 S3 w3 ∧ w3.heap[g]? = some (.cells #[owV ⟨s2.b, ar, cr⟩] 27 (0, 0)) ∧ s2.b.length ≤ cr ∧ By w3 (fun b => S2 b ∧ ¬ S3 b) ar s2.b) := hid (HEP.out.mono (fun e w3 hh => by
                obtain ⟨S3, h1, h2, h3 | ⟨_, g, ar, cr, he, _, _, h5, h6, h7⟩⟩ := hh
                · rw [hla] at h3; exact (Bool.false_ne_true h3.1.symm).elim
                · exact ⟨g, ar, cr, he, S3, h1, h2, h5, h6, h7⟩))
              clear HEP hla hen
              go_wp2_with (first
                | (go_at_call 16; refine HMK.out.mono ?_; rintro e w9 ⟨rfl, h9⟩; rw [h9]; clear h9 w9 HMK)
                | (go_at_call 17; refine HEN.out.mono ?_; rintro e w3 ⟨g, ar, cr, rfl, S3, hR3, hK3, hg3, hcr3, hy3⟩; obtain ⟨a4, c4, w4, hap, hO4, hm4, hbk4⟩ := ((HO1.out.keep (fun b hb hl => (HK2.out.trans hK3).block hl (HT1.out b hb).2.1)).weak (T' := fun b => T b ∨ ((S2 b ∧ ¬ S3 b) ∧ b < w3.heap.size)) (fun b hb => .inl hb)).push hlL ⟨s2.b, ar, cr⟩ (hy3.weak (fun b hb hl => .inr ⟨hb, hl⟩)) hcr3 g hg3; have HR3 := hid hR3; have HK3 := hid hK3; have HO4 := hid hO4; have HM4 := hid hm4; have HBK4 := hid hbk4; clear hR3 hK3 hO4 hm4 hbk4 HEN hg3 hcr3 hy3)
                | (at_builtin; refine wpList_append_run rfl _ _ 22 rfl rfl rfl hap ?_; clear hap))
              go_roundw
              case rel =>
                refine ⟨d + kk, ad2, k - kk, cc2, rfl, by omega, hid (show LeftA b0 _ ad2 (k - kk) cc2 _ from ?_), hid ?_⟩
                · rw [HDR.out, ← hk2]
                  exact (HL2.out.keep (fun _ _ => HK3.out.block hb5 HB42.out)).keep (fun _ hl => HM4.out.block b0 hl (fun e => HNT.out (HV1.out b0 e)))
                · rw [HTK2.out]
                  refine AdI.put HK1.out HV1.out HT1.out HR3.out (HK2.out.trans HK3.out) (by rw [HRR.out]; exact HR1.out) (T3 := fun b => T b ∨ ((S2 b ∧ ¬ S3 b) ∧ b < w3.heap.size)) (fun b hb => ?_) HM4.out HBK4.out HO4.out.blk (fun hal => ?_)
                  · rcases hb with h1 | h1
                    · exact .inl h1
                    · exact .inr ⟨HK2.out.1 b h1.1.1, h1.1.2, h1.2⟩
                  · rw [HRR.out] at hal ⊢
                    show OutL _ _ _ (_ ++ _)
                    rw [← HR2.out hal]
                    exact HO4.out
              case measure => simp [slenA]; omega
          · have hlz : ((lf2 : Int) == 0) = false := by simp; omega
            have hc : ¬ (s2.mr.length = 4 ∧ s2.lf = 0) := fun e => hl0 (by omega)
            rw [if_neg hc] at HR1 HR2
            have HRA := hid (show RcAt w2 p S2 s2 from ⟨_, _, hx2⟩)
            clear hx2 hdec h4 hlf2 hc
            go_wp2_with (go_at_call 16; refine HMK.out.mono ?_; rintro e w9 ⟨rfl, h9⟩; rw [h9]; clear h9 w9 HMK)
            go_roundw
            case rel =>
              refine ⟨d + kk, ad2, k - kk, cc2, rfl, by omega, hid (show LeftA b0 _ ad2 (k - kk) cc2 _ from ?_), hid ?_⟩
              · rw [HDR.out, ← hk2]; exact HL2.out
              · rw [HTK2.out]
                refine AdI.on HK1.out HO1.out HV1.out HT1.out HRA.out HK2.out (by rw [HRR.out]; exact HR1.out) (fun hal => ?_)
                rw [HRR.out] at hal ⊢
                show _ ++ _ = _
                rw [← HR2.out hal, List.append_nil]
            case measure => simp [slenA]; omega
        · have hdec : decide (s2.mr.length = 4) = false := by simpa using h4
          rw [hdec] at HMK
          have hc : ¬ (s2.mr.length = 4 ∧ s2.lf = 0) := fun e => h4 e.1
          rw [if_neg hc] at HR1 HR2
          have HRA := hid (show RcAt w2 p S2 s2 from ⟨_, _, hx2⟩)
          clear hx2 hdec h4 hc
          go_wp2_with (go_at_call 16; refine HMK.out.mono ?_; rintro e w9 ⟨rfl, h9⟩; rw [h9]; clear h9 w9 HMK)
          go_roundw
          case rel =>
            refine ⟨d + kk, ad2, k - kk, cc2, rfl, by omega, hid (show LeftA b0 _ ad2 (k - kk) cc2 _ from ?_), hid ?_⟩
            · rw [HDR.out, ← hk2]; exact HL2.out
            · rw [HTK2.out]
              refine AdI.on HK1.out HO1.out HV1.out HT1.out HRA.out HK2.out (by rw [HRR.out]; exact HR1.out) (fun hal => ?_)
              rw [HRR.out] at hal ⊢
              show _ ++ _ = _
              rw [← HR2.out hal, List.append_nil]
          case measure => simp [slenA]; omega
end Go.Proofs.YtbfdkbdjipiliaaDoor
