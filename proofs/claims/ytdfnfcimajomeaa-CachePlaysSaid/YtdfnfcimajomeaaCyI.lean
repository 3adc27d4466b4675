/- CachePlays: whatever is laid in, used, pinned and cleaned, each call answers, and the blocks that are held stand, as the document says. -/
import Derived.Test.YtdfnfcimajomeaaCyH
namespace Go.Proofs.Ytdfnfcimajomeaa
open Go.RowKit Go.Maps
theorem owns_later {w w' : World} {B s n : Nat} {e : TypeId} {v : Value} {xs : List Value} (h : w.ownsRow B e s v n xs) (hb : Below w.heap.size w w') : w'.ownsRow 0 e s v n xs := owns_zero (owns_keep h (fun g hg => hb.block g (owns_lt h hg).1))
set_option maxRecDepth 100000 in
set_option maxHeartbeats 8000000 in
theorem Plays_any (w0 : World) (x : Int) (ac : Option Addr) (cl : List C7) (cap ln : Nat) (hcl : C7At w0 ac cl) (hln : cl.length = ln) (hl : ln ≤ maxLen) (_hx : IsI x) :
    Calls Try.prog 3 #[.int .i64 x, .slice ac ln cap] w0 fun e w' => e = .returned (.bool true) ∧ Below w0.heap.size w0 w' := by
  have HKN := hid (known_any w0)
  have HCL := hid hcl
  have HLN := hid hln
  have hlm : (ln : Int) ≤ 9223372036854775807 := by unfold maxLen at hl; omega
  clear hcl hln hl
  by_cases hx : 1 ≤ x ∧ x ≤ 1024
  · obtain ⟨N, rfl⟩ : ∃ N : Nat, x = N := ⟨x.toNat, by omega⟩
    have hN1 : 1 ≤ N := by omega
    have hN2 : N ≤ 1024 := by omega
    clear hx
    go_enter Try.func3, Try.ntmps3
    go_wp2_with fail
    refine HKN.out.mono ?_
    rintro e w1 ⟨rfl, hb1⟩
    have HB1 := hid hb1
    clear hb1
    go_wp2_with fail
    refine (New_ok w1 N hN1 hN2).mono ?_
    rintro e w2 ⟨p, S, rfl, hc, hb, hls⟩
    have HC2 := hid hc
    have HB2 := hid hb
    have HLS := hid hls
    clear hc hb hls
    go_wp2_with fail
    refine (yNew_ok w2 N hN1 hN2).mono ?_
    rintro e w3 ⟨q, T, rfl, hc, hb, hlt⟩
    have HTW : Hid (Tw w0 w3 p q S T ⟨N, []⟩ ⟨N, []⟩ 0) := hid ⟨HC2.out.below hb, hc, fun b h1 h2 => by have := HC2.out.lt b h1; have := hlt b h2; omega, (HB1.out.trans (HB2.out.mono HB1.out.size)).trans (hb.mono (Nat.le_trans HB1.out.size HB2.out.size)), fun b h1 => Nat.le_trans HB1.out.size (HLS.out b h1), fun b h1 => Nat.le_trans (Nat.le_trans HB1.out.size HB2.out.size) (hlt b h1)⟩
    have HIV : Hid (Iv ⟨N, []⟩ 0) := hid (fun e he => by simp at he)
    clear hc hb hlt HC2 HB2 HLS
    go_wp2_with fail
    go_loopw [9] (fun z wr => ∃ (i : Nat) (S1 T1 : Nat → Prop) (A : Cs), i ≤ 200 ∧ i ≤ ln ∧ z = .int .i64 i ∧ Tw w0 wr p q S1 T1 A A i ∧ Iv A i) (fun z _ => ln - (RowKit.intOf z).toNat)
    case atStart => exact ⟨0, S, T, ⟨N, []⟩, by omega, by omega, rfl, HTW.out, HIV.out⟩
    case round =>
      obtain ⟨i, S1, T1, A, hi1, hi2, rfl, ht, hv⟩ := hrel
      have HT := hid ht
      have HV := hid hv
      clear ht hv HTW HIV
      by_cases hlt : i < ln ∧ i < 200
      · have hi3 : (i : Int) < ln := by omega
        have hi4 : (i : Int) < 200 := by omega
        obtain ⟨bc, oc, hac, c0, c1, c2, c3, k0, k1, k2, k3, k4⟩ := HCL.out i (by rw [HLN.out]; omega)
        subst hac
        replace c0 := cell_later HT.out.bel c0
        replace c1 := cell_later HT.out.bel c1
        replace c2 := cell_later HT.out.bel c2
        replace c3 := cell_later HT.out.bel c3
        have HDO := hid (done_any HT.out HV.out (by omega) (cl.getD i default).k (cl.getD i default).n (cl.getD i default).s (cl.getD i default).b k1)
        clear k0 k1 k2 k3 k4
        generalize (cl.getD i default).k = ck at *
        generalize (cl.getD i default).n = cn at *
        generalize (cl.getD i default).s = cs at *
        generalize (cl.getD i default).b = cb at *
        go_wp2_with fail
        refine HDO.out.mono ?_
        rintro e w5 ⟨rfl, S5, T5, A5, t5, v5⟩
        have H5 := hid t5
        have HV5 := hid v5
        clear t5 v5 HDO HT HV
        go_wp2_with fail
        refine (Held_any H5.out.ca).mono ?_
        rintro e w6 ⟨v6, rfl, o6, b6⟩
        have HO6 := hid o6
        have H6 := hid (H5.out.below b6)
        clear o6 b6 H5
        go_wp2_with fail
        refine (yHeld_any H6.out.ya).mono ?_
        rintro e w7 ⟨v7, rfl, o7, b7⟩
        have H7 := hid (H6.out.below b7)
        have HLH : Hid ((nums A5.row).length = A5.row.length ∧ A5.row.length ≤ 1024) := hid ⟨by simp [nums], by
          obtain ⟨ad, vl, hy⟩ := H7.out.ya
          exact Nat.le_trans hy.len hy.hn⟩
        have HSI := hid (sameInts_same w7 v6 v7 (nums A5.row) A5.row.length HLH.out.1 (owns_later HO6.out b7) (owns_zero o7) (by have := HLH.out.2; omega))
        obtain ⟨a6, ac6, e6⟩ := owns_slice HO6.out
        obtain ⟨a7, ac7, e7⟩ := owns_slice o7
        subst e6 e7
        clear o7 b7 H6 HO6
        generalize A5.row.length = l5 at *
        go_wp2_with fail
        refine HSI.out.mono ?_
        rintro e w8 ⟨rfl, b8⟩
        have H8 := hid (H7.out.below b8)
        clear b8 H7 HSI
        go_wp2_with fail
        refine (Dirty_any H8.out.ca).mono ?_
        rintro e w9 ⟨v9, rfl, o9, b9⟩
        have HO9 := hid o9
        have H9 := hid (H8.out.below b9)
        clear o9 b9 H8
        go_wp2_with fail
        refine (yDirty_any H9.out.ya (fun e he => ⟨(HV5.out e he).2.2.1, (HV5.out e he).2.2.2⟩)).mono ?_
        rintro e w10 ⟨v10, rfl, o10, b10⟩
        have H10 := hid (H9.out.below b10)
        have HLD : Hid ((srt (dirL A5.row)).length = (dirL A5.row).length ∧ (dirL A5.row).length ≤ 1024) := hid ⟨srt_len _, by
          obtain ⟨ad, vl, hy⟩ := H10.out.ya
          exact Nat.le_trans (dirL_len _) (Nat.le_trans hy.len hy.hn)⟩
        have HSD := hid (sameInts_same w10 v9 v10 (srt (dirL A5.row)) (dirL A5.row).length HLD.out.1 (owns_later HO9.out b10) (owns_zero o10) (by have := HLD.out.2; omega))
        obtain ⟨a9, ac9, e9⟩ := owns_slice HO9.out
        obtain ⟨a10, ac10, e10⟩ := owns_slice o10
        subst e9 e10
        clear o10 b10 H9 HO9
        generalize (dirL A5.row).length = l9 at *
        go_wp2_with fail
        refine HSD.out.mono ?_
        rintro e w11 ⟨rfl, b11⟩
        have H11 := hid (H10.out.below b11)
        clear b11 H10 HSD
        go_wp2_with fail
        go_roundw
        case rel => exact ⟨i + 1, S5, T5, A5, by omega, by omega, by go_num, H11.out, HV5.out⟩
        case measure => simp [RowKit.intOf]; omega
      · have HB := hid HT.out.bel
        clear HT HV
        by_cases h1 : i < ln
        · have hi3 : (i : Int) < ln := by omega
          have hi4 : ¬ ((i : Int) < 200) := by omega
          go_wp2_with fail
          go_ret
          exact ⟨rfl, HB.out⟩
        · have hi3 : ¬ ((i : Int) < ln) := by omega
          have hi5 : decide ((i : Int) < ln) = false := decide_eq_false hi3
          go_wp2_with fail
          go_ret
          exact ⟨rfl, HB.out⟩
  · have hx' : x < 1 ∨ 1024 < x := by omega
    clear hx
    go_enter Try.func3, Try.ntmps3
    go_wp2_with fail
    refine HKN.out.mono ?_
    rintro e w1 ⟨rfl, hb1⟩
    have HB1 := hid hb1
    have HX := hid hx'
    clear hb1 hx'
    go_wp2_with fail
    refine (New_no w1 x HX.out).mono ?_
    rintro e w2 ⟨rfl, hw2⟩
    rw [hw2]
    clear hw2
    go_wp2_with fail
    refine (yNew_no w1 x HX.out).mono ?_
    rintro e w2 ⟨rfl, hw2⟩
    rw [hw2]
    clear hw2
    go_wp2_with fail
    go_ret
    exact ⟨rfl, HB1.out⟩
end Go.Proofs.Ytdfnfcimajomeaa
