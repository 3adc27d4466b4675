/- SchedExits: whoever ends holds nothing any more, waits for nothing, and is never picked again. -/
import Derived.Test.YtacmdhlemolngaaScEb
import Derived.Deep.CutBlock
import Derived.Deep.DeepCutAuto
namespace Go.Proofs.Ytacmdhlemolngaa
open Go.RowKit Go.Maps

set_option maxRecDepth 100000 in
set_option maxHeartbeats 16000000 in
theorem Exits_any (w0 : World) (x : Int) (ad : Option Addr) (lo : List Int) (cap ln : Nat) (hlo : Ints w0 ad lo) (hln : lo.length = ln) (hl : ln ≤ maxLen) (ad2 : Option Addr) (go : List Int) (cap2 ln2 : Nat) (hgo : Ints w0 ad2 go) (hln2 : go.length = ln2) (hl2 : ln2 ≤ maxLen) :
    Calls Try.prog 5 #[.int .i64 x, .slice ad ln cap, .slice ad2 ln2 cap2] w0 fun e w' => e = .returned (.bool true) ∧ Below w0.heap.size w0 w' := by
  have HKN := hid (known_any w0)
  obtain ⟨N, hN, hN1, hN2⟩ : ∃ N : Nat, 1 + wi x 8 = (N : Int) ∧ 1 ≤ N ∧ N ≤ 8 := by
    have := wi_bd x 8 (by omega)
    exact ⟨(1 + wi x 8).toNat, by omega, by omega, by omega⟩
  have hmk := run_make_row' (P := Try.prog) 63 4 (.bool false) 1 Try.underlying63 info4 rfl .i64 .i64 N (by omega) (by omega)
  have HW1 : Hid (∀ w : World, Calls Try.prog 24 #[.int .i64 x, .int .i64 8] w fun e w' => e = .returned (.int .i64 (wi x 8)) ∧ w' = w) := hid (fun w => within_any x 8 (by omega) (by omega) w)
  have HWN : Hid (∀ (z : Int) (w : World), Calls Try.prog 24 #[.int .i64 z, .int .i64 N] w fun e w' => e = .returned (.int .i64 (wi z N)) ∧ w' = w) := hid (fun z w => within_any z N (by omega) (by omega) w)
  have HW4 : Hid (∀ (z : Int) (w : World), Calls Try.prog 24 #[.int .i64 z, .int .i64 4] w fun e w' => e = .returned (.int .i64 (wi z 4)) ∧ w' = w) := hid (fun z w => within_any z 4 (by omega) (by omega) w)
  have HWG : Hid (∀ (z n : Int) (_ : 0 < n) (_ : n < 1000) (w : World), Calls Try.prog 24 #[.int .i64 z, .int .i64 n] w fun e w' => e = .returned (.int .i64 (wi z n)) ∧ w' = w) := hid (fun z n h1 h2 w => within_any z n h1 (by omega) w)
  have HB4 : Hid (∀ z, 0 ≤ wi z 4 ∧ wi z 4 < 4) := hid (fun z => wi_bd z 4 (by omega))
  have HBN : Hid (∀ z, ∃ i : Nat, wi z N = (i : Int) ∧ i < N) := hid (fun z => by have := wi_bd z N (by omega); exact ⟨(wi z N).toNat, by omega, by omega⟩)
  have hwr : IntKind.i64.wrap (1 + wi x 8) = (N : Int) := by rw [hN]; exact IntWalk.i64_in _ (by omega)
  have hw3 : IntKind.i64.wrap (3 * (N : Int)) = 3 * (N : Int) := IntWalk.i64_in _ (by omega)
  have HLO := hid hlo
  have HLN := hid hln
  have HGO := hid hgo
  have HLN2 := hid hln2
  have hlm : (ln : Int) ≤ 9223372036854775807 := by unfold maxLen at hl; omega
  have hlm2 : (ln2 : Int) ≤ 9223372036854775807 := by unfold maxLen at hl2; omega
  clear hN hlo hln hl hgo hln2 hl2
  generalize wi x 8 = wx at *
  go_enter Try.func5, Try.ntmps5
  go_wp2_with fail
  refine HKN.out.mono ?_
  rintro e w1 ⟨rfl, hb1⟩
  have HB1 := hid hb1
  clear hb1
  go_wp2_with fail
  refine (HW1.out w1).mono ?_
  rintro e w2 ⟨rfl, hw2⟩
  rw [hw2]
  clear hw2
  go_wp2_with fail
  refine (some_any w1 N (by omega)).mono ?_
  rintro e w2 ⟨p, lab, cs, rfl, hS, hcs, hL⟩
  have HS := hid hS
  have HL : Hid (Lb w0 w2 lab) := hid ⟨fun b hb => hL.1 b (Nat.lt_of_lt_of_le hb HB1.out.size), HB1.out.trans (hL.2.mono HB1.out.size)⟩
  have HEY : Hid (Ey (tS 106 cs 0) N) := hid (by rw [← hcs]; exact Ey.start _)
  have HMK : Hid (Mk (tS 106 cs 0) N (List.replicate N false)) := hid (by rw [← hcs]; exact Mk.start _)
  clear hS hcs hL
  go_upto_block 0 with fail
  go_cut [8] (fun i wx => ∃ (lab1 : Nat → Own) (A : Ab), Sc wx p lab1 A 60 ∧ Ey A N ∧ Mk A N (List.replicate N false) ∧ Lb w0 wx lab1)
  case first =>
    go_wp2_with fail
    go_loopw [8] (fun i wr => ∃ (k : Nat) (lab1 : Nat → Own) (A : Ab), k ≤ 30 ∧ k ≤ ln ∧ i = .int .i64 k ∧ Sc wr p lab1 A (2 * k) ∧ Ey A N ∧ Mk A N (List.replicate N false) ∧ Lb w0 wr lab1) (fun i _ => 30 - (RowKit.intOf i).toNat)
    case atStart => exact ⟨0, lab, tS 106 cs 0, Nat.zero_le _, Nat.zero_le _, rfl, HS.out, HEY.out, HMK.out, HL.out⟩
    case round =>
      obtain ⟨k, lab1, A, hk, hkl, rfl, hS1, hE1, hM1, hL1⟩ := hrel
      have HS1 := hid hS1
      have HE1 := hid hE1
      have HM1 := hid hM1
      have HL1 := hid hL1
      clear HS HEY HMK HL
      by_cases hlt : k < ln ∧ k < 30
      · obtain ⟨hlt, hlt2⟩ := hlt
        have hki : (k : Int) < ln := by omega
        have hki2 : (k : Int) < 30 := by omega
        obtain ⟨bo, off, had, hcell, hIv⟩ := HLO.out k (by rw [HLN.out]; exact hlt)
        subst had
        have hcell0 := hcell
        replace hcell := cell_later HL1.out.2 hcell
        have HLK : Hid (∀ (x k' : Int), 0 ≤ k' ∧ k' < 4 → Calls Try.prog 28 #[.pointer (some ⟨p, 0, none⟩), .int .i64 x, .int .i64 k'] wr.drew fun e w' => e = .returned (lockR A x k') ∧ ∃ lab2 A2, Sc w' p lab2 A2 (2 * k + 2) ∧ Ey A2 N ∧ Mk A2 N (List.replicate N false) ∧ Lb w0 w' lab2) := hid (fun x k' hk' => by
          have hbd : Below wr.heap.size wr wr.drew := (Below.refl _ wr).drew
          refine (Lock_any (hS1.below hbd) (hE1.inv.fit (by rw [hE1.len]; omega)) (by omega) x k' (isI_of (by omega) (by omega))).mono ?_
          rintro e w' ⟨rfl, lab2, h2, hK2⟩
          exact ⟨rfl, lab2, _, h2, hE1.lock x k' hk', hM1.lock hE1.len x k', hL1.keep ((Keep.below hbd).trans hK2)⟩)
        have HLC : Hid (∀ (w6 : World) (lab6 : Nat → Own), Lb w0 w6 lab6 → w6.cell? ⟨bo, off + k, none⟩ = some (.int .i64 (lo.getD k 0))) := hid (fun w6 lab6 h => cell_later h.2 hcell0)
        clear hS1 hE1 hM1 hL1 hcell0
        generalize lo.getD k 0 = ov at *
        go_wp2_with fail
        go_region_held3 (fun w' => w'.cell? ⟨bo, off + k, none⟩ = some (.int .i64 ov)) ((first | exact hcell | exact HC6.out)) ((first | (go_at_call 24; refine (HWG.out _ _ (by omega) (by omega) _).mono ?_; rintro e w4 ⟨rfl, hw4⟩; rw [hw4]; clear hw4) | (go_at_call 28; refine (HLK.out _ _ (HB4.out _)).mono ?_; rintro e w6 ⟨rfl, lab6, A6, h6, hE6, hM6, hL6⟩; have H6 := hid h6; have HE6 := hid hE6; have HM6 := hid hM6; have HL6 := hid hL6; have HC6 := hid (HLC.out _ _ hL6); clear h6 hE6 hM6 hL6)))
        go_wp2
        go_roundw
        case rel => exact ⟨k + 1, lab6, A6, by omega, by omega, by go_num, H6.out.more (by omega), HE6.out, HM6.out, HL6.out⟩
        case measure => simp [RowKit.intOf]; omega
      · have HR : Hid (∃ (lab1 : Nat → Own) (A : Ab), Sc wr p lab1 A 60 ∧ Ey A N ∧ Mk A N (List.replicate N false) ∧ Lb w0 wr lab1) := hid ⟨lab1, A, hS1.more (by omega), hE1, hM1, hL1⟩
        clear hS1 hE1 hM1 hL1 HS1 HE1 HM1 HL1
        by_cases h1 : k < ln
        · have hki : (k : Int) < ln := by omega
          have hki2 : ¬ ((k : Int) < 30) := by omega
          go_wp2
          go_meet
          case rel => exact HR.out
        · have hki : ¬ ((k : Int) < ln) := by omega
          have hki2 : decide ((k : Int) < ln) = false := decide_eq_false hki
          go_wp2
          go_meet
          case rel => exact HR.out
  case rest =>
    obtain ⟨lab3, A3, hS3, hE3, hM3, hL3⟩ := hcut
    obtain ⟨W3, hW3⟩ : ∃ W3, W3 = wc.alloc (.cells (madeCells #[.bool false] N) 4) := ⟨_, rfl⟩
    have hb3 : Below wc.heap.size wc W3 := by rw [hW3]; exact (Below.refl _ _).alloc (Nat.le_refl _) _
    have hQ3 : Lq w0 W3 lab3 wc.heap.size (List.replicate N false) := by rw [hW3]; exact Lq.made hL3.2.size hS3.lt N
    have HS3 := hid (hS3.below hb3)
    have HE3 := hid hE3
    have HM3 := hid hM3
    have HL3 := hid (hL3.keep (Keep.below hb3))
    have HQ3 := hid hQ3
    clear hS3 hE3 hM3 hL3 hb3 hQ3 HS HL HEY HMK HKN HW1 HB1
    go_upto_block 2 with fail
    rw [← hW3]
    clear hmk hW3
    generalize wc.heap.size = be at *
    go_cut [10, 11, 12, 13, 14, 15] (fun i c d e f g wx => ∃ (lab1 : Nat → Own) (A : Ab) (en : List Bool), Sc wx p lab1 A 80 ∧ Ey A N ∧ Mk A N en ∧ Lb w0 wx lab1 ∧ Lq w0 wx lab1 be en)
    case first =>
      go_wp2_with fail
      go_loopw [10] (fun i wr => ∃ (k : Nat) (lab1 : Nat → Own) (A : Ab) (en : List Bool), k ≤ 12 ∧ k ≤ ln2 ∧ i = .int .i64 k ∧ Sc wr p lab1 A (60 + k) ∧ Ey A N ∧ Mk A N en ∧ Lb w0 wr lab1 ∧ Lq w0 wr lab1 be en) (fun i _ => 12 - (RowKit.intOf i).toNat)
      case atStart => exact ⟨0, lab3, A3, _, Nat.zero_le _, Nat.zero_le _, rfl, HS3.out, HE3.out, HM3.out, HL3.out, HQ3.out⟩
      case round =>
        obtain ⟨k, lab1, A, en, hk, hkl, rfl, hS1, hE1, hM1, hL1, hQ1⟩ := hrel
        clear HS3 HE3 HM3 HL3 HQ3
        by_cases hlt : k < ln2 ∧ k < 12
        · obtain ⟨hlt, hlt2⟩ := hlt
          have hki : (k : Int) < ln2 := by omega
          have hki2 : (k : Int) < 12 := by omega
          obtain ⟨bo, off, had, hcell, hIv⟩ := HGO.out k (by rw [HLN2.out]; exact hlt)
          subst had
          replace hcell := cell_later hL1.2 hcell
          obtain ⟨id, hwi, hidN⟩ := HBN.out (go.getD k 0)
          have hidi : (id : Int) < N := by omega
          have HWI := hid (HWN.out (go.getD k 0) wr)
          rw [hwi] at HWI
          have HEX := hid (exit_ey hS1 hE1 hM1 (by omega) (by omega) id hidN)
          have HQ1 := hid hQ1
          have HL1 := hid hL1
          have HEL := hid hM1.1
          clear hS1 hE1 hM1 hL1 hQ1 hwi hIv
          generalize go.getD k 0 = ov at *
          go_wp2_with (go_at_call 24; refine HWI.out.mono ?_; rintro e w4 ⟨rfl, hw4⟩; rw [hw4]; clear hw4)
          refine HEX.out.mono ?_
          rintro e w5 ⟨er, rfl, her, lab5, A5, hS5, hK5, hE5, hM5⟩
          have HS5 := hid hS5
          have HE5 := hid hE5
          have HM5 := hid hM5
          have hQ5 := HQ1.out.keep hK5
          have HL5 := hid (HL1.out.keep hK5)
          have hce := hQ5.cell (i := id) (by rw [HEL.out]; exact hidN)
          have hfr := hQ5.froz id
          have HQ6 := hid (hQ5.set id)
          have hm6 : Mods (fun b => b = be) w5 (w5.setCell ⟨be, id, none⟩ (.bool true)) := Lq.mods id _
          have HS6 := hid (hS5.outside hm6 (fun b e => by rw [e]; exact hQ5.2.1))
          have HL6 := hid (HL5.out.mods hm6 (fun b e => by rw [e]; exact hQ5.2.2))
          obtain ⟨W6, hW6⟩ : ∃ W6, W6 = w5.setCell ⟨be, id, none⟩ (.bool true) := ⟨_, rfl⟩
          rw [← hW6] at HQ6 HS6 HL6
          clear hS5 hK5 hE5 hM5 hQ5 hm6 HS5 HL5 HQ1 HL1 HEX HWI HEL
          generalize en.getD id false = eb at *
          have HHO : Hid (∀ j : Nat, j < 4 → ∃ (x : Nat) (b : Bool), Calls Try.prog 30 #[.pointer (some ⟨p, 0, none⟩), .int .i64 j] W6 (fun e w' => e = .returned (.tuple #[.int .i64 x, .bool b]) ∧ w' = W6) ∧ (b = true → x < N ∧ W6.cell? ⟨be, x, none⟩ = some (.bool false))) := hid (fun j hj => by
            obtain ⟨x, b, h1, h2⟩ := hold_ey HE5.out HM5.out (j : Int) (isI_of (by omega) (by omega))
            have h3 := Holder_any HS6.out (j : Int) (isI_of (by omega) (by omega))
            rw [h1] at h3
            refine ⟨x, b, h3, fun hb => ⟨(h2 hb).1, ?_⟩⟩
            have h4 := HQ6.out.cell (i := x) (by rw [HM5.out.1]; exact (h2 hb).1)
            rw [(h2 hb).2] at h4
            exact h4)
          rcases her with ⟨h1, h2⟩ | ⟨h1, h2⟩
          all_goals
            subst h1 h2
            go_upto_block 4 with fail
            rw [← hW6]
            clear hW6 hce hfr hcell
            go_wp2_with fail
            go_loopw [13] (fun i wr => ∃ j : Nat, j ≤ 4 ∧ i = .int .i64 j ∧ wr = W6) (fun i _ => 4 - (RowKit.intOf i).toNat)
            case atStart => exact ⟨0, by omega, rfl, rfl⟩
            case round =>
              obtain ⟨j, hj, rfl, hwr⟩ := hrel
              rw [hwr]
              by_cases hj4 : j < 4
              · have hji : (j : Int) < 4 := by omega
                obtain ⟨hx, hb, hcall, hfact⟩ := HHO.out j hj4
                have HCA := hid hcall
                clear hcall
                cases hb with
                | false =>
                  clear hfact
                  go_wp2_with (go_at_call 30; refine HCA.out.mono ?_; rintro e w7 ⟨rfl, hw7⟩; rw [hw7]; clear hw7)
                  go_roundw
                  case rel => exact ⟨j + 1, by omega, by go_num, by first | rfl | trivial⟩
                  case measure => simp [RowKit.intOf]; omega
                | true =>
                  obtain ⟨hxN, hxc⟩ := hfact rfl
                  have hxi : (hx : Int) < N := by omega
                  clear hfact
                  go_wp2_with (go_at_call 30; refine HCA.out.mono ?_; rintro e w7 ⟨rfl, hw7⟩; rw [hw7]; clear hw7)
                  go_roundw
                  case rel => exact ⟨j + 1, by omega, by go_num, by first | rfl | trivial⟩
                  case measure => simp [RowKit.intOf]; omega
              · have hji : ¬ ((j : Int) < 4) := by omega
                go_wp2
                go_roundw
                case rel => exact ⟨k + 1, lab5, A5, _, by omega, by omega, by go_num, HS6.out, HE5.out, HM5.out, HL6.out, HQ6.out⟩
                case measure => simp [RowKit.intOf]; omega
        · have HR : Hid (∃ (lab1 : Nat → Own) (A : Ab) (en : List Bool), Sc wr p lab1 A 80 ∧ Ey A N ∧ Mk A N en ∧ Lb w0 wr lab1 ∧ Lq w0 wr lab1 be en) := hid ⟨lab1, A, en, hS1.more (by omega), hE1, hM1, hL1, hQ1⟩
          clear hS1 hE1 hM1 hL1 hQ1
          by_cases h1 : k < ln2
          · have hki : (k : Int) < ln2 := by omega
            have hki2 : ¬ ((k : Int) < 12) := by omega
            go_wp2
            go_meet
            case rel => exact HR.out
          · have hki : ¬ ((k : Int) < ln2) := by omega
            have hki2 : decide ((k : Int) < ln2) = false := decide_eq_false hki
            go_wp2
            go_meet
            case rel => exact HR.out
    case rest =>
      obtain ⟨lab4, A4, en, hS4, hE4, hM4, hL4, hQ4⟩ := hcut
      have HS4 := hid hS4
      have HE4 := hid hE4
      have HM4 := hid hM4
      have HL4 := hid hL4
      have HQ4 := hid hQ4
      clear hS4 hE4 hM4 hL4 hQ4 HS3 HE3 HM3 HL3 HQ3 HLO HLN HGO HLN2
      go_wp2_with fail
      go_loopw [16] (fun i wr => ∃ (k : Nat) (lab1 : Nat → Own) (A : Ab), k ≤ 3 * N ∧ i = .int .i64 k ∧ Sc wr p lab1 A 80 ∧ Ey A N ∧ Mk A N en ∧ Lb w0 wr lab1 ∧ Lq w0 wr lab1 be en) (fun i _ => 3 * N - (RowKit.intOf i).toNat)
      case atStart => exact ⟨0, lab4, A4, Nat.zero_le _, rfl, HS4.out, HE4.out, HM4.out, HL4.out, HQ4.out⟩
      case round =>
        obtain ⟨k, lab1, A, hk, rfl, hS1, hE1, hM1, hL1, hQ1⟩ := hrel
        clear HS4 HE4 HM4 HL4 HQ4
        by_cases hlt : k < 3 * N
        · have hki : (k : Int) < 3 * (N : Int) := by omega
          have HPI := hid (pick_ey hS1 hE1 hM1 (by omega) (k : Int))
          have HL1 := hid hL1
          have HQ1 := hid hQ1
          have HEL := hid hM1.1
          clear hS1 hE1 hM1 hL1 hQ1
          go_wp2_with fail
          refine HPI.out.mono ?_
          rintro e w5 ⟨id, er, rfl, her, lab5, A5, hS5, hK5, hE5, hM5⟩
          have HS5 := hid hS5
          have HE5 := hid hE5
          have HM5 := hid hM5
          have HQ5 := hid (HQ1.out.keep hK5)
          have HL5 := hid (HL1.out.keep hK5)
          clear hS5 hK5 hE5 hM5 HPI HL1 HQ1
          rcases her with her | ⟨her, hidN, hen⟩
          · subst her
            go_wp2
            go_roundw
            case rel => exact ⟨k + 1, lab5, A5, by omega, by go_num, HS5.out, HE5.out, HM5.out, HL5.out, HQ5.out⟩
            case measure => simp [RowKit.intOf]; omega
          · subst her
            have hidi : (id : Int) < N := by omega
            have hce := HQ5.out.cell (i := id) (by rw [HEL.out]; exact hidN)
            rw [hen] at hce
            clear hen
            go_wp2
            go_roundw
            case rel => exact ⟨k + 1, lab5, A5, by omega, by go_num, HS5.out, HE5.out, HM5.out, HL5.out, HQ5.out⟩
            case measure => simp [RowKit.intOf]; omega
        · have hki : ¬ ((k : Int) < 3 * (N : Int)) := by omega
          have HS4 := hid hS1
          have HZ4 := hid (Ez.of hE1 hM1)
          have HL4 := hid hL1
          have HQ4 := hid hQ1
          have HEL := hid hM1.1
          clear hS1 hE1 hM1 hL1 hQ1
          go_wp2_with fail
          go_loopw [19] (fun i wr => ∃ (k : Nat) (lab1 : Nat → Own) (A : Ab), k ≤ N ∧ i = .int .i64 k ∧ Sc wr p lab1 A (80 + 2 * k) ∧ Ez A N en k ∧ Lb w0 wr lab1 ∧ Lq w0 wr lab1 be en) (fun i _ => N - (RowKit.intOf i).toNat)
          case atStart => exact ⟨0, lab1, A, Nat.zero_le _, rfl, HS4.out, HZ4.out, HL4.out, HQ4.out⟩
          case round =>
            clear hk hki hlt
            obtain ⟨i, lab6, B, hi, rfl, hS6, hZ6, hL6, hQ6⟩ := hrel
            clear HS4 HZ4 HL4 HQ4
            by_cases hlt : i < N
            · have hii : (i : Int) < N := by omega
              obtain ⟨st, er, b, hst, hlk, hcase⟩ := hZ6.says hlt
              have HST := hid (State_any hS6 (i : Int))
              rw [hst] at HST
              have HLK := hid (Lock_any hS6 (hZ6.inv.fit (by rw [hZ6.len]; omega)) (by omega) (i : Int) 9 (isI_of (by omega) (by omega)))
              rw [hlk] at HLK
              have HZ7 := hid hZ6.next
              have HL6 := hid hL6
              have HQ6 := hid hQ6
              clear hst hlk hS6 hZ6 hL6 hQ6
              go_wp2_with (first | (go_at_call 22; refine HST.out.mono ?_; rintro e w4 ⟨rfl, hw4⟩; rw [hw4]; clear hw4))
              refine HLK.out.mono ?_
              rintro e w7 ⟨rfl, lab7, hS7, hK7⟩
              have HS7 := hid hS7
              have HL7 := hid (HL6.out.keep hK7)
              have HQ7 := hid (HQ6.out.keep hK7)
              have hce := HQ7.out.cell (i := i) (by rw [HEL.out]; exact hlt)
              clear hS7 hK7 HST HLK HL6 HQ6
              rcases hcase with ⟨h1, h2, h3⟩ | ⟨h1, h2, h3⟩ | ⟨h1, h2, h3, h4, r, hr, a, t, hart, hne⟩
              · subst h1 h2
                rw [h3] at hce
                clear h3
                go_wp2
                go_roundw
                case rel => exact ⟨i + 1, lab7, _, by omega, by go_num, HS7.out.more (by omega), HZ7.out, HL7.out, HQ7.out⟩
                case measure => simp [RowKit.intOf]; omega
              · subst h1 h2
                rw [h3] at hce
                clear h3
                go_wp2
                go_roundw
                case rel => exact ⟨i + 1, lab7, _, by omega, by go_num, HS7.out.more (by omega), HZ7.out, HL7.out, HQ7.out⟩
                case measure => simp [RowKit.intOf]; omega
              · subst h1 h2
                rw [h3] at hce
                rw [h4] at HS7 HZ7
                have HHE := hid (hel_mono B i 4 r hr ⟨a, t, hart, hne⟩)
                have HHO : Hid (∀ j : Nat, j < 4 → Calls Try.prog 30 #[.pointer (some ⟨p, 0, none⟩), .int .i64 j] w7 (fun e w' => e = .returned (fstI (B.lk (j : Int))) ∧ w' = w7)) := hid (fun j hj => Holder_any HS7.out (j : Int) (isI_of (by omega) (by omega)))
                clear h3 h4 hr hart hne
                go_wp2_with fail
                go_loopw [24, 25] (fun h c wr => ∃ j : Nat, j ≤ 4 ∧ c = .int .i64 j ∧ h = .bool (hel B i j) ∧ wr = w7) (fun _ c _ => 4 - (RowKit.intOf c).toNat)
                case atStart => exact ⟨0, by omega, rfl, rfl, rfl⟩
                case round =>
                  obtain ⟨j, hj, rfl, rfl, hwr⟩ := hrel
                  rw [hwr]
                  by_cases hj4 : j < 4
                  · have hji : (j : Int) < 4 := by omega
                    have HCA := hid (HHO.out j hj4)
                    have HHN : Hid (hel B i (j + 1) = (hel B i j || (!(B.lk (j : Int)).isEmpty && decide ((B.lk (j : Int)).headD 0 ≠ i)))) := hid rfl
                    unfold fstI at HCA
                    generalize (B.lk (j : Int)).headD 0 = ha at *
                    generalize (!(B.lk (j : Int)).isEmpty) = hb at *
                    generalize hel B i j = he at *
                    have hbx : ((ha != (i : Int)) = decide (ha ≠ (i : Int))) := by by_cases e : ha = i <;> simp [e]
                    by_cases hae : ha = (i : Int)
                    · rw [hae] at HCA HHN
                      have HHN2 : Hid (hel B i (j + 1) = he) := hid (by rw [HHN.out]; simp)
                      clear HHN hbx hae
                      cases he with
                      | true =>
                        go_wp2_with (go_at_call 30; refine HCA.out.mono ?_; rintro e w8 ⟨rfl, hw8⟩; rw [hw8]; clear hw8)
                        go_roundw
                        case rel => exact ⟨j + 1, by omega, by go_num, by rw [HHN2.out], by first | rfl | trivial⟩
                        case measure => simp [RowKit.intOf]; omega
                      | false =>
                        cases hb with
                        | true =>
                          go_wp2_with (go_at_call 30; refine HCA.out.mono ?_; rintro e w8 ⟨rfl, hw8⟩; rw [hw8]; clear hw8)
                          go_roundw
                          case rel => exact ⟨j + 1, by omega, by go_num, by rw [HHN2.out], by first | rfl | trivial⟩
                          case measure => simp [RowKit.intOf]; omega
                        | false =>
                          go_wp2_with (go_at_call 30; refine HCA.out.mono ?_; rintro e w8 ⟨rfl, hw8⟩; rw [hw8]; clear hw8)
                          go_roundw
                          case rel => exact ⟨j + 1, by omega, by go_num, by rw [HHN2.out], by first | rfl | trivial⟩
                          case measure => simp [RowKit.intOf]; omega
                    · have hab : (ha == (i : Int)) = false := by simpa using hae
                      have HHN2 : Hid (hel B i (j + 1) = (he || hb)) := hid (by rw [HHN.out]; simp [hae])
                      clear HHN hbx
                      cases he with
                      | true =>
                        go_wp2_with (go_at_call 30; refine HCA.out.mono ?_; rintro e w8 ⟨rfl, hw8⟩; rw [hw8]; clear hw8)
                        go_roundw
                        case rel => exact ⟨j + 1, by omega, by go_num, by rw [HHN2.out]; first | rfl | simp [hae], by first | rfl | trivial⟩
                        case measure => simp [RowKit.intOf]; omega
                      | false =>
                        cases hb with
                        | true =>
                          go_wp2_with (go_at_call 30; refine HCA.out.mono ?_; rintro e w8 ⟨rfl, hw8⟩; rw [hw8]; clear hw8)
                          go_roundw
                          case rel => exact ⟨j + 1, by omega, by go_num, by rw [HHN2.out]; first | rfl | simp [hae], by first | rfl | trivial⟩
                          case measure => simp [RowKit.intOf]; omega
                        | false =>
                          go_wp2_with (go_at_call 30; refine HCA.out.mono ?_; rintro e w8 ⟨rfl, hw8⟩; rw [hw8]; clear hw8)
                          go_roundw
                          case rel => exact ⟨j + 1, by omega, by go_num, by rw [HHN2.out]; first | rfl | simp [hae], by first | rfl | trivial⟩
                          case measure => simp [RowKit.intOf]; omega
                  · have hji : ¬ ((j : Int) < 4) := by omega
                    obtain rfl : j = 4 := by omega
                    rw [HHE.out]
                    go_wp2
                    go_roundw
                    case rel => exact ⟨i + 1, lab7, _, by omega, by go_num, HS7.out.more (by omega), HZ7.out, HL7.out, HQ7.out⟩
                    case measure => simp [RowKit.intOf]; omega
            · have hii : ¬ ((i : Int) < N) := by omega
              have HB := hid hL6.2
              clear hS6 hZ6 hL6 hQ6
              go_wp2
              go_ret
              exact ⟨rfl, HB.out⟩
end Go.Proofs.Ytacmdhlemolngaa
