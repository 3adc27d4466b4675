/- num.PutBe of numbers of eight bytes, at this program. -/
import Derived.Test.YteeakkpbpffohaaPbE
namespace Go.Proofs.Yteeakkpbpffohaa
open Go.RowKit
set_option linter.unusedVariables false
set_option maxHeartbeats 400000 in
theorem writeHigh_8 (g N cap : Nat) (L : List Int) (v : Int) (hv : IsW v) (w : World) (hr : w.rowIs g 5 N (fun i => .int .u8 (L.getD i 0))) (hN : L.length + 8 ≤ N) :
    Calls Try.prog 66 #[.slice (some ⟨g, L.length, none⟩) 8 cap, .int .u64 v] w fun e w' => e = .returned (.tuple #[]) ∧ Below g w w' ∧ w'.heap.size = w.heap.size ∧
      w'.rowIs g 5 N (fun i => .int .u8 ((L ++ bytesBe 8 v).getD i 0)) := by
  unfold IsW at hv
  have HR := hid hr
  obtain ⟨p, hp⟩ : ∃ p, L.length = p := ⟨_, rfl⟩
  rw [hp] at hN ⊢
  obtain ⟨x0, c0⟩ : ∃ x, w.cell? ⟨g, p, none⟩ = some x := ⟨_, hr.cell (i := p) (by omega)⟩
  have f0 := hr.frozen (p)
  obtain ⟨x1, c1⟩ : ∃ x, w.cell? ⟨g, p + 1, none⟩ = some x := ⟨_, hr.cell (i := p + 1) (by omega)⟩
  have f1 := hr.frozen (p + 1)
  obtain ⟨x2, c2⟩ : ∃ x, w.cell? ⟨g, p + 2, none⟩ = some x := ⟨_, hr.cell (i := p + 2) (by omega)⟩
  have f2 := hr.frozen (p + 2)
  obtain ⟨x3, c3⟩ : ∃ x, w.cell? ⟨g, p + 3, none⟩ = some x := ⟨_, hr.cell (i := p + 3) (by omega)⟩
  have f3 := hr.frozen (p + 3)
  obtain ⟨x4, c4⟩ : ∃ x, w.cell? ⟨g, p + 4, none⟩ = some x := ⟨_, hr.cell (i := p + 4) (by omega)⟩
  have f4 := hr.frozen (p + 4)
  obtain ⟨x5, c5⟩ : ∃ x, w.cell? ⟨g, p + 5, none⟩ = some x := ⟨_, hr.cell (i := p + 5) (by omega)⟩
  have f5 := hr.frozen (p + 5)
  obtain ⟨x6, c6⟩ : ∃ x, w.cell? ⟨g, p + 6, none⟩ = some x := ⟨_, hr.cell (i := p + 6) (by omega)⟩
  have f6 := hr.frozen (p + 6)
  obtain ⟨x7, c7⟩ : ∃ x, w.cell? ⟨g, p + 7, none⟩ = some x := ⟨_, hr.cell (i := p + 7) (by omega)⟩
  have f7 := hr.frozen (p + 7)
  have HP := hid hp
  clear hp hr
  go_enter Try.func66, Try.ntmps66
  go_wp2
  go_end0
  refine ⟨rfl, (below_set (below_set (below_set (below_set (below_set (below_set (below_set (below_set (Below.refl _ _) _) _) _) _) _) _) _) _), by simp [World.setCell], ((((((((HR.out.set (p) _).set (p + 1) _).set (p + 2) _).set (p + 3) _).set (p + 4) _).set (p + 5) _).set (p + 6) _).set (p + 7) _).congr fun i hi => ?_⟩
  rw [getD_app, HP.out]
  by_cases h1 : i < p
  · rw [if_pos h1]
    simp only [show ¬ i = p by omega, show ¬ i = p + 1 by omega, show ¬ i = p + 2 by omega, show ¬ i = p + 3 by omega, show ¬ i = p + 4 by omega, show ¬ i = p + 5 by omega, show ¬ i = p + 6 by omega, show ¬ i = p + 7 by omega, if_false]
  · rw [if_neg h1]
    obtain ⟨j, rfl⟩ : ∃ j, i = p + j := ⟨i - p, by omega⟩
    rw [Nat.add_sub_cancel_left]
    by_cases h2 : j < 8
    · rw [getD_be 8 v j h2]
      rcases (show j = 0 ∨ j = 1 ∨ j = 2 ∨ j = 3 ∨ j = 4 ∨ j = 5 ∨ j = 6 ∨ j = 7 by omega) with rfl | rfl | rfl | rfl | rfl | rfl | rfl | rfl <;> first | (simp; done) | (simp; omega)
    · rw [getD_out (bytesBe 8 v) j (by rw [len_be]; omega), getD_out L (p + j) (by rw [HP.out]; omega)]
      simp only [show ¬ p + j = p by omega, show ¬ p + j = p + 1 by omega, show ¬ p + j = p + 2 by omega, show ¬ p + j = p + 3 by omega, show ¬ p + j = p + 4 by omega, show ¬ p + j = p + 5 by omega, show ¬ p + j = p + 6 by omega, show ¬ p + j = p + 7 by omega, if_false]
theorem writeHigh_at8 (g N cap p : Nat) (L : List Int) (v : Int) (hv : IsW v) (w : World) (hr : w.rowIs g 5 N (fun i => .int .u8 (L.getD i 0))) (hp : L.length = p) (hN : p + 8 ≤ N) :
    Calls Try.prog 66 #[.slice (some ⟨g, p, none⟩) 8 cap, .int .u64 v] w fun e w' => e = .returned (.tuple #[]) ∧ Below g w w' ∧ w'.heap.size = w.heap.size ∧
      w'.rowIs g 5 N (fun i => .int .u8 ((L ++ bytesBe 8 v).getD i 0)) := by
  subst hp; exact writeHigh_8 g N cap L v hv w hr hN
set_option maxHeartbeats 400000 in
theorem putBe_8 (a a2 : Option Addr) (cap cap2 : Nat) (b l : List Int) (w : World) (hb : b.length ≤ 140737488351232) (hl : l.length ≤ 1099511627776) (h : Bytes w a b) (h2 : Words w a2 l) (hf : fitsB 8 l = true) :
    Calls Try.prog 59 #[.slice a b.length cap, .int .i64 8, .slice a2 l.length cap2] w fun e w' => e = .returned (.tuple #[.slice (some ⟨w.heap.size, 0, none⟩) (b.length + 8 * l.length) (b.length + 8 * l.length), .int .i64 0]) ∧
      Below w.heap.size w w' ∧ w'.heap.size = w.heap.size + 1 ∧ w'.rowIs w.heap.size 5 (b.length + 8 * l.length) (fun i => .int .u8 ((outBe b 8 l).getD i 0)) := by
  have HF := hid hf
  have HB := hid h
  have HW := hid h2
  clear hf h h2
  obtain ⟨ll, hll⟩ : ∃ ll, l.length = ll := ⟨_, rfl⟩
  have HL := hid hll
  go_enter Try.func59, Try.ntmps59
  go_wp2_with fail
  refine (isWidth_any _ _).mono ?_
  rintro e w' ⟨rfl, rfl⟩
  rw [show widB 8 = true from rfl]
  go_wp2_with fail
  rw [← hll]
  clear hll
  refine (allFit_8 _ _ _ _ (by omega) HW.out).mono ?_
  rintro e w' ⟨rfl, rfl⟩
  rw [HF.out, HL.out]
  rw [HL.out] at hl
  go_wp2_with fail
  refine (grown_int _ _ _ _ (8 * ll) _ (by omega) (by omega) (by omega) HB.out).mono ?_
  rintro e w1 ⟨rfl, hb1, hs1, hr1⟩
  have HB1 := hid hb1
  have HS1 := hid hs1
  have HR1 := hid hr1
  clear hb1 hs1 hr1
  go_wp2
  go_loopw [29] (fun i wr => ∃ k : Nat, k ≤ ll ∧ i = .int .i64 k ∧ Below w'.heap.size w' wr ∧ wr.heap.size = w'.heap.size + 1 ∧ wr.rowIs w'.heap.size 5 (b.length + 8 * ll) (fun i => .int .u8 ((outBe b 8 (l.take k)).getD i 0))) (fun i _ => ll - (intOf i).toNat)
  case atStart => exact ⟨0, Nat.zero_le _, rfl, HB1.out, HS1.out, HR1.out.congr fun i _ => by simp [outBe]⟩
  case round =>
    obtain ⟨k, hk, rfl, hb2, hs2, hr2⟩ := hrel
    have HB2 := hid hb2
    have HZ := hid hs2
    have HR2 := hid hr2
    clear HB1 HS1 HR1 hs2 hr2
    by_cases hlt : k < ll
    · have hkl : k < l.length := by rw [HL.out]; exact hlt
      obtain ⟨b2, off2, rfl, hcs⟩ := (HW.out.later hb2).open_ (by omega)
      have hc := hcs k hkl
      have hx := mem_getD l IsW HW.out.isW k hkl
      have HO := hid (outBe_snoc b 8 l k hkl)
      have HLL := hid (show (outBe b 8 (l.take k)).length = b.length + 8 * k by rw [outBe_len, List.length_take, Nat.min_eq_left (by omega)])
      generalize l.getD k 0 = x at *
      clear hcs hb2
      go_wp2_with fail
      refine (writeHigh_at8 _ _ _ _ _ _ hx _ HR2.out (by rw [HLL.out]; omega) (by omega)).mono ?_
      rintro e w2 ⟨rfl, hb3, hs3, hr3⟩
      have HB3 := hid hb3
      have HS3 := hid hs3
      have HR3 := hid hr3
      clear hb3 hs3 hr3
      go_wp2
      go_roundw
      case rel => exact ⟨k + 1, by omega, by go_num, HB2.out.trans HB3.out, HS3.out.trans HZ.out, by rw [HO.out]; exact HR3.out⟩
      case measure => simp [intOf]; omega
    · go_wp2
      go_ret2
      have e : l.take k = l := List.take_of_length_le (by rw [HL.out]; omega)
      rw [e] at HR2
      rw [HL.out]
      exact ⟨rfl, HB2.out, HZ.out, HR2.out⟩
theorem be_back_8 (u : Int) (h0 : 0 ≤ u) (h1 : u < 18446744073709551616) : beOf (bytesBe 8 u) = u := by
  simp [bytesBe, beOf, beOn, List.range, List.range.loop]; omega
end Go.Proofs.Yteeakkpbpffohaa
