import Derived.Test.YtkmljnjikkmdhaaDoorRows
import Derived.Test.YtkmljnjikkmdhaaDoorWalkE
import Derived.WalkKit
import Derived.WalkSpells
import Derived.WalkLawsBesides
import Derived.Deep.QuietTactic
import Derived.BigQuiet
/-
  The walks of num.PutLe and num.PutBe: refused where the width is none or a number needs more; else the bytes and behind them the numbers, in a new row of the call's own; nothing old is changed. Conditions: at most 2^47 - 4096 bytes, at most 2^40 numbers.
-/
namespace Go.Proofs.YtkmljnjikkmdhaaDoor
open Go.RowKit
set_option linter.unusedVariables false

theorem grown_int (a : Option Addr) (cap : Nat) (l : List Int) (x : Int) (more : Nat) (w : World) (e : x = more) (hl : l.length ≤ 140737488355328) (hm : more ≤ 140737488355328) (h : Bytes w a l) :
    Calls Tryd.prog 30 #[.slice a l.length cap, .int .i64 x] w fun e w' => e = .returned (.slice (some ⟨w.heap.size, 0, none⟩) (l.length + more) (l.length + more)) ∧ Below w.heap.size w w' ∧ w'.heap.size = w.heap.size + 1 ∧
      w'.rowIs w.heap.size 5 (l.length + more) (fun i => .int .u8 (l.getD i 0)) := by
  subst e; exact grown_any a cap l more w hl hm h
def outLe (b : List Int) (n : Nat) (l : List Int) : List Int := b ++ l.flatMap (bytesLe n)
theorem outLe_snoc (b : List Int) (n : Nat) (l : List Int) (k : Nat) (h : k < l.length) : outLe b n (l.take (k + 1)) = outLe b n (l.take k) ++ bytesLe n (l.getD k 0) := by
  rw [take_snoc l k h]; simp [outLe]
theorem outLe_len (b : List Int) (n : Nat) (l : List Int) : (outLe b n l).length = b.length + n * l.length := by
  unfold outLe
  induction l with
  | nil => simp
  | cons x l ih =>
    simp only [List.length_append, List.flatMap_cons, len_le, List.length_cons, Nat.mul_add] at *
    omega

def outBe (b : List Int) (n : Nat) (l : List Int) : List Int := b ++ l.flatMap (bytesBe n)
theorem outBe_snoc (b : List Int) (n : Nat) (l : List Int) (k : Nat) (h : k < l.length) : outBe b n (l.take (k + 1)) = outBe b n (l.take k) ++ bytesBe n (l.getD k 0) := by
  rw [take_snoc l k h]; simp [outBe]
theorem outBe_len (b : List Int) (n : Nat) (l : List Int) : (outBe b n l).length = b.length + n * l.length := by
  unfold outBe
  induction l with
  | nil => simp
  | cons x l ih =>
    simp only [List.length_append, List.flatMap_cons, len_be, List.length_cons, Nat.mul_add] at *
    omega

theorem writeLow_at1 (g N cap p : Nat) (L : List Int) (v : Int) (hv : IsW v) (w : World) (hr : w.rowIs g 5 N (fun i => .int .u8 (L.getD i 0))) (hp : L.length = p) (hN : p + 1 ≤ N) :
    Calls Tryd.prog 31 #[.slice (some ⟨g, p, none⟩) 1 cap, .int .u64 v] w fun e w' => e = .returned (.tuple #[]) ∧ Below g w w' ∧ w'.heap.size = w.heap.size ∧
      w'.rowIs g 5 N (fun i => .int .u8 ((L ++ bytesLe 1 v).getD i 0)) := by
  subst hp; exact writeLow_1 g N cap L v hv w hr hN

set_option maxHeartbeats 400000 in
theorem putLe_1 (a a2 : Option Addr) (cap cap2 : Nat) (b l : List Int) (w : World) (hb : b.length ≤ 140737488351232) (hl : l.length ≤ 1099511627776) (h : Bytes w a b) (h2 : Words w a2 l) (hf : fitsB 1 l = true) :
    Calls Tryd.prog 16 #[.slice a b.length cap, .int .i64 1, .slice a2 l.length cap2] w fun e w' => e = .returned (.tuple #[.slice (some ⟨w.heap.size, 0, none⟩) (b.length + 1 * l.length) (b.length + 1 * l.length), .int .i64 0]) ∧
      Below w.heap.size w w' ∧ w'.heap.size = w.heap.size + 1 ∧ w'.rowIs w.heap.size 5 (b.length + 1 * l.length) (fun i => .int .u8 ((outLe b 1 l).getD i 0)) := by
  have HF := hid hf
  have HB := hid h
  have HW := hid h2
  clear hf h h2
  obtain ⟨ll, hll⟩ : ∃ ll, l.length = ll := ⟨_, rfl⟩
  have HL := hid hll
  go_enter Tryd.func16, Tryd.ntmps16
  go_wp2_with fail
  refine (isWidth_any _ _).mono ?_
  rintro e w' ⟨rfl, rfl⟩
  rw [show widB 1 = true from rfl]
  go_wp2_with fail
  rw [← hll]
  clear hll
  refine (allFit_1 _ _ _ _ (by omega) HW.out).mono ?_
  rintro e w' ⟨rfl, rfl⟩
  rw [HF.out, HL.out]
  rw [HL.out] at hl
  go_wp2_with fail
  refine (grown_int _ _ _ _ (1 * ll) _ (by omega) (by omega) (by omega) HB.out).mono ?_
  rintro e w1 ⟨rfl, hb1, hs1, hr1⟩
  have HB1 := hid hb1
  have HS1 := hid hs1
  have HR1 := hid hr1
  clear hb1 hs1 hr1
  go_wp2
  go_loopw [29] (fun i wr => ∃ k : Nat, k ≤ ll ∧ i = .int .i64 k ∧ Below w'.heap.size w' wr ∧ wr.heap.size = w'.heap.size + 1 ∧ wr.rowIs w'.heap.size 5 (b.length + 1 * ll) (fun i => .int .u8 ((outLe b 1 (l.take k)).getD i 0))) (fun i _ => ll - (intOf i).toNat)
  case atStart => exact ⟨0, Nat.zero_le _, rfl, HB1.out, HS1.out, HR1.out.congr fun i _ => by simp [outLe]⟩
  case round =>
    obtain ⟨k, hk, rfl, hb2, hs2, hr2⟩ := hrel
    have HB2 := hid hb2
    have HZ := hid hs2
    have HR2 := hid hr2
    clear HB1 HS1 HR1 hs2 hr2
    by_cases hlt : k < ll
    · have hkl : k < l.length := by rw [HL.out]; exact hlt
      obtain ⟨b2, off2, rfl, hcs⟩ := (HW.out.later hb2).open_ (by omega)
      have hc := hcs k hkl
      have hx := mem_getD l IsW HW.out.isW k hkl
      have HO := hid (outLe_snoc b 1 l k hkl)
      have HLL := hid (show (outLe b 1 (l.take k)).length = b.length + 1 * k by rw [outLe_len, List.length_take, Nat.min_eq_left (by omega)])
      generalize l.getD k 0 = x at *
      clear hcs hb2
      go_wp2_with fail
      refine (writeLow_at1 _ _ _ _ _ _ hx _ HR2.out (by rw [HLL.out]; omega) (by omega)).mono ?_
      rintro e w2 ⟨rfl, hb3, hs3, hr3⟩
      have HB3 := hid hb3
      have HS3 := hid hs3
      have HR3 := hid hr3
      clear hb3 hs3 hr3
      go_wp2
      go_roundw
      case rel => exact ⟨k + 1, by omega, by go_num, HB2.out.trans HB3.out, HS3.out.trans HZ.out, by rw [HO.out]; exact HR3.out⟩
      case measure => simp [intOf]; omega
    · go_wp2
      go_ret2
      have e : l.take k = l := List.take_of_length_le (by rw [HL.out]; omega)
      rw [e] at HR2
      rw [Nat.one_mul] at HR2
      rw [HL.out, Nat.one_mul]
      exact ⟨rfl, HB2.out, HZ.out, HR2.out⟩

theorem writeLow_at2 (g N cap p : Nat) (L : List Int) (v : Int) (hv : IsW v) (w : World) (hr : w.rowIs g 5 N (fun i => .int .u8 (L.getD i 0))) (hp : L.length = p) (hN : p + 2 ≤ N) :
    Calls Tryd.prog 31 #[.slice (some ⟨g, p, none⟩) 2 cap, .int .u64 v] w fun e w' => e = .returned (.tuple #[]) ∧ Below g w w' ∧ w'.heap.size = w.heap.size ∧
      w'.rowIs g 5 N (fun i => .int .u8 ((L ++ bytesLe 2 v).getD i 0)) := by
  subst hp; exact writeLow_2 g N cap L v hv w hr hN

set_option maxHeartbeats 400000 in
theorem putLe_2 (a a2 : Option Addr) (cap cap2 : Nat) (b l : List Int) (w : World) (hb : b.length ≤ 140737488351232) (hl : l.length ≤ 1099511627776) (h : Bytes w a b) (h2 : Words w a2 l) (hf : fitsB 2 l = true) :
    Calls Tryd.prog 16 #[.slice a b.length cap, .int .i64 2, .slice a2 l.length cap2] w fun e w' => e = .returned (.tuple #[.slice (some ⟨w.heap.size, 0, none⟩) (b.length + 2 * l.length) (b.length + 2 * l.length), .int .i64 0]) ∧
      Below w.heap.size w w' ∧ w'.heap.size = w.heap.size + 1 ∧ w'.rowIs w.heap.size 5 (b.length + 2 * l.length) (fun i => .int .u8 ((outLe b 2 l).getD i 0)) := by
  have HF := hid hf
  have HB := hid h
  have HW := hid h2
  clear hf h h2
  obtain ⟨ll, hll⟩ : ∃ ll, l.length = ll := ⟨_, rfl⟩
  have HL := hid hll
  go_enter Tryd.func16, Tryd.ntmps16
  go_wp2_with fail
  refine (isWidth_any _ _).mono ?_
  rintro e w' ⟨rfl, rfl⟩
  rw [show widB 2 = true from rfl]
  go_wp2_with fail
  rw [← hll]
  clear hll
  refine (allFit_2 _ _ _ _ (by omega) HW.out).mono ?_
  rintro e w' ⟨rfl, rfl⟩
  rw [HF.out, HL.out]
  rw [HL.out] at hl
  go_wp2_with fail
  refine (grown_int _ _ _ _ (2 * ll) _ (by omega) (by omega) (by omega) HB.out).mono ?_
  rintro e w1 ⟨rfl, hb1, hs1, hr1⟩
  have HB1 := hid hb1
  have HS1 := hid hs1
  have HR1 := hid hr1
  clear hb1 hs1 hr1
  go_wp2
  go_loopw [29] (fun i wr => ∃ k : Nat, k ≤ ll ∧ i = .int .i64 k ∧ Below w'.heap.size w' wr ∧ wr.heap.size = w'.heap.size + 1 ∧ wr.rowIs w'.heap.size 5 (b.length + 2 * ll) (fun i => .int .u8 ((outLe b 2 (l.take k)).getD i 0))) (fun i _ => ll - (intOf i).toNat)
  case atStart => exact ⟨0, Nat.zero_le _, rfl, HB1.out, HS1.out, HR1.out.congr fun i _ => by simp [outLe]⟩
  case round =>
    obtain ⟨k, hk, rfl, hb2, hs2, hr2⟩ := hrel
    have HB2 := hid hb2
    have HZ := hid hs2
    have HR2 := hid hr2
    clear HB1 HS1 HR1 hs2 hr2
    by_cases hlt : k < ll
    · have hkl : k < l.length := by rw [HL.out]; exact hlt
      obtain ⟨b2, off2, rfl, hcs⟩ := (HW.out.later hb2).open_ (by omega)
      have hc := hcs k hkl
      have hx := mem_getD l IsW HW.out.isW k hkl
      have HO := hid (outLe_snoc b 2 l k hkl)
      have HLL := hid (show (outLe b 2 (l.take k)).length = b.length + 2 * k by rw [outLe_len, List.length_take, Nat.min_eq_left (by omega)])
      generalize l.getD k 0 = x at *
      clear hcs hb2
      go_wp2_with fail
      refine (writeLow_at2 _ _ _ _ _ _ hx _ HR2.out (by rw [HLL.out]; omega) (by omega)).mono ?_
      rintro e w2 ⟨rfl, hb3, hs3, hr3⟩
      have HB3 := hid hb3
      have HS3 := hid hs3
      have HR3 := hid hr3
      clear hb3 hs3 hr3
      go_wp2
      go_roundw
      case rel => exact ⟨k + 1, by omega, by go_num, HB2.out.trans HB3.out, HS3.out.trans HZ.out, by rw [HO.out]; exact HR3.out⟩
      case measure => simp [intOf]; omega
    · go_wp2
      go_ret2
      have e : l.take k = l := List.take_of_length_le (by rw [HL.out]; omega)
      rw [e] at HR2
      rw [HL.out]
      exact ⟨rfl, HB2.out, HZ.out, HR2.out⟩

theorem writeLow_at4 (g N cap p : Nat) (L : List Int) (v : Int) (hv : IsW v) (w : World) (hr : w.rowIs g 5 N (fun i => .int .u8 (L.getD i 0))) (hp : L.length = p) (hN : p + 4 ≤ N) :
    Calls Tryd.prog 31 #[.slice (some ⟨g, p, none⟩) 4 cap, .int .u64 v] w fun e w' => e = .returned (.tuple #[]) ∧ Below g w w' ∧ w'.heap.size = w.heap.size ∧
      w'.rowIs g 5 N (fun i => .int .u8 ((L ++ bytesLe 4 v).getD i 0)) := by
  subst hp; exact writeLow_4 g N cap L v hv w hr hN

set_option maxHeartbeats 400000 in
theorem putLe_4 (a a2 : Option Addr) (cap cap2 : Nat) (b l : List Int) (w : World) (hb : b.length ≤ 140737488351232) (hl : l.length ≤ 1099511627776) (h : Bytes w a b) (h2 : Words w a2 l) (hf : fitsB 4 l = true) :
    Calls Tryd.prog 16 #[.slice a b.length cap, .int .i64 4, .slice a2 l.length cap2] w fun e w' => e = .returned (.tuple #[.slice (some ⟨w.heap.size, 0, none⟩) (b.length + 4 * l.length) (b.length + 4 * l.length), .int .i64 0]) ∧
      Below w.heap.size w w' ∧ w'.heap.size = w.heap.size + 1 ∧ w'.rowIs w.heap.size 5 (b.length + 4 * l.length) (fun i => .int .u8 ((outLe b 4 l).getD i 0)) := by
  have HF := hid hf
  have HB := hid h
  have HW := hid h2
  clear hf h h2
  obtain ⟨ll, hll⟩ : ∃ ll, l.length = ll := ⟨_, rfl⟩
  have HL := hid hll
  go_enter Tryd.func16, Tryd.ntmps16
  go_wp2_with fail
  refine (isWidth_any _ _).mono ?_
  rintro e w' ⟨rfl, rfl⟩
  rw [show widB 4 = true from rfl]
  go_wp2_with fail
  rw [← hll]
  clear hll
  refine (allFit_4 _ _ _ _ (by omega) HW.out).mono ?_
  rintro e w' ⟨rfl, rfl⟩
  rw [HF.out, HL.out]
  rw [HL.out] at hl
  go_wp2_with fail
  refine (grown_int _ _ _ _ (4 * ll) _ (by omega) (by omega) (by omega) HB.out).mono ?_
  rintro e w1 ⟨rfl, hb1, hs1, hr1⟩
  have HB1 := hid hb1
  have HS1 := hid hs1
  have HR1 := hid hr1
  clear hb1 hs1 hr1
  go_wp2
  go_loopw [29] (fun i wr => ∃ k : Nat, k ≤ ll ∧ i = .int .i64 k ∧ Below w'.heap.size w' wr ∧ wr.heap.size = w'.heap.size + 1 ∧ wr.rowIs w'.heap.size 5 (b.length + 4 * ll) (fun i => .int .u8 ((outLe b 4 (l.take k)).getD i 0))) (fun i _ => ll - (intOf i).toNat)
  case atStart => exact ⟨0, Nat.zero_le _, rfl, HB1.out, HS1.out, HR1.out.congr fun i _ => by simp [outLe]⟩
  case round =>
    obtain ⟨k, hk, rfl, hb2, hs2, hr2⟩ := hrel
    have HB2 := hid hb2
    have HZ := hid hs2
    have HR2 := hid hr2
    clear HB1 HS1 HR1 hs2 hr2
    by_cases hlt : k < ll
    · have hkl : k < l.length := by rw [HL.out]; exact hlt
      obtain ⟨b2, off2, rfl, hcs⟩ := (HW.out.later hb2).open_ (by omega)
      have hc := hcs k hkl
      have hx := mem_getD l IsW HW.out.isW k hkl
      have HO := hid (outLe_snoc b 4 l k hkl)
      have HLL := hid (show (outLe b 4 (l.take k)).length = b.length + 4 * k by rw [outLe_len, List.length_take, Nat.min_eq_left (by omega)])
      generalize l.getD k 0 = x at *
      clear hcs hb2
      go_wp2_with fail
      refine (writeLow_at4 _ _ _ _ _ _ hx _ HR2.out (by rw [HLL.out]; omega) (by omega)).mono ?_
      rintro e w2 ⟨rfl, hb3, hs3, hr3⟩
      have HB3 := hid hb3
      have HS3 := hid hs3
      have HR3 := hid hr3
      clear hb3 hs3 hr3
      go_wp2
      go_roundw
      case rel => exact ⟨k + 1, by omega, by go_num, HB2.out.trans HB3.out, HS3.out.trans HZ.out, by rw [HO.out]; exact HR3.out⟩
      case measure => simp [intOf]; omega
    · go_wp2
      go_ret2
      have e : l.take k = l := List.take_of_length_le (by rw [HL.out]; omega)
      rw [e] at HR2
      rw [HL.out]
      exact ⟨rfl, HB2.out, HZ.out, HR2.out⟩

theorem writeLow_at8 (g N cap p : Nat) (L : List Int) (v : Int) (hv : IsW v) (w : World) (hr : w.rowIs g 5 N (fun i => .int .u8 (L.getD i 0))) (hp : L.length = p) (hN : p + 8 ≤ N) :
    Calls Tryd.prog 31 #[.slice (some ⟨g, p, none⟩) 8 cap, .int .u64 v] w fun e w' => e = .returned (.tuple #[]) ∧ Below g w w' ∧ w'.heap.size = w.heap.size ∧
      w'.rowIs g 5 N (fun i => .int .u8 ((L ++ bytesLe 8 v).getD i 0)) := by
  subst hp; exact writeLow_8 g N cap L v hv w hr hN

set_option maxHeartbeats 400000 in
theorem putLe_8 (a a2 : Option Addr) (cap cap2 : Nat) (b l : List Int) (w : World) (hb : b.length ≤ 140737488351232) (hl : l.length ≤ 1099511627776) (h : Bytes w a b) (h2 : Words w a2 l) (hf : fitsB 8 l = true) :
    Calls Tryd.prog 16 #[.slice a b.length cap, .int .i64 8, .slice a2 l.length cap2] w fun e w' => e = .returned (.tuple #[.slice (some ⟨w.heap.size, 0, none⟩) (b.length + 8 * l.length) (b.length + 8 * l.length), .int .i64 0]) ∧
      Below w.heap.size w w' ∧ w'.heap.size = w.heap.size + 1 ∧ w'.rowIs w.heap.size 5 (b.length + 8 * l.length) (fun i => .int .u8 ((outLe b 8 l).getD i 0)) := by
  have HF := hid hf
  have HB := hid h
  have HW := hid h2
  clear hf h h2
  obtain ⟨ll, hll⟩ : ∃ ll, l.length = ll := ⟨_, rfl⟩
  have HL := hid hll
  go_enter Tryd.func16, Tryd.ntmps16
  go_wp2_with fail
  refine (isWidth_any _ _).mono ?_
  rintro e w' ⟨rfl, rfl⟩
  rw [show widB 8 = true from rfl]
  go_wp2_with fail
  rw [← hll]
  clear hll
  refine (allFit_8 _ _ _ _ (by omega) HW.out).mono ?_
  rintro e w' ⟨rfl, rfl⟩
  rw [HF.out, HL.out]
  rw [HL.out] at hl
  go_wp2_with fail
  refine (grown_int _ _ _ _ (8 * ll) _ (by omega) (by omega) (by omega) HB.out).mono ?_
  rintro e w1 ⟨rfl, hb1, hs1, hr1⟩
  have HB1 := hid hb1
  have HS1 := hid hs1
  have HR1 := hid hr1
  clear hb1 hs1 hr1
  go_wp2
  go_loopw [29] (fun i wr => ∃ k : Nat, k ≤ ll ∧ i = .int .i64 k ∧ Below w'.heap.size w' wr ∧ wr.heap.size = w'.heap.size + 1 ∧ wr.rowIs w'.heap.size 5 (b.length + 8 * ll) (fun i => .int .u8 ((outLe b 8 (l.take k)).getD i 0))) (fun i _ => ll - (intOf i).toNat)
  case atStart => exact ⟨0, Nat.zero_le _, rfl, HB1.out, HS1.out, HR1.out.congr fun i _ => by simp [outLe]⟩
  case round =>
    obtain ⟨k, hk, rfl, hb2, hs2, hr2⟩ := hrel
    have HB2 := hid hb2
    have HZ := hid hs2
    have HR2 := hid hr2
    clear HB1 HS1 HR1 hs2 hr2
    by_cases hlt : k < ll
    · have hkl : k < l.length := by rw [HL.out]; exact hlt
      obtain ⟨b2, off2, rfl, hcs⟩ := (HW.out.later hb2).open_ (by omega)
      have hc := hcs k hkl
      have hx := mem_getD l IsW HW.out.isW k hkl
      have HO := hid (outLe_snoc b 8 l k hkl)
      have HLL := hid (show (outLe b 8 (l.take k)).length = b.length + 8 * k by rw [outLe_len, List.length_take, Nat.min_eq_left (by omega)])
      generalize l.getD k 0 = x at *
      clear hcs hb2
      go_wp2_with fail
      refine (writeLow_at8 _ _ _ _ _ _ hx _ HR2.out (by rw [HLL.out]; omega) (by omega)).mono ?_
      rintro e w2 ⟨rfl, hb3, hs3, hr3⟩
      have HB3 := hid hb3
      have HS3 := hid hs3
      have HR3 := hid hr3
      clear hb3 hs3 hr3
      go_wp2
      go_roundw
      case rel => exact ⟨k + 1, by omega, by go_num, HB2.out.trans HB3.out, HS3.out.trans HZ.out, by rw [HO.out]; exact HR3.out⟩
      case measure => simp [intOf]; omega
    · go_wp2
      go_ret2
      have e : l.take k = l := List.take_of_length_le (by rw [HL.out]; omega)
      rw [e] at HR2
      rw [HL.out]
      exact ⟨rfl, HB2.out, HZ.out, HR2.out⟩

theorem putLe_yes (a a2 : Option Addr) (cap cap2 n : Nat) (b l : List Int) (w : World) (hb : b.length ≤ 140737488351232) (hl : l.length ≤ 1099511627776) (h : Bytes w a b) (h2 : Words w a2 l) (hn : widB n = true) (hf : fitsB n l = true) :
    Calls Tryd.prog 16 #[.slice a b.length cap, .int .i64 n, .slice a2 l.length cap2] w fun e w' => e = .returned (.tuple #[.slice (some ⟨w.heap.size, 0, none⟩) (b.length + n * l.length) (b.length + n * l.length), .int .i64 0]) ∧
      Below w.heap.size w w' ∧ w'.heap.size = w.heap.size + 1 ∧ w'.rowIs w.heap.size 5 (b.length + n * l.length) (fun i => .int .u8 ((outLe b n l).getD i 0)) := by
  have := widB_cases hn
  rcases (show n = 1 ∨ n = 2 ∨ n = 4 ∨ n = 8 by omega) with rfl | rfl | rfl | rfl
  · exact putLe_1 a a2 cap cap2 b l w hb hl h h2 hf
  · exact putLe_2 a a2 cap cap2 b l w hb hl h h2 hf
  · exact putLe_4 a a2 cap cap2 b l w hb hl h h2 hf
  · exact putLe_8 a a2 cap cap2 b l w hb hl h h2 hf

set_option maxHeartbeats 400000 in
theorem putLe_no (a a2 : Option Addr) (cap cap2 : Nat) (n : Int) (b l : List Int) (w : World) (hl : l.length ≤ 1099511627776) (h2 : Words w a2 l) (hf : (widB n && fitsB n l) = false) :
    Calls Tryd.prog 16 #[.slice a b.length cap, .int .i64 n, .slice a2 l.length cap2] w fun e w' => e = .returned (.tuple #[.slice none 0 0, .int .i64 1]) ∧ w' = w := by
  cases hn : widB n
  · have HN := hid hn
    clear hn hf h2
    go_enter Tryd.func16, Tryd.ntmps16
    go_wp2_with fail
    refine (isWidth_any _ _).mono ?_
    rintro e w' ⟨rfl, rfl⟩
    rw [HN.out]
    go_wp2
    go_ret2
    exact ⟨rfl, rfl⟩
  · have HN := hid hn
    have HF := hid (show fitsB n l = false by simpa [hn] using hf)
    have HW := hid h2
    clear hn hf h2
    go_enter Tryd.func16, Tryd.ntmps16
    go_wp2_with fail
    refine (isWidth_any _ _).mono ?_
    rintro e w' ⟨rfl, rfl⟩
    rw [HN.out]
    go_wp2_with fail
    refine (allFit_any _ _ _ _ _ (by omega) HN.out HW.out).mono ?_
    rintro e w' ⟨rfl, rfl⟩
    rw [HF.out]
    go_wp2
    go_ret2
    exact ⟨rfl, rfl⟩

theorem writeHigh_at1 (g N cap p : Nat) (L : List Int) (v : Int) (hv : IsW v) (w : World) (hr : w.rowIs g 5 N (fun i => .int .u8 (L.getD i 0))) (hp : L.length = p) (hN : p + 1 ≤ N) :
    Calls Tryd.prog 32 #[.slice (some ⟨g, p, none⟩) 1 cap, .int .u64 v] w fun e w' => e = .returned (.tuple #[]) ∧ Below g w w' ∧ w'.heap.size = w.heap.size ∧
      w'.rowIs g 5 N (fun i => .int .u8 ((L ++ bytesBe 1 v).getD i 0)) := by
  subst hp; exact writeHigh_1 g N cap L v hv w hr hN

set_option maxHeartbeats 400000 in
theorem putBe_1 (a a2 : Option Addr) (cap cap2 : Nat) (b l : List Int) (w : World) (hb : b.length ≤ 140737488351232) (hl : l.length ≤ 1099511627776) (h : Bytes w a b) (h2 : Words w a2 l) (hf : fitsB 1 l = true) :
    Calls Tryd.prog 17 #[.slice a b.length cap, .int .i64 1, .slice a2 l.length cap2] w fun e w' => e = .returned (.tuple #[.slice (some ⟨w.heap.size, 0, none⟩) (b.length + 1 * l.length) (b.length + 1 * l.length), .int .i64 0]) ∧
      Below w.heap.size w w' ∧ w'.heap.size = w.heap.size + 1 ∧ w'.rowIs w.heap.size 5 (b.length + 1 * l.length) (fun i => .int .u8 ((outBe b 1 l).getD i 0)) := by
  have HF := hid hf
  have HB := hid h
  have HW := hid h2
  clear hf h h2
  obtain ⟨ll, hll⟩ : ∃ ll, l.length = ll := ⟨_, rfl⟩
  have HL := hid hll
  go_enter Tryd.func17, Tryd.ntmps17
  go_wp2_with fail
  refine (isWidth_any _ _).mono ?_
  rintro e w' ⟨rfl, rfl⟩
  rw [show widB 1 = true from rfl]
  go_wp2_with fail
  rw [← hll]
  clear hll
  refine (allFit_1 _ _ _ _ (by omega) HW.out).mono ?_
  rintro e w' ⟨rfl, rfl⟩
  rw [HF.out, HL.out]
  rw [HL.out] at hl
  go_wp2_with fail
  refine (grown_int _ _ _ _ (1 * ll) _ (by omega) (by omega) (by omega) HB.out).mono ?_
  rintro e w1 ⟨rfl, hb1, hs1, hr1⟩
  have HB1 := hid hb1
  have HS1 := hid hs1
  have HR1 := hid hr1
  clear hb1 hs1 hr1
  go_wp2
  go_loopw [29] (fun i wr => ∃ k : Nat, k ≤ ll ∧ i = .int .i64 k ∧ Below w'.heap.size w' wr ∧ wr.heap.size = w'.heap.size + 1 ∧ wr.rowIs w'.heap.size 5 (b.length + 1 * ll) (fun i => .int .u8 ((outBe b 1 (l.take k)).getD i 0))) (fun i _ => ll - (intOf i).toNat)
  case atStart => exact ⟨0, Nat.zero_le _, rfl, HB1.out, HS1.out, HR1.out.congr fun i _ => by simp [outBe]⟩
  case round =>
    obtain ⟨k, hk, rfl, hb2, hs2, hr2⟩ := hrel
    have HB2 := hid hb2
    have HZ := hid hs2
    have HR2 := hid hr2
    clear HB1 HS1 HR1 hs2 hr2
    by_cases hlt : k < ll
    · have hkl : k < l.length := by rw [HL.out]; exact hlt
      obtain ⟨b2, off2, rfl, hcs⟩ := (HW.out.later hb2).open_ (by omega)
      have hc := hcs k hkl
      have hx := mem_getD l IsW HW.out.isW k hkl
      have HO := hid (outBe_snoc b 1 l k hkl)
      have HLL := hid (show (outBe b 1 (l.take k)).length = b.length + 1 * k by rw [outBe_len, List.length_take, Nat.min_eq_left (by omega)])
      generalize l.getD k 0 = x at *
      clear hcs hb2
      go_wp2_with fail
      refine (writeHigh_at1 _ _ _ _ _ _ hx _ HR2.out (by rw [HLL.out]; omega) (by omega)).mono ?_
      rintro e w2 ⟨rfl, hb3, hs3, hr3⟩
      have HB3 := hid hb3
      have HS3 := hid hs3
      have HR3 := hid hr3
      clear hb3 hs3 hr3
      go_wp2
      go_roundw
      case rel => exact ⟨k + 1, by omega, by go_num, HB2.out.trans HB3.out, HS3.out.trans HZ.out, by rw [HO.out]; exact HR3.out⟩
      case measure => simp [intOf]; omega
    · go_wp2
      go_ret2
      have e : l.take k = l := List.take_of_length_le (by rw [HL.out]; omega)
      rw [e] at HR2
      rw [Nat.one_mul] at HR2
      rw [HL.out, Nat.one_mul]
      exact ⟨rfl, HB2.out, HZ.out, HR2.out⟩

theorem writeHigh_at2 (g N cap p : Nat) (L : List Int) (v : Int) (hv : IsW v) (w : World) (hr : w.rowIs g 5 N (fun i => .int .u8 (L.getD i 0))) (hp : L.length = p) (hN : p + 2 ≤ N) :
    Calls Tryd.prog 32 #[.slice (some ⟨g, p, none⟩) 2 cap, .int .u64 v] w fun e w' => e = .returned (.tuple #[]) ∧ Below g w w' ∧ w'.heap.size = w.heap.size ∧
      w'.rowIs g 5 N (fun i => .int .u8 ((L ++ bytesBe 2 v).getD i 0)) := by
  subst hp; exact writeHigh_2 g N cap L v hv w hr hN

set_option maxHeartbeats 400000 in
theorem putBe_2 (a a2 : Option Addr) (cap cap2 : Nat) (b l : List Int) (w : World) (hb : b.length ≤ 140737488351232) (hl : l.length ≤ 1099511627776) (h : Bytes w a b) (h2 : Words w a2 l) (hf : fitsB 2 l = true) :
    Calls Tryd.prog 17 #[.slice a b.length cap, .int .i64 2, .slice a2 l.length cap2] w fun e w' => e = .returned (.tuple #[.slice (some ⟨w.heap.size, 0, none⟩) (b.length + 2 * l.length) (b.length + 2 * l.length), .int .i64 0]) ∧
      Below w.heap.size w w' ∧ w'.heap.size = w.heap.size + 1 ∧ w'.rowIs w.heap.size 5 (b.length + 2 * l.length) (fun i => .int .u8 ((outBe b 2 l).getD i 0)) := by
  have HF := hid hf
  have HB := hid h
  have HW := hid h2
  clear hf h h2
  obtain ⟨ll, hll⟩ : ∃ ll, l.length = ll := ⟨_, rfl⟩
  have HL := hid hll
  go_enter Tryd.func17, Tryd.ntmps17
  go_wp2_with fail
  refine (isWidth_any _ _).mono ?_
  rintro e w' ⟨rfl, rfl⟩
  rw [show widB 2 = true from rfl]
  go_wp2_with fail
  rw [← hll]
  clear hll
  refine (allFit_2 _ _ _ _ (by omega) HW.out).mono ?_
  rintro e w' ⟨rfl, rfl⟩
  rw [HF.out, HL.out]
  rw [HL.out] at hl
  go_wp2_with fail
  refine (grown_int _ _ _ _ (2 * ll) _ (by omega) (by omega) (by omega) HB.out).mono ?_
  rintro e w1 ⟨rfl, hb1, hs1, hr1⟩
  have HB1 := hid hb1
  have HS1 := hid hs1
  have HR1 := hid hr1
  clear hb1 hs1 hr1
  go_wp2
  go_loopw [29] (fun i wr => ∃ k : Nat, k ≤ ll ∧ i = .int .i64 k ∧ Below w'.heap.size w' wr ∧ wr.heap.size = w'.heap.size + 1 ∧ wr.rowIs w'.heap.size 5 (b.length + 2 * ll) (fun i => .int .u8 ((outBe b 2 (l.take k)).getD i 0))) (fun i _ => ll - (intOf i).toNat)
  case atStart => exact ⟨0, Nat.zero_le _, rfl, HB1.out, HS1.out, HR1.out.congr fun i _ => by simp [outBe]⟩
  case round =>
    obtain ⟨k, hk, rfl, hb2, hs2, hr2⟩ := hrel
    have HB2 := hid hb2
    have HZ := hid hs2
    have HR2 := hid hr2
    clear HB1 HS1 HR1 hs2 hr2
    by_cases hlt : k < ll
    · have hkl : k < l.length := by rw [HL.out]; exact hlt
      obtain ⟨b2, off2, rfl, hcs⟩ := (HW.out.later hb2).open_ (by omega)
      have hc := hcs k hkl
      have hx := mem_getD l IsW HW.out.isW k hkl
      have HO := hid (outBe_snoc b 2 l k hkl)
      have HLL := hid (show (outBe b 2 (l.take k)).length = b.length + 2 * k by rw [outBe_len, List.length_take, Nat.min_eq_left (by omega)])
      generalize l.getD k 0 = x at *
      clear hcs hb2
      go_wp2_with fail
      refine (writeHigh_at2 _ _ _ _ _ _ hx _ HR2.out (by rw [HLL.out]; omega) (by omega)).mono ?_
      rintro e w2 ⟨rfl, hb3, hs3, hr3⟩
      have HB3 := hid hb3
      have HS3 := hid hs3
      have HR3 := hid hr3
      clear hb3 hs3 hr3
      go_wp2
      go_roundw
      case rel => exact ⟨k + 1, by omega, by go_num, HB2.out.trans HB3.out, HS3.out.trans HZ.out, by rw [HO.out]; exact HR3.out⟩
      case measure => simp [intOf]; omega
    · go_wp2
      go_ret2
      have e : l.take k = l := List.take_of_length_le (by rw [HL.out]; omega)
      rw [e] at HR2
      rw [HL.out]
      exact ⟨rfl, HB2.out, HZ.out, HR2.out⟩

theorem writeHigh_at4 (g N cap p : Nat) (L : List Int) (v : Int) (hv : IsW v) (w : World) (hr : w.rowIs g 5 N (fun i => .int .u8 (L.getD i 0))) (hp : L.length = p) (hN : p + 4 ≤ N) :
    Calls Tryd.prog 32 #[.slice (some ⟨g, p, none⟩) 4 cap, .int .u64 v] w fun e w' => e = .returned (.tuple #[]) ∧ Below g w w' ∧ w'.heap.size = w.heap.size ∧
      w'.rowIs g 5 N (fun i => .int .u8 ((L ++ bytesBe 4 v).getD i 0)) := by
  subst hp; exact writeHigh_4 g N cap L v hv w hr hN

set_option maxHeartbeats 400000 in
theorem putBe_4 (a a2 : Option Addr) (cap cap2 : Nat) (b l : List Int) (w : World) (hb : b.length ≤ 140737488351232) (hl : l.length ≤ 1099511627776) (h : Bytes w a b) (h2 : Words w a2 l) (hf : fitsB 4 l = true) :
    Calls Tryd.prog 17 #[.slice a b.length cap, .int .i64 4, .slice a2 l.length cap2] w fun e w' => e = .returned (.tuple #[.slice (some ⟨w.heap.size, 0, none⟩) (b.length + 4 * l.length) (b.length + 4 * l.length), .int .i64 0]) ∧
      Below w.heap.size w w' ∧ w'.heap.size = w.heap.size + 1 ∧ w'.rowIs w.heap.size 5 (b.length + 4 * l.length) (fun i => .int .u8 ((outBe b 4 l).getD i 0)) := by
  have HF := hid hf
  have HB := hid h
  have HW := hid h2
  clear hf h h2
  obtain ⟨ll, hll⟩ : ∃ ll, l.length = ll := ⟨_, rfl⟩
  have HL := hid hll
  go_enter Tryd.func17, Tryd.ntmps17
  go_wp2_with fail
  refine (isWidth_any _ _).mono ?_
  rintro e w' ⟨rfl, rfl⟩
  rw [show widB 4 = true from rfl]
  go_wp2_with fail
  rw [← hll]
  clear hll
  refine (allFit_4 _ _ _ _ (by omega) HW.out).mono ?_
  rintro e w' ⟨rfl, rfl⟩
  rw [HF.out, HL.out]
  rw [HL.out] at hl
  go_wp2_with fail
  refine (grown_int _ _ _ _ (4 * ll) _ (by omega) (by omega) (by omega) HB.out).mono ?_
  rintro e w1 ⟨rfl, hb1, hs1, hr1⟩
  have HB1 := hid hb1
  have HS1 := hid hs1
  have HR1 := hid hr1
  clear hb1 hs1 hr1
  go_wp2
  go_loopw [29] (fun i wr => ∃ k : Nat, k ≤ ll ∧ i = .int .i64 k ∧ Below w'.heap.size w' wr ∧ wr.heap.size = w'.heap.size + 1 ∧ wr.rowIs w'.heap.size 5 (b.length + 4 * ll) (fun i => .int .u8 ((outBe b 4 (l.take k)).getD i 0))) (fun i _ => ll - (intOf i).toNat)
  case atStart => exact ⟨0, Nat.zero_le _, rfl, HB1.out, HS1.out, HR1.out.congr fun i _ => by simp [outBe]⟩
  case round =>
    obtain ⟨k, hk, rfl, hb2, hs2, hr2⟩ := hrel
    have HB2 := hid hb2
    have HZ := hid hs2
    have HR2 := hid hr2
    clear HB1 HS1 HR1 hs2 hr2
    by_cases hlt : k < ll
    · have hkl : k < l.length := by rw [HL.out]; exact hlt
      obtain ⟨b2, off2, rfl, hcs⟩ := (HW.out.later hb2).open_ (by omega)
      have hc := hcs k hkl
      have hx := mem_getD l IsW HW.out.isW k hkl
      have HO := hid (outBe_snoc b 4 l k hkl)
      have HLL := hid (show (outBe b 4 (l.take k)).length = b.length + 4 * k by rw [outBe_len, List.length_take, Nat.min_eq_left (by omega)])
      generalize l.getD k 0 = x at *
      clear hcs hb2
      go_wp2_with fail
      refine (writeHigh_at4 _ _ _ _ _ _ hx _ HR2.out (by rw [HLL.out]; omega) (by omega)).mono ?_
      rintro e w2 ⟨rfl, hb3, hs3, hr3⟩
      have HB3 := hid hb3
      have HS3 := hid hs3
      have HR3 := hid hr3
      clear hb3 hs3 hr3
      go_wp2
      go_roundw
      case rel => exact ⟨k + 1, by omega, by go_num, HB2.out.trans HB3.out, HS3.out.trans HZ.out, by rw [HO.out]; exact HR3.out⟩
      case measure => simp [intOf]; omega
    · go_wp2
      go_ret2
      have e : l.take k = l := List.take_of_length_le (by rw [HL.out]; omega)
      rw [e] at HR2
      rw [HL.out]
      exact ⟨rfl, HB2.out, HZ.out, HR2.out⟩

theorem writeHigh_at8 (g N cap p : Nat) (L : List Int) (v : Int) (hv : IsW v) (w : World) (hr : w.rowIs g 5 N (fun i => .int .u8 (L.getD i 0))) (hp : L.length = p) (hN : p + 8 ≤ N) :
    Calls Tryd.prog 32 #[.slice (some ⟨g, p, none⟩) 8 cap, .int .u64 v] w fun e w' => e = .returned (.tuple #[]) ∧ Below g w w' ∧ w'.heap.size = w.heap.size ∧
      w'.rowIs g 5 N (fun i => .int .u8 ((L ++ bytesBe 8 v).getD i 0)) := by
  subst hp; exact writeHigh_8 g N cap L v hv w hr hN

set_option maxHeartbeats 400000 in
theorem putBe_8 (a a2 : Option Addr) (cap cap2 : Nat) (b l : List Int) (w : World) (hb : b.length ≤ 140737488351232) (hl : l.length ≤ 1099511627776) (h : Bytes w a b) (h2 : Words w a2 l) (hf : fitsB 8 l = true) :
    Calls Tryd.prog 17 #[.slice a b.length cap, .int .i64 8, .slice a2 l.length cap2] w fun e w' => e = .returned (.tuple #[.slice (some ⟨w.heap.size, 0, none⟩) (b.length + 8 * l.length) (b.length + 8 * l.length), .int .i64 0]) ∧
      Below w.heap.size w w' ∧ w'.heap.size = w.heap.size + 1 ∧ w'.rowIs w.heap.size 5 (b.length + 8 * l.length) (fun i => .int .u8 ((outBe b 8 l).getD i 0)) := by
  have HF := hid hf
  have HB := hid h
  have HW := hid h2
  clear hf h h2
  obtain ⟨ll, hll⟩ : ∃ ll, l.length = ll := ⟨_, rfl⟩
  have HL := hid hll
  go_enter Tryd.func17, Tryd.ntmps17
  go_wp2_with fail
  refine (isWidth_any _ _).mono ?_
  rintro e w' ⟨rfl, rfl⟩
  rw [show widB 8 = true from rfl]
  go_wp2_with fail
  rw [← hll]
  clear hll
  refine (allFit_8 _ _ _ _ (by omega) HW.out).mono ?_
  rintro e w' ⟨rfl, rfl⟩
  rw [HF.out, HL.out]
  rw [HL.out] at hl
  go_wp2_with fail
  refine (grown_int _ _ _ _ (8 * ll) _ (by omega) (by omega) (by omega) HB.out).mono ?_
  rintro e w1 ⟨rfl, hb1, hs1, hr1⟩
  have HB1 := hid hb1
  have HS1 := hid hs1
  have HR1 := hid hr1
  clear hb1 hs1 hr1
  go_wp2
  go_loopw [29] (fun i wr => ∃ k : Nat, k ≤ ll ∧ i = .int .i64 k ∧ Below w'.heap.size w' wr ∧ wr.heap.size = w'.heap.size + 1 ∧ wr.rowIs w'.heap.size 5 (b.length + 8 * ll) (fun i => .int .u8 ((outBe b 8 (l.take k)).getD i 0))) (fun i _ => ll - (intOf i).toNat)
  case atStart => exact ⟨0, Nat.zero_le _, rfl, HB1.out, HS1.out, HR1.out.congr fun i _ => by simp [outBe]⟩
  case round =>
    obtain ⟨k, hk, rfl, hb2, hs2, hr2⟩ := hrel
    have HB2 := hid hb2
    have HZ := hid hs2
    have HR2 := hid hr2
    clear HB1 HS1 HR1 hs2 hr2
    by_cases hlt : k < ll
    · have hkl : k < l.length := by rw [HL.out]; exact hlt
      obtain ⟨b2, off2, rfl, hcs⟩ := (HW.out.later hb2).open_ (by omega)
      have hc := hcs k hkl
      have hx := mem_getD l IsW HW.out.isW k hkl
      have HO := hid (outBe_snoc b 8 l k hkl)
      have HLL := hid (show (outBe b 8 (l.take k)).length = b.length + 8 * k by rw [outBe_len, List.length_take, Nat.min_eq_left (by omega)])
      generalize l.getD k 0 = x at *
      clear hcs hb2
      go_wp2_with fail
      refine (writeHigh_at8 _ _ _ _ _ _ hx _ HR2.out (by rw [HLL.out]; omega) (by omega)).mono ?_
      rintro e w2 ⟨rfl, hb3, hs3, hr3⟩
      have HB3 := hid hb3
      have HS3 := hid hs3
      have HR3 := hid hr3
      clear hb3 hs3 hr3
      go_wp2
      go_roundw
      case rel => exact ⟨k + 1, by omega, by go_num, HB2.out.trans HB3.out, HS3.out.trans HZ.out, by rw [HO.out]; exact HR3.out⟩
      case measure => simp [intOf]; omega
    · go_wp2
      go_ret2
      have e : l.take k = l := List.take_of_length_le (by rw [HL.out]; omega)
      rw [e] at HR2
      rw [HL.out]
      exact ⟨rfl, HB2.out, HZ.out, HR2.out⟩

theorem putBe_yes (a a2 : Option Addr) (cap cap2 n : Nat) (b l : List Int) (w : World) (hb : b.length ≤ 140737488351232) (hl : l.length ≤ 1099511627776) (h : Bytes w a b) (h2 : Words w a2 l) (hn : widB n = true) (hf : fitsB n l = true) :
    Calls Tryd.prog 17 #[.slice a b.length cap, .int .i64 n, .slice a2 l.length cap2] w fun e w' => e = .returned (.tuple #[.slice (some ⟨w.heap.size, 0, none⟩) (b.length + n * l.length) (b.length + n * l.length), .int .i64 0]) ∧
      Below w.heap.size w w' ∧ w'.heap.size = w.heap.size + 1 ∧ w'.rowIs w.heap.size 5 (b.length + n * l.length) (fun i => .int .u8 ((outBe b n l).getD i 0)) := by
  have := widB_cases hn
  rcases (show n = 1 ∨ n = 2 ∨ n = 4 ∨ n = 8 by omega) with rfl | rfl | rfl | rfl
  · exact putBe_1 a a2 cap cap2 b l w hb hl h h2 hf
  · exact putBe_2 a a2 cap cap2 b l w hb hl h h2 hf
  · exact putBe_4 a a2 cap cap2 b l w hb hl h h2 hf
  · exact putBe_8 a a2 cap cap2 b l w hb hl h h2 hf

set_option maxHeartbeats 400000 in
theorem putBe_no (a a2 : Option Addr) (cap cap2 : Nat) (n : Int) (b l : List Int) (w : World) (hl : l.length ≤ 1099511627776) (h2 : Words w a2 l) (hf : (widB n && fitsB n l) = false) :
    Calls Tryd.prog 17 #[.slice a b.length cap, .int .i64 n, .slice a2 l.length cap2] w fun e w' => e = .returned (.tuple #[.slice none 0 0, .int .i64 1]) ∧ w' = w := by
  cases hn : widB n
  · have HN := hid hn
    clear hn hf h2
    go_enter Tryd.func17, Tryd.ntmps17
    go_wp2_with fail
    refine (isWidth_any _ _).mono ?_
    rintro e w' ⟨rfl, rfl⟩
    rw [HN.out]
    go_wp2
    go_ret2
    exact ⟨rfl, rfl⟩
  · have HN := hid hn
    have HF := hid (show fitsB n l = false by simpa [hn] using hf)
    have HW := hid h2
    clear hn hf h2
    go_enter Tryd.func17, Tryd.ntmps17
    go_wp2_with fail
    refine (isWidth_any _ _).mono ?_
    rintro e w' ⟨rfl, rfl⟩
    rw [HN.out]
    go_wp2_with fail
    refine (allFit_any _ _ _ _ _ (by omega) HN.out HW.out).mono ?_
    rintro e w' ⟨rfl, rfl⟩
    rw [HF.out]
    go_wp2
    go_ret2
    exact ⟨rfl, rfl⟩
end Go.Proofs.YtkmljnjikkmdhaaDoor
