import Derived.Test.YtkmljnjikkmdhaaDoorRows
import Derived.Test.YtkmljnjikkmdhaaDoorWalkK
import Derived.WalkKit
import Derived.WalkSpells
import Derived.WalkLawsBesides
import Derived.Deep.QuietTactic
import Derived.BigQuiet
/-
  The walk of the document's own put: refused where the width is none or a number needs more; else the bytes and behind them the numbers, in a slice of the call's own; nothing old is changed. Conditions: at most 2^47 - 4096 bytes, at most 10000 numbers.
-/
namespace Go.Proofs.YtkmljnjikkmdhaaDoor
open Go.RowKit
set_option linter.unusedVariables false

theorem take_le (n : Nat) (x : Int) (j : Nat) (h : j < n) : (bytesLe n x).take (j + 1) = (bytesLe n x).take j ++ [x / 256 ^ j % 256] := by
  rw [take_snoc _ j (by rw [len_le]; exact h), getD_le n x j h]
theorem take_be (n : Nat) (x : Int) (j : Nat) (h : j < n) : (bytesBe n x).take (j + 1) = (bytesBe n x).take j ++ [x / 256 ^ (n - 1 - j) % 256] := by
  rw [take_snoc _ j (by rw [len_be]; exact h), getD_be n x j h]
theorem own_to {w : World} {base : Nat} {v : Value} {l m : List Int} (h : Own w base v l) (e : l = m) : Own w base v m := by rw [← e]; exact h

set_option maxHeartbeats 1000000 in
theorem refPut_true_1 (a a2 : Option Addr) (cap cap2 : Nat) (b l : List Int) (w : World) (hb : b.length ≤ 140737488351232) (hl : l.length ≤ 10000) (h : Bytes w a b) (hnil : a = none → cap = 0) (h2 : Words w a2 l) :
    Calls Tryd.prog 33 #[.slice a b.length cap, .int .i64 1, .slice a2 l.length cap2, .bool true] w fun e w' =>
      (fitsB 1 l = false ∧ e = .returned (.tuple #[.slice none 0 0, .int .i64 1]) ∧ Below w.heap.size w w') ∨
      (fitsB 1 l = true ∧ ∃ v, e = .returned (.tuple #[v, .int .i64 0]) ∧ Below w.heap.size w w' ∧ Own w' w.heap.size v (outLe b 1 l)) := by
  have HB := hid h
  have HW := hid h2
  have HNil := hid hnil
  clear h h2 hnil
  obtain ⟨ll, hll⟩ : ∃ ll, l.length = ll := ⟨_, rfl⟩
  have HL := hid hll
  rw [hll] at hl ⊢
  clear hll
  go_enter Tryd.func33, Tryd.ntmps33
  go_wp2_with fail
  refine (size_any _ _).mono ?_
  rintro e w' ⟨rfl, rfl⟩
  rw [show widB 1 = true from rfl]
  go_wp2_with (at_builtin; refine wpList_append_bytes rfl (.tmp 17) (.tmp 18) rfl w'.heap.size _ [] b rfl (own_empty _) a cap rfl (HB.out.later ((Below.refl _ _).alloc (Nat.le_refl _) _)) HNil.out (by simp; omega) (by simp) w'.heap.size w' (Nat.le_refl _) ((Below.refl _ _).alloc (Nat.le_refl _) _) ?_; intro v1 w1 hv1 hb1)
  go_loopw [10, 11] (fun v i wr => ∃ k : Nat, k ≤ ll ∧ i = .int .i64 k ∧ Hid (fitsB 1 (l.take k) = true) ∧ Own wr w'.heap.size v (outLe b 1 (l.take k)) ∧ Below w'.heap.size w' wr) (fun _ i _ => ll - (intOf i).toNat)
  case atStart => exact ⟨0, Nat.zero_le _, rfl, hid rfl, own_to hv1.out (by simp [outLe]), hb1⟩
  case round =>
    obtain ⟨k, hk, rfl, hf, hown, hb2⟩ := hrel
    have HB2 := hid hb2
    clear hv1 hb1
    by_cases hlt : k < ll
    · have hkl : k < l.length := by rw [HL.out]; exact hlt
      obtain ⟨b2, off2, rfl, hcs⟩ := HW.out.open_ (by omega)
      have hx := mem_getD l IsW HW.out.isW k hkl
      obtain ⟨x, hxe⟩ : ∃ x, l.getD k 0 = x := ⟨_, rfl⟩
      have hcw : ∀ wx, Below w'.heap.size w' wx → wx.cell? ⟨b2, off2 + k, none⟩ = some (.int .u64 x) := fun wx hbx => cell_later hbx (by rw [← hxe]; exact hcs k hkl)
      have hc := hcw _ hb2
      rw [hxe] at hx
      unfold IsW at hx
      clear hcs hb2
      cases hb : fitB 1 x
      · have H1 := hid (fits_not 1 l k hkl (by rw [hxe]; exact hb))
        have ht : (x / 256 != 0) = true := by simp [fitB] at hb; simp [hb]
        clear hxe hb
        go_wp2
        go_ret2
        rw [H1.out]
        exact .inl ⟨rfl, rfl, HB2.out⟩
      · have H1 := hid (show fitsB 1 (l.take (k + 1)) = true by rw [fits_snoc 1 l k hkl, hf.out, hxe, hb]; rfl)
        have ht : (x / 256 != 0) = false := by simp [fitB] at hb; simp [hb]
        clear hb
        have HSn := hid (outLe_snoc b 1 l k hkl)
        rw [hxe] at HSn
        have HLen := hid (show (outLe b 1 (l.take k)).length ≤ b.length + 1 * 10000 by rw [outLe_len, List.length_take]; have := Nat.min_le_left k l.length; omega)
        obtain ⟨L, hLe⟩ : ∃ L, outLe b 1 (l.take k) = L := ⟨_, rfl⟩
        rw [hLe] at hown HSn HLen
        have HOwn := hid hown
        clear hxe hLe hown
        go_wp2
        go_loopw [10, 12, 13] (fun v q _ wr => ∃ j : Nat, j ≤ 1 ∧ q = .int .i64 j ∧ Hid (Own wr w'.heap.size v (L ++ (bytesLe 1 x).take j)) ∧ Below w'.heap.size w' wr) (fun _ q _ _ => 1 - (intOf q).toNat)
        case atStart => exact ⟨0, Nat.zero_le _, rfl, hid (own_to HOwn.out (by simp)), HB2.out⟩
        case round =>
          obtain ⟨j, hj, rfl, hown2, hb3⟩ := hrel
          have HB3 := hid hb3
          have hc3 := hcw _ hb3
          have hsz := Nat.le_trans (Nat.le_refl _) hb3.size
          clear HOwn HB2 hb3
          by_cases hjn : j < 1
          · have HT := hid (take_le 1 x j hjn)
            have HLB : (L ++ (bytesLe 1 x).take j).length + 1 ≤ 140737488455328 := by
              rw [List.length_append, List.length_take, len_le]
              have := HLen.out
              omega
            rcases (show j = 0 by omega) with rfl
            · go_wp2_with (at_builtin; refine wpList_append_one rfl (.tmp 51) (.tmp 59) rfl w'.heap.size _ _ rfl hown2.out rfl ?hy HLB hsz w' HB3.out ?_; rotate_left 1; intro v5 w5 hv5 hb5)
              case hy => unfold IsB; omega
              go_roundw
              case rel => exact ⟨0 + 1, by omega, by go_num, hid (own_to hv5.out (by rw [HT.out, List.append_assoc]; simp; try omega)), hb5⟩
              case measure => simp [intOf]
          · have : j = 1 := by omega
            subst this
            have hown3 := hid (own_to hown2.out (by rw [List.take_of_length_le (by rw [len_le]; omega)]))
            clear hown2
            go_wp2
            go_roundw
            case rel => exact ⟨k + 1, by omega, by go_num, H1, own_to hown3.out HSn.out.symm, HB3.out⟩
            case measure => simp [intOf]; omega
    · go_wp2
      go_ret2
      have e : l.take k = l := List.take_of_length_le (by rw [HL.out]; omega)
      rw [e] at hf hown
      exact .inr ⟨hf.out, _, rfl, HB2.out, hown⟩

set_option maxHeartbeats 1000000 in
theorem refPut_true_2 (a a2 : Option Addr) (cap cap2 : Nat) (b l : List Int) (w : World) (hb : b.length ≤ 140737488351232) (hl : l.length ≤ 10000) (h : Bytes w a b) (hnil : a = none → cap = 0) (h2 : Words w a2 l) :
    Calls Tryd.prog 33 #[.slice a b.length cap, .int .i64 2, .slice a2 l.length cap2, .bool true] w fun e w' =>
      (fitsB 2 l = false ∧ e = .returned (.tuple #[.slice none 0 0, .int .i64 1]) ∧ Below w.heap.size w w') ∨
      (fitsB 2 l = true ∧ ∃ v, e = .returned (.tuple #[v, .int .i64 0]) ∧ Below w.heap.size w w' ∧ Own w' w.heap.size v (outLe b 2 l)) := by
  have HB := hid h
  have HW := hid h2
  have HNil := hid hnil
  clear h h2 hnil
  obtain ⟨ll, hll⟩ : ∃ ll, l.length = ll := ⟨_, rfl⟩
  have HL := hid hll
  rw [hll] at hl ⊢
  clear hll
  go_enter Tryd.func33, Tryd.ntmps33
  go_wp2_with fail
  refine (size_any _ _).mono ?_
  rintro e w' ⟨rfl, rfl⟩
  rw [show widB 2 = true from rfl]
  go_wp2_with (at_builtin; refine wpList_append_bytes rfl (.tmp 17) (.tmp 18) rfl w'.heap.size _ [] b rfl (own_empty _) a cap rfl (HB.out.later ((Below.refl _ _).alloc (Nat.le_refl _) _)) HNil.out (by simp; omega) (by simp) w'.heap.size w' (Nat.le_refl _) ((Below.refl _ _).alloc (Nat.le_refl _) _) ?_; intro v1 w1 hv1 hb1)
  go_loopw [10, 11] (fun v i wr => ∃ k : Nat, k ≤ ll ∧ i = .int .i64 k ∧ Hid (fitsB 2 (l.take k) = true) ∧ Own wr w'.heap.size v (outLe b 2 (l.take k)) ∧ Below w'.heap.size w' wr) (fun _ i _ => ll - (intOf i).toNat)
  case atStart => exact ⟨0, Nat.zero_le _, rfl, hid rfl, own_to hv1.out (by simp [outLe]), hb1⟩
  case round =>
    obtain ⟨k, hk, rfl, hf, hown, hb2⟩ := hrel
    have HB2 := hid hb2
    clear hv1 hb1
    by_cases hlt : k < ll
    · have hkl : k < l.length := by rw [HL.out]; exact hlt
      obtain ⟨b2, off2, rfl, hcs⟩ := HW.out.open_ (by omega)
      have hx := mem_getD l IsW HW.out.isW k hkl
      obtain ⟨x, hxe⟩ : ∃ x, l.getD k 0 = x := ⟨_, rfl⟩
      have hcw : ∀ wx, Below w'.heap.size w' wx → wx.cell? ⟨b2, off2 + k, none⟩ = some (.int .u64 x) := fun wx hbx => cell_later hbx (by rw [← hxe]; exact hcs k hkl)
      have hc := hcw _ hb2
      rw [hxe] at hx
      unfold IsW at hx
      clear hcs hb2
      cases hb : fitB 2 x
      · have H1 := hid (fits_not 2 l k hkl (by rw [hxe]; exact hb))
        have ht : (x / 65536 != 0) = true := by simp [fitB] at hb; simp [hb]
        clear hxe hb
        go_wp2
        go_ret2
        rw [H1.out]
        exact .inl ⟨rfl, rfl, HB2.out⟩
      · have H1 := hid (show fitsB 2 (l.take (k + 1)) = true by rw [fits_snoc 2 l k hkl, hf.out, hxe, hb]; rfl)
        have ht : (x / 65536 != 0) = false := by simp [fitB] at hb; simp [hb]
        clear hb
        have HSn := hid (outLe_snoc b 2 l k hkl)
        rw [hxe] at HSn
        have HLen := hid (show (outLe b 2 (l.take k)).length ≤ b.length + 2 * 10000 by rw [outLe_len, List.length_take]; have := Nat.min_le_left k l.length; omega)
        obtain ⟨L, hLe⟩ : ∃ L, outLe b 2 (l.take k) = L := ⟨_, rfl⟩
        rw [hLe] at hown HSn HLen
        have HOwn := hid hown
        clear hxe hLe hown
        go_wp2
        go_loopw [10, 12, 13] (fun v q _ wr => ∃ j : Nat, j ≤ 2 ∧ q = .int .i64 j ∧ Hid (Own wr w'.heap.size v (L ++ (bytesLe 2 x).take j)) ∧ Below w'.heap.size w' wr) (fun _ q _ _ => 2 - (intOf q).toNat)
        case atStart => exact ⟨0, Nat.zero_le _, rfl, hid (own_to HOwn.out (by simp)), HB2.out⟩
        case round =>
          obtain ⟨j, hj, rfl, hown2, hb3⟩ := hrel
          have HB3 := hid hb3
          have hc3 := hcw _ hb3
          have hsz := Nat.le_trans (Nat.le_refl _) hb3.size
          clear HOwn HB2 hb3
          by_cases hjn : j < 2
          · have HT := hid (take_le 2 x j hjn)
            have HLB : (L ++ (bytesLe 2 x).take j).length + 1 ≤ 140737488455328 := by
              rw [List.length_append, List.length_take, len_le]
              have := HLen.out
              omega
            rcases (show j = 0 ∨ j = 1 by omega) with rfl | rfl
            · go_wp2_with (at_builtin; refine wpList_append_one rfl (.tmp 51) (.tmp 59) rfl w'.heap.size _ _ rfl hown2.out rfl ?hy HLB hsz w' HB3.out ?_; rotate_left 1; intro v5 w5 hv5 hb5)
              case hy => unfold IsB; omega
              go_roundw
              case rel => exact ⟨0 + 1, by omega, by go_num, hid (own_to hv5.out (by rw [HT.out, List.append_assoc]; simp; try omega)), hb5⟩
              case measure => simp [intOf]
            · go_wp2_with (at_builtin; refine wpList_append_one rfl (.tmp 51) (.tmp 59) rfl w'.heap.size _ _ rfl hown2.out rfl ?hy HLB hsz w' HB3.out ?_; rotate_left 1; intro v5 w5 hv5 hb5)
              case hy => unfold IsB; omega
              go_roundw
              case rel => exact ⟨1 + 1, by omega, by go_num, hid (own_to hv5.out (by rw [HT.out, List.append_assoc]; simp; try omega)), hb5⟩
              case measure => simp [intOf]
          · have : j = 2 := by omega
            subst this
            have hown3 := hid (own_to hown2.out (by rw [List.take_of_length_le (by rw [len_le]; omega)]))
            clear hown2
            go_wp2
            go_roundw
            case rel => exact ⟨k + 1, by omega, by go_num, H1, own_to hown3.out HSn.out.symm, HB3.out⟩
            case measure => simp [intOf]; omega
    · go_wp2
      go_ret2
      have e : l.take k = l := List.take_of_length_le (by rw [HL.out]; omega)
      rw [e] at hf hown
      exact .inr ⟨hf.out, _, rfl, HB2.out, hown⟩

set_option maxHeartbeats 1000000 in
theorem refPut_true_4 (a a2 : Option Addr) (cap cap2 : Nat) (b l : List Int) (w : World) (hb : b.length ≤ 140737488351232) (hl : l.length ≤ 10000) (h : Bytes w a b) (hnil : a = none → cap = 0) (h2 : Words w a2 l) :
    Calls Tryd.prog 33 #[.slice a b.length cap, .int .i64 4, .slice a2 l.length cap2, .bool true] w fun e w' =>
      (fitsB 4 l = false ∧ e = .returned (.tuple #[.slice none 0 0, .int .i64 1]) ∧ Below w.heap.size w w') ∨
      (fitsB 4 l = true ∧ ∃ v, e = .returned (.tuple #[v, .int .i64 0]) ∧ Below w.heap.size w w' ∧ Own w' w.heap.size v (outLe b 4 l)) := by
  have HB := hid h
  have HW := hid h2
  have HNil := hid hnil
  clear h h2 hnil
  obtain ⟨ll, hll⟩ : ∃ ll, l.length = ll := ⟨_, rfl⟩
  have HL := hid hll
  rw [hll] at hl ⊢
  clear hll
  go_enter Tryd.func33, Tryd.ntmps33
  go_wp2_with fail
  refine (size_any _ _).mono ?_
  rintro e w' ⟨rfl, rfl⟩
  rw [show widB 4 = true from rfl]
  go_wp2_with (at_builtin; refine wpList_append_bytes rfl (.tmp 17) (.tmp 18) rfl w'.heap.size _ [] b rfl (own_empty _) a cap rfl (HB.out.later ((Below.refl _ _).alloc (Nat.le_refl _) _)) HNil.out (by simp; omega) (by simp) w'.heap.size w' (Nat.le_refl _) ((Below.refl _ _).alloc (Nat.le_refl _) _) ?_; intro v1 w1 hv1 hb1)
  go_loopw [10, 11] (fun v i wr => ∃ k : Nat, k ≤ ll ∧ i = .int .i64 k ∧ Hid (fitsB 4 (l.take k) = true) ∧ Own wr w'.heap.size v (outLe b 4 (l.take k)) ∧ Below w'.heap.size w' wr) (fun _ i _ => ll - (intOf i).toNat)
  case atStart => exact ⟨0, Nat.zero_le _, rfl, hid rfl, own_to hv1.out (by simp [outLe]), hb1⟩
  case round =>
    obtain ⟨k, hk, rfl, hf, hown, hb2⟩ := hrel
    have HB2 := hid hb2
    clear hv1 hb1
    by_cases hlt : k < ll
    · have hkl : k < l.length := by rw [HL.out]; exact hlt
      obtain ⟨b2, off2, rfl, hcs⟩ := HW.out.open_ (by omega)
      have hx := mem_getD l IsW HW.out.isW k hkl
      obtain ⟨x, hxe⟩ : ∃ x, l.getD k 0 = x := ⟨_, rfl⟩
      have hcw : ∀ wx, Below w'.heap.size w' wx → wx.cell? ⟨b2, off2 + k, none⟩ = some (.int .u64 x) := fun wx hbx => cell_later hbx (by rw [← hxe]; exact hcs k hkl)
      have hc := hcw _ hb2
      rw [hxe] at hx
      unfold IsW at hx
      clear hcs hb2
      cases hb : fitB 4 x
      · have H1 := hid (fits_not 4 l k hkl (by rw [hxe]; exact hb))
        have ht : (x / 4294967296 != 0) = true := by simp [fitB] at hb; simp [hb]
        clear hxe hb
        go_wp2
        go_ret2
        rw [H1.out]
        exact .inl ⟨rfl, rfl, HB2.out⟩
      · have H1 := hid (show fitsB 4 (l.take (k + 1)) = true by rw [fits_snoc 4 l k hkl, hf.out, hxe, hb]; rfl)
        have ht : (x / 4294967296 != 0) = false := by simp [fitB] at hb; simp [hb]
        clear hb
        have HSn := hid (outLe_snoc b 4 l k hkl)
        rw [hxe] at HSn
        have HLen := hid (show (outLe b 4 (l.take k)).length ≤ b.length + 4 * 10000 by rw [outLe_len, List.length_take]; have := Nat.min_le_left k l.length; omega)
        obtain ⟨L, hLe⟩ : ∃ L, outLe b 4 (l.take k) = L := ⟨_, rfl⟩
        rw [hLe] at hown HSn HLen
        have HOwn := hid hown
        clear hxe hLe hown
        go_wp2
        go_loopw [10, 12, 13] (fun v q _ wr => ∃ j : Nat, j ≤ 4 ∧ q = .int .i64 j ∧ Hid (Own wr w'.heap.size v (L ++ (bytesLe 4 x).take j)) ∧ Below w'.heap.size w' wr) (fun _ q _ _ => 4 - (intOf q).toNat)
        case atStart => exact ⟨0, Nat.zero_le _, rfl, hid (own_to HOwn.out (by simp)), HB2.out⟩
        case round =>
          obtain ⟨j, hj, rfl, hown2, hb3⟩ := hrel
          have HB3 := hid hb3
          have hc3 := hcw _ hb3
          have hsz := Nat.le_trans (Nat.le_refl _) hb3.size
          clear HOwn HB2 hb3
          by_cases hjn : j < 4
          · have HT := hid (take_le 4 x j hjn)
            have HLB : (L ++ (bytesLe 4 x).take j).length + 1 ≤ 140737488455328 := by
              rw [List.length_append, List.length_take, len_le]
              have := HLen.out
              omega
            rcases (show j = 0 ∨ j = 1 ∨ j = 2 ∨ j = 3 by omega) with rfl | rfl | rfl | rfl
            · go_wp2_with (at_builtin; refine wpList_append_one rfl (.tmp 51) (.tmp 59) rfl w'.heap.size _ _ rfl hown2.out rfl ?hy HLB hsz w' HB3.out ?_; rotate_left 1; intro v5 w5 hv5 hb5)
              case hy => unfold IsB; omega
              go_roundw
              case rel => exact ⟨0 + 1, by omega, by go_num, hid (own_to hv5.out (by rw [HT.out, List.append_assoc]; simp; try omega)), hb5⟩
              case measure => simp [intOf]
            · go_wp2_with (at_builtin; refine wpList_append_one rfl (.tmp 51) (.tmp 59) rfl w'.heap.size _ _ rfl hown2.out rfl ?hy HLB hsz w' HB3.out ?_; rotate_left 1; intro v5 w5 hv5 hb5)
              case hy => unfold IsB; omega
              go_roundw
              case rel => exact ⟨1 + 1, by omega, by go_num, hid (own_to hv5.out (by rw [HT.out, List.append_assoc]; simp; try omega)), hb5⟩
              case measure => simp [intOf]
            · go_wp2_with (at_builtin; refine wpList_append_one rfl (.tmp 51) (.tmp 59) rfl w'.heap.size _ _ rfl hown2.out rfl ?hy HLB hsz w' HB3.out ?_; rotate_left 1; intro v5 w5 hv5 hb5)
              case hy => unfold IsB; omega
              go_roundw
              case rel => exact ⟨2 + 1, by omega, by go_num, hid (own_to hv5.out (by rw [HT.out, List.append_assoc]; simp; try omega)), hb5⟩
              case measure => simp [intOf]
            · go_wp2_with (at_builtin; refine wpList_append_one rfl (.tmp 51) (.tmp 59) rfl w'.heap.size _ _ rfl hown2.out rfl ?hy HLB hsz w' HB3.out ?_; rotate_left 1; intro v5 w5 hv5 hb5)
              case hy => unfold IsB; omega
              go_roundw
              case rel => exact ⟨3 + 1, by omega, by go_num, hid (own_to hv5.out (by rw [HT.out, List.append_assoc]; simp; try omega)), hb5⟩
              case measure => simp [intOf]
          · have : j = 4 := by omega
            subst this
            have hown3 := hid (own_to hown2.out (by rw [List.take_of_length_le (by rw [len_le]; omega)]))
            clear hown2
            go_wp2
            go_roundw
            case rel => exact ⟨k + 1, by omega, by go_num, H1, own_to hown3.out HSn.out.symm, HB3.out⟩
            case measure => simp [intOf]; omega
    · go_wp2
      go_ret2
      have e : l.take k = l := List.take_of_length_le (by rw [HL.out]; omega)
      rw [e] at hf hown
      exact .inr ⟨hf.out, _, rfl, HB2.out, hown⟩

set_option maxHeartbeats 1000000 in
theorem refPut_true_8 (a a2 : Option Addr) (cap cap2 : Nat) (b l : List Int) (w : World) (hb : b.length ≤ 140737488351232) (hl : l.length ≤ 10000) (h : Bytes w a b) (hnil : a = none → cap = 0) (h2 : Words w a2 l) :
    Calls Tryd.prog 33 #[.slice a b.length cap, .int .i64 8, .slice a2 l.length cap2, .bool true] w fun e w' =>
      (fitsB 8 l = false ∧ e = .returned (.tuple #[.slice none 0 0, .int .i64 1]) ∧ Below w.heap.size w w') ∨
      (fitsB 8 l = true ∧ ∃ v, e = .returned (.tuple #[v, .int .i64 0]) ∧ Below w.heap.size w w' ∧ Own w' w.heap.size v (outLe b 8 l)) := by
  have HB := hid h
  have HW := hid h2
  have HNil := hid hnil
  clear h h2 hnil
  obtain ⟨ll, hll⟩ : ∃ ll, l.length = ll := ⟨_, rfl⟩
  have HL := hid hll
  rw [hll] at hl ⊢
  clear hll
  go_enter Tryd.func33, Tryd.ntmps33
  go_wp2_with fail
  refine (size_any _ _).mono ?_
  rintro e w' ⟨rfl, rfl⟩
  rw [show widB 8 = true from rfl]
  go_wp2_with (at_builtin; refine wpList_append_bytes rfl (.tmp 17) (.tmp 18) rfl w'.heap.size _ [] b rfl (own_empty _) a cap rfl (HB.out.later ((Below.refl _ _).alloc (Nat.le_refl _) _)) HNil.out (by simp; omega) (by simp) w'.heap.size w' (Nat.le_refl _) ((Below.refl _ _).alloc (Nat.le_refl _) _) ?_; intro v1 w1 hv1 hb1)
  go_loopw [10, 11] (fun v i wr => ∃ k : Nat, k ≤ ll ∧ i = .int .i64 k ∧ Hid (fitsB 8 (l.take k) = true) ∧ Own wr w'.heap.size v (outLe b 8 (l.take k)) ∧ Below w'.heap.size w' wr) (fun _ i _ => ll - (intOf i).toNat)
  case atStart => exact ⟨0, Nat.zero_le _, rfl, hid rfl, own_to hv1.out (by simp [outLe]), hb1⟩
  case round =>
    obtain ⟨k, hk, rfl, hf, hown, hb2⟩ := hrel
    have HB2 := hid hb2
    clear hv1 hb1
    by_cases hlt : k < ll
    · have hkl : k < l.length := by rw [HL.out]; exact hlt
      obtain ⟨b2, off2, rfl, hcs⟩ := HW.out.open_ (by omega)
      have hx := mem_getD l IsW HW.out.isW k hkl
      obtain ⟨x, hxe⟩ : ∃ x, l.getD k 0 = x := ⟨_, rfl⟩
      have hcw : ∀ wx, Below w'.heap.size w' wx → wx.cell? ⟨b2, off2 + k, none⟩ = some (.int .u64 x) := fun wx hbx => cell_later hbx (by rw [← hxe]; exact hcs k hkl)
      have hc := hcw _ hb2
      rw [hxe] at hx
      unfold IsW at hx
      clear hcs hb2
      have hb : fitB 8 x = true := by
        have h0 : x / 18446744073709551616 = 0 := by omega
        simp [fitB, h0]
      have H1 := hid (show fitsB 8 (l.take (k + 1)) = true by rw [fits_snoc 8 l k hkl, hf.out, hxe, hb]; rfl)
      clear hb
      have HSn := hid (outLe_snoc b 8 l k hkl)
      rw [hxe] at HSn
      have HLen := hid (show (outLe b 8 (l.take k)).length ≤ b.length + 8 * 10000 by rw [outLe_len, List.length_take]; have := Nat.min_le_left k l.length; omega)
      obtain ⟨L, hLe⟩ : ∃ L, outLe b 8 (l.take k) = L := ⟨_, rfl⟩
      rw [hLe] at hown HSn HLen
      have HOwn := hid hown
      clear hxe hLe hown
      go_wp2
      go_loopw [10, 12, 13] (fun v q _ wr => ∃ j : Nat, j ≤ 8 ∧ q = .int .i64 j ∧ Hid (Own wr w'.heap.size v (L ++ (bytesLe 8 x).take j)) ∧ Below w'.heap.size w' wr) (fun _ q _ _ => 8 - (intOf q).toNat)
      case atStart => exact ⟨0, Nat.zero_le _, rfl, hid (own_to HOwn.out (by simp)), HB2.out⟩
      case round =>
        obtain ⟨j, hj, rfl, hown2, hb3⟩ := hrel
        have HB3 := hid hb3
        have hc3 := hcw _ hb3
        have hsz := Nat.le_trans (Nat.le_refl _) hb3.size
        clear HOwn HB2 hb3
        by_cases hjn : j < 8
        · have HT := hid (take_le 8 x j hjn)
          have HLB : (L ++ (bytesLe 8 x).take j).length + 1 ≤ 140737488455328 := by
            rw [List.length_append, List.length_take, len_le]
            have := HLen.out
            omega
          rcases (show j = 0 ∨ j = 1 ∨ j = 2 ∨ j = 3 ∨ j = 4 ∨ j = 5 ∨ j = 6 ∨ j = 7 by omega) with rfl | rfl | rfl | rfl | rfl | rfl | rfl | rfl
          · go_wp2_with (at_builtin; refine wpList_append_one rfl (.tmp 51) (.tmp 59) rfl w'.heap.size _ _ rfl hown2.out rfl ?hy HLB hsz w' HB3.out ?_; rotate_left 1; intro v5 w5 hv5 hb5)
            case hy => unfold IsB; omega
            go_roundw
            case rel => exact ⟨0 + 1, by omega, by go_num, hid (own_to hv5.out (by rw [HT.out, List.append_assoc]; simp; try omega)), hb5⟩
            case measure => simp [intOf]
          · go_wp2_with (at_builtin; refine wpList_append_one rfl (.tmp 51) (.tmp 59) rfl w'.heap.size _ _ rfl hown2.out rfl ?hy HLB hsz w' HB3.out ?_; rotate_left 1; intro v5 w5 hv5 hb5)
            case hy => unfold IsB; omega
            go_roundw
            case rel => exact ⟨1 + 1, by omega, by go_num, hid (own_to hv5.out (by rw [HT.out, List.append_assoc]; simp; try omega)), hb5⟩
            case measure => simp [intOf]
          · go_wp2_with (at_builtin; refine wpList_append_one rfl (.tmp 51) (.tmp 59) rfl w'.heap.size _ _ rfl hown2.out rfl ?hy HLB hsz w' HB3.out ?_; rotate_left 1; intro v5 w5 hv5 hb5)
            case hy => unfold IsB; omega
            go_roundw
            case rel => exact ⟨2 + 1, by omega, by go_num, hid (own_to hv5.out (by rw [HT.out, List.append_assoc]; simp; try omega)), hb5⟩
            case measure => simp [intOf]
          · go_wp2_with (at_builtin; refine wpList_append_one rfl (.tmp 51) (.tmp 59) rfl w'.heap.size _ _ rfl hown2.out rfl ?hy HLB hsz w' HB3.out ?_; rotate_left 1; intro v5 w5 hv5 hb5)
            case hy => unfold IsB; omega
            go_roundw
            case rel => exact ⟨3 + 1, by omega, by go_num, hid (own_to hv5.out (by rw [HT.out, List.append_assoc]; simp; try omega)), hb5⟩
            case measure => simp [intOf]
          · go_wp2_with (at_builtin; refine wpList_append_one rfl (.tmp 51) (.tmp 59) rfl w'.heap.size _ _ rfl hown2.out rfl ?hy HLB hsz w' HB3.out ?_; rotate_left 1; intro v5 w5 hv5 hb5)
            case hy => unfold IsB; omega
            go_roundw
            case rel => exact ⟨4 + 1, by omega, by go_num, hid (own_to hv5.out (by rw [HT.out, List.append_assoc]; simp; try omega)), hb5⟩
            case measure => simp [intOf]
          · go_wp2_with (at_builtin; refine wpList_append_one rfl (.tmp 51) (.tmp 59) rfl w'.heap.size _ _ rfl hown2.out rfl ?hy HLB hsz w' HB3.out ?_; rotate_left 1; intro v5 w5 hv5 hb5)
            case hy => unfold IsB; omega
            go_roundw
            case rel => exact ⟨5 + 1, by omega, by go_num, hid (own_to hv5.out (by rw [HT.out, List.append_assoc]; simp; try omega)), hb5⟩
            case measure => simp [intOf]
          · go_wp2_with (at_builtin; refine wpList_append_one rfl (.tmp 51) (.tmp 59) rfl w'.heap.size _ _ rfl hown2.out rfl ?hy HLB hsz w' HB3.out ?_; rotate_left 1; intro v5 w5 hv5 hb5)
            case hy => unfold IsB; omega
            go_roundw
            case rel => exact ⟨6 + 1, by omega, by go_num, hid (own_to hv5.out (by rw [HT.out, List.append_assoc]; simp; try omega)), hb5⟩
            case measure => simp [intOf]
          · go_wp2_with (at_builtin; refine wpList_append_one rfl (.tmp 51) (.tmp 59) rfl w'.heap.size _ _ rfl hown2.out rfl ?hy HLB hsz w' HB3.out ?_; rotate_left 1; intro v5 w5 hv5 hb5)
            case hy => unfold IsB; omega
            go_roundw
            case rel => exact ⟨7 + 1, by omega, by go_num, hid (own_to hv5.out (by rw [HT.out, List.append_assoc]; simp; try omega)), hb5⟩
            case measure => simp [intOf]
        · have : j = 8 := by omega
          subst this
          have hown3 := hid (own_to hown2.out (by rw [List.take_of_length_le (by rw [len_le]; omega)]))
          clear hown2
          go_wp2
          go_roundw
          case rel => exact ⟨k + 1, by omega, by go_num, H1, own_to hown3.out HSn.out.symm, HB3.out⟩
          case measure => simp [intOf]; omega
    · go_wp2
      go_ret2
      have e : l.take k = l := List.take_of_length_le (by rw [HL.out]; omega)
      rw [e] at hf hown
      exact .inr ⟨hf.out, _, rfl, HB2.out, hown⟩

set_option maxHeartbeats 1000000 in
theorem refPut_false_1 (a a2 : Option Addr) (cap cap2 : Nat) (b l : List Int) (w : World) (hb : b.length ≤ 140737488351232) (hl : l.length ≤ 10000) (h : Bytes w a b) (hnil : a = none → cap = 0) (h2 : Words w a2 l) :
    Calls Tryd.prog 33 #[.slice a b.length cap, .int .i64 1, .slice a2 l.length cap2, .bool false] w fun e w' =>
      (fitsB 1 l = false ∧ e = .returned (.tuple #[.slice none 0 0, .int .i64 1]) ∧ Below w.heap.size w w') ∨
      (fitsB 1 l = true ∧ ∃ v, e = .returned (.tuple #[v, .int .i64 0]) ∧ Below w.heap.size w w' ∧ Own w' w.heap.size v (outBe b 1 l)) := by
  have HB := hid h
  have HW := hid h2
  have HNil := hid hnil
  clear h h2 hnil
  obtain ⟨ll, hll⟩ : ∃ ll, l.length = ll := ⟨_, rfl⟩
  have HL := hid hll
  rw [hll] at hl ⊢
  clear hll
  go_enter Tryd.func33, Tryd.ntmps33
  go_wp2_with fail
  refine (size_any _ _).mono ?_
  rintro e w' ⟨rfl, rfl⟩
  rw [show widB 1 = true from rfl]
  go_wp2_with (at_builtin; refine wpList_append_bytes rfl (.tmp 17) (.tmp 18) rfl w'.heap.size _ [] b rfl (own_empty _) a cap rfl (HB.out.later ((Below.refl _ _).alloc (Nat.le_refl _) _)) HNil.out (by simp; omega) (by simp) w'.heap.size w' (Nat.le_refl _) ((Below.refl _ _).alloc (Nat.le_refl _) _) ?_; intro v1 w1 hv1 hb1)
  go_loopw [10, 11] (fun v i wr => ∃ k : Nat, k ≤ ll ∧ i = .int .i64 k ∧ Hid (fitsB 1 (l.take k) = true) ∧ Own wr w'.heap.size v (outBe b 1 (l.take k)) ∧ Below w'.heap.size w' wr) (fun _ i _ => ll - (intOf i).toNat)
  case atStart => exact ⟨0, Nat.zero_le _, rfl, hid rfl, own_to hv1.out (by simp [outBe]), hb1⟩
  case round =>
    obtain ⟨k, hk, rfl, hf, hown, hb2⟩ := hrel
    have HB2 := hid hb2
    clear hv1 hb1
    by_cases hlt : k < ll
    · have hkl : k < l.length := by rw [HL.out]; exact hlt
      obtain ⟨b2, off2, rfl, hcs⟩ := HW.out.open_ (by omega)
      have hx := mem_getD l IsW HW.out.isW k hkl
      obtain ⟨x, hxe⟩ : ∃ x, l.getD k 0 = x := ⟨_, rfl⟩
      have hcw : ∀ wx, Below w'.heap.size w' wx → wx.cell? ⟨b2, off2 + k, none⟩ = some (.int .u64 x) := fun wx hbx => cell_later hbx (by rw [← hxe]; exact hcs k hkl)
      have hc := hcw _ hb2
      rw [hxe] at hx
      unfold IsW at hx
      clear hcs hb2
      cases hb : fitB 1 x
      · have H1 := hid (fits_not 1 l k hkl (by rw [hxe]; exact hb))
        have ht : (x / 256 != 0) = true := by simp [fitB] at hb; simp [hb]
        clear hxe hb
        go_wp2
        go_ret2
        rw [H1.out]
        exact .inl ⟨rfl, rfl, HB2.out⟩
      · have H1 := hid (show fitsB 1 (l.take (k + 1)) = true by rw [fits_snoc 1 l k hkl, hf.out, hxe, hb]; rfl)
        have ht : (x / 256 != 0) = false := by simp [fitB] at hb; simp [hb]
        clear hb
        have HSn := hid (outBe_snoc b 1 l k hkl)
        rw [hxe] at HSn
        have HLen := hid (show (outBe b 1 (l.take k)).length ≤ b.length + 1 * 10000 by rw [outBe_len, List.length_take]; have := Nat.min_le_left k l.length; omega)
        obtain ⟨L, hLe⟩ : ∃ L, outBe b 1 (l.take k) = L := ⟨_, rfl⟩
        rw [hLe] at hown HSn HLen
        have HOwn := hid hown
        clear hxe hLe hown
        go_wp2
        go_loopw [10, 12, 13] (fun v q _ wr => ∃ j : Nat, j ≤ 1 ∧ q = .int .i64 j ∧ Hid (Own wr w'.heap.size v (L ++ (bytesBe 1 x).take j)) ∧ Below w'.heap.size w' wr) (fun _ q _ _ => 1 - (intOf q).toNat)
        case atStart => exact ⟨0, Nat.zero_le _, rfl, hid (own_to HOwn.out (by simp)), HB2.out⟩
        case round =>
          obtain ⟨j, hj, rfl, hown2, hb3⟩ := hrel
          have HB3 := hid hb3
          have hc3 := hcw _ hb3
          have hsz := Nat.le_trans (Nat.le_refl _) hb3.size
          clear HOwn HB2 hb3
          by_cases hjn : j < 1
          · have HT := hid (take_be 1 x j hjn)
            have HLB : (L ++ (bytesBe 1 x).take j).length + 1 ≤ 140737488455328 := by
              rw [List.length_append, List.length_take, len_be]
              have := HLen.out
              omega
            rcases (show j = 0 by omega) with rfl
            · go_wp2_with (at_builtin; refine wpList_append_one rfl (.tmp 51) (.tmp 59) rfl w'.heap.size _ _ rfl hown2.out rfl ?hy HLB hsz w' HB3.out ?_; rotate_left 1; intro v5 w5 hv5 hb5)
              case hy => unfold IsB; omega
              go_roundw
              case rel => exact ⟨0 + 1, by omega, by go_num, hid (own_to hv5.out (by rw [HT.out, List.append_assoc]; simp; try omega)), hb5⟩
              case measure => simp [intOf]
          · have : j = 1 := by omega
            subst this
            have hown3 := hid (own_to hown2.out (by rw [List.take_of_length_le (by rw [len_be]; omega)]))
            clear hown2
            go_wp2
            go_roundw
            case rel => exact ⟨k + 1, by omega, by go_num, H1, own_to hown3.out HSn.out.symm, HB3.out⟩
            case measure => simp [intOf]; omega
    · go_wp2
      go_ret2
      have e : l.take k = l := List.take_of_length_le (by rw [HL.out]; omega)
      rw [e] at hf hown
      exact .inr ⟨hf.out, _, rfl, HB2.out, hown⟩

set_option maxHeartbeats 1000000 in
theorem refPut_false_2 (a a2 : Option Addr) (cap cap2 : Nat) (b l : List Int) (w : World) (hb : b.length ≤ 140737488351232) (hl : l.length ≤ 10000) (h : Bytes w a b) (hnil : a = none → cap = 0) (h2 : Words w a2 l) :
    Calls Tryd.prog 33 #[.slice a b.length cap, .int .i64 2, .slice a2 l.length cap2, .bool false] w fun e w' =>
      (fitsB 2 l = false ∧ e = .returned (.tuple #[.slice none 0 0, .int .i64 1]) ∧ Below w.heap.size w w') ∨
      (fitsB 2 l = true ∧ ∃ v, e = .returned (.tuple #[v, .int .i64 0]) ∧ Below w.heap.size w w' ∧ Own w' w.heap.size v (outBe b 2 l)) := by
  have HB := hid h
  have HW := hid h2
  have HNil := hid hnil
  clear h h2 hnil
  obtain ⟨ll, hll⟩ : ∃ ll, l.length = ll := ⟨_, rfl⟩
  have HL := hid hll
  rw [hll] at hl ⊢
  clear hll
  go_enter Tryd.func33, Tryd.ntmps33
  go_wp2_with fail
  refine (size_any _ _).mono ?_
  rintro e w' ⟨rfl, rfl⟩
  rw [show widB 2 = true from rfl]
  go_wp2_with (at_builtin; refine wpList_append_bytes rfl (.tmp 17) (.tmp 18) rfl w'.heap.size _ [] b rfl (own_empty _) a cap rfl (HB.out.later ((Below.refl _ _).alloc (Nat.le_refl _) _)) HNil.out (by simp; omega) (by simp) w'.heap.size w' (Nat.le_refl _) ((Below.refl _ _).alloc (Nat.le_refl _) _) ?_; intro v1 w1 hv1 hb1)
  go_loopw [10, 11] (fun v i wr => ∃ k : Nat, k ≤ ll ∧ i = .int .i64 k ∧ Hid (fitsB 2 (l.take k) = true) ∧ Own wr w'.heap.size v (outBe b 2 (l.take k)) ∧ Below w'.heap.size w' wr) (fun _ i _ => ll - (intOf i).toNat)
  case atStart => exact ⟨0, Nat.zero_le _, rfl, hid rfl, own_to hv1.out (by simp [outBe]), hb1⟩
  case round =>
    obtain ⟨k, hk, rfl, hf, hown, hb2⟩ := hrel
    have HB2 := hid hb2
    clear hv1 hb1
    by_cases hlt : k < ll
    · have hkl : k < l.length := by rw [HL.out]; exact hlt
      obtain ⟨b2, off2, rfl, hcs⟩ := HW.out.open_ (by omega)
      have hx := mem_getD l IsW HW.out.isW k hkl
      obtain ⟨x, hxe⟩ : ∃ x, l.getD k 0 = x := ⟨_, rfl⟩
      have hcw : ∀ wx, Below w'.heap.size w' wx → wx.cell? ⟨b2, off2 + k, none⟩ = some (.int .u64 x) := fun wx hbx => cell_later hbx (by rw [← hxe]; exact hcs k hkl)
      have hc := hcw _ hb2
      rw [hxe] at hx
      unfold IsW at hx
      clear hcs hb2
      cases hb : fitB 2 x
      · have H1 := hid (fits_not 2 l k hkl (by rw [hxe]; exact hb))
        have ht : (x / 65536 != 0) = true := by simp [fitB] at hb; simp [hb]
        clear hxe hb
        go_wp2
        go_ret2
        rw [H1.out]
        exact .inl ⟨rfl, rfl, HB2.out⟩
      · have H1 := hid (show fitsB 2 (l.take (k + 1)) = true by rw [fits_snoc 2 l k hkl, hf.out, hxe, hb]; rfl)
        have ht : (x / 65536 != 0) = false := by simp [fitB] at hb; simp [hb]
        clear hb
        have HSn := hid (outBe_snoc b 2 l k hkl)
        rw [hxe] at HSn
        have HLen := hid (show (outBe b 2 (l.take k)).length ≤ b.length + 2 * 10000 by rw [outBe_len, List.length_take]; have := Nat.min_le_left k l.length; omega)
        obtain ⟨L, hLe⟩ : ∃ L, outBe b 2 (l.take k) = L := ⟨_, rfl⟩
        rw [hLe] at hown HSn HLen
        have HOwn := hid hown
        clear hxe hLe hown
        go_wp2
        go_loopw [10, 12, 13] (fun v q _ wr => ∃ j : Nat, j ≤ 2 ∧ q = .int .i64 j ∧ Hid (Own wr w'.heap.size v (L ++ (bytesBe 2 x).take j)) ∧ Below w'.heap.size w' wr) (fun _ q _ _ => 2 - (intOf q).toNat)
        case atStart => exact ⟨0, Nat.zero_le _, rfl, hid (own_to HOwn.out (by simp)), HB2.out⟩
        case round =>
          obtain ⟨j, hj, rfl, hown2, hb3⟩ := hrel
          have HB3 := hid hb3
          have hc3 := hcw _ hb3
          have hsz := Nat.le_trans (Nat.le_refl _) hb3.size
          clear HOwn HB2 hb3
          by_cases hjn : j < 2
          · have HT := hid (take_be 2 x j hjn)
            have HLB : (L ++ (bytesBe 2 x).take j).length + 1 ≤ 140737488455328 := by
              rw [List.length_append, List.length_take, len_be]
              have := HLen.out
              omega
            rcases (show j = 0 ∨ j = 1 by omega) with rfl | rfl
            · go_wp2_with (at_builtin; refine wpList_append_one rfl (.tmp 51) (.tmp 59) rfl w'.heap.size _ _ rfl hown2.out rfl ?hy HLB hsz w' HB3.out ?_; rotate_left 1; intro v5 w5 hv5 hb5)
              case hy => unfold IsB; omega
              go_roundw
              case rel => exact ⟨0 + 1, by omega, by go_num, hid (own_to hv5.out (by rw [HT.out, List.append_assoc]; simp; try omega)), hb5⟩
              case measure => simp [intOf]
            · go_wp2_with (at_builtin; refine wpList_append_one rfl (.tmp 51) (.tmp 59) rfl w'.heap.size _ _ rfl hown2.out rfl ?hy HLB hsz w' HB3.out ?_; rotate_left 1; intro v5 w5 hv5 hb5)
              case hy => unfold IsB; omega
              go_roundw
              case rel => exact ⟨1 + 1, by omega, by go_num, hid (own_to hv5.out (by rw [HT.out, List.append_assoc]; simp; try omega)), hb5⟩
              case measure => simp [intOf]
          · have : j = 2 := by omega
            subst this
            have hown3 := hid (own_to hown2.out (by rw [List.take_of_length_le (by rw [len_be]; omega)]))
            clear hown2
            go_wp2
            go_roundw
            case rel => exact ⟨k + 1, by omega, by go_num, H1, own_to hown3.out HSn.out.symm, HB3.out⟩
            case measure => simp [intOf]; omega
    · go_wp2
      go_ret2
      have e : l.take k = l := List.take_of_length_le (by rw [HL.out]; omega)
      rw [e] at hf hown
      exact .inr ⟨hf.out, _, rfl, HB2.out, hown⟩

set_option maxHeartbeats 1000000 in
theorem refPut_false_4 (a a2 : Option Addr) (cap cap2 : Nat) (b l : List Int) (w : World) (hb : b.length ≤ 140737488351232) (hl : l.length ≤ 10000) (h : Bytes w a b) (hnil : a = none → cap = 0) (h2 : Words w a2 l) :
    Calls Tryd.prog 33 #[.slice a b.length cap, .int .i64 4, .slice a2 l.length cap2, .bool false] w fun e w' =>
      (fitsB 4 l = false ∧ e = .returned (.tuple #[.slice none 0 0, .int .i64 1]) ∧ Below w.heap.size w w') ∨
      (fitsB 4 l = true ∧ ∃ v, e = .returned (.tuple #[v, .int .i64 0]) ∧ Below w.heap.size w w' ∧ Own w' w.heap.size v (outBe b 4 l)) := by
  have HB := hid h
  have HW := hid h2
  have HNil := hid hnil
  clear h h2 hnil
  obtain ⟨ll, hll⟩ : ∃ ll, l.length = ll := ⟨_, rfl⟩
  have HL := hid hll
  rw [hll] at hl ⊢
  clear hll
  go_enter Tryd.func33, Tryd.ntmps33
  go_wp2_with fail
  refine (size_any _ _).mono ?_
  rintro e w' ⟨rfl, rfl⟩
  rw [show widB 4 = true from rfl]
  go_wp2_with (at_builtin; refine wpList_append_bytes rfl (.tmp 17) (.tmp 18) rfl w'.heap.size _ [] b rfl (own_empty _) a cap rfl (HB.out.later ((Below.refl _ _).alloc (Nat.le_refl _) _)) HNil.out (by simp; omega) (by simp) w'.heap.size w' (Nat.le_refl _) ((Below.refl _ _).alloc (Nat.le_refl _) _) ?_; intro v1 w1 hv1 hb1)
  go_loopw [10, 11] (fun v i wr => ∃ k : Nat, k ≤ ll ∧ i = .int .i64 k ∧ Hid (fitsB 4 (l.take k) = true) ∧ Own wr w'.heap.size v (outBe b 4 (l.take k)) ∧ Below w'.heap.size w' wr) (fun _ i _ => ll - (intOf i).toNat)
  case atStart => exact ⟨0, Nat.zero_le _, rfl, hid rfl, own_to hv1.out (by simp [outBe]), hb1⟩
  case round =>
    obtain ⟨k, hk, rfl, hf, hown, hb2⟩ := hrel
    have HB2 := hid hb2
    clear hv1 hb1
    by_cases hlt : k < ll
    · have hkl : k < l.length := by rw [HL.out]; exact hlt
      obtain ⟨b2, off2, rfl, hcs⟩ := HW.out.open_ (by omega)
      have hx := mem_getD l IsW HW.out.isW k hkl
      obtain ⟨x, hxe⟩ : ∃ x, l.getD k 0 = x := ⟨_, rfl⟩
      have hcw : ∀ wx, Below w'.heap.size w' wx → wx.cell? ⟨b2, off2 + k, none⟩ = some (.int .u64 x) := fun wx hbx => cell_later hbx (by rw [← hxe]; exact hcs k hkl)
      have hc := hcw _ hb2
      rw [hxe] at hx
      unfold IsW at hx
      clear hcs hb2
      cases hb : fitB 4 x
      · have H1 := hid (fits_not 4 l k hkl (by rw [hxe]; exact hb))
        have ht : (x / 4294967296 != 0) = true := by simp [fitB] at hb; simp [hb]
        clear hxe hb
        go_wp2
        go_ret2
        rw [H1.out]
        exact .inl ⟨rfl, rfl, HB2.out⟩
      · have H1 := hid (show fitsB 4 (l.take (k + 1)) = true by rw [fits_snoc 4 l k hkl, hf.out, hxe, hb]; rfl)
        have ht : (x / 4294967296 != 0) = false := by simp [fitB] at hb; simp [hb]
        clear hb
        have HSn := hid (outBe_snoc b 4 l k hkl)
        rw [hxe] at HSn
        have HLen := hid (show (outBe b 4 (l.take k)).length ≤ b.length + 4 * 10000 by rw [outBe_len, List.length_take]; have := Nat.min_le_left k l.length; omega)
        obtain ⟨L, hLe⟩ : ∃ L, outBe b 4 (l.take k) = L := ⟨_, rfl⟩
        rw [hLe] at hown HSn HLen
        have HOwn := hid hown
        clear hxe hLe hown
        go_wp2
        go_loopw [10, 12, 13] (fun v q _ wr => ∃ j : Nat, j ≤ 4 ∧ q = .int .i64 j ∧ Hid (Own wr w'.heap.size v (L ++ (bytesBe 4 x).take j)) ∧ Below w'.heap.size w' wr) (fun _ q _ _ => 4 - (intOf q).toNat)
        case atStart => exact ⟨0, Nat.zero_le _, rfl, hid (own_to HOwn.out (by simp)), HB2.out⟩
        case round =>
          obtain ⟨j, hj, rfl, hown2, hb3⟩ := hrel
          have HB3 := hid hb3
          have hc3 := hcw _ hb3
          have hsz := Nat.le_trans (Nat.le_refl _) hb3.size
          clear HOwn HB2 hb3
          by_cases hjn : j < 4
          · have HT := hid (take_be 4 x j hjn)
            have HLB : (L ++ (bytesBe 4 x).take j).length + 1 ≤ 140737488455328 := by
              rw [List.length_append, List.length_take, len_be]
              have := HLen.out
              omega
            rcases (show j = 0 ∨ j = 1 ∨ j = 2 ∨ j = 3 by omega) with rfl | rfl | rfl | rfl
            · go_wp2_with (at_builtin; refine wpList_append_one rfl (.tmp 51) (.tmp 59) rfl w'.heap.size _ _ rfl hown2.out rfl ?hy HLB hsz w' HB3.out ?_; rotate_left 1; intro v5 w5 hv5 hb5)
              case hy => unfold IsB; omega
              go_roundw
              case rel => exact ⟨0 + 1, by omega, by go_num, hid (own_to hv5.out (by rw [HT.out, List.append_assoc]; simp; try omega)), hb5⟩
              case measure => simp [intOf]
            · go_wp2_with (at_builtin; refine wpList_append_one rfl (.tmp 51) (.tmp 59) rfl w'.heap.size _ _ rfl hown2.out rfl ?hy HLB hsz w' HB3.out ?_; rotate_left 1; intro v5 w5 hv5 hb5)
              case hy => unfold IsB; omega
              go_roundw
              case rel => exact ⟨1 + 1, by omega, by go_num, hid (own_to hv5.out (by rw [HT.out, List.append_assoc]; simp; try omega)), hb5⟩
              case measure => simp [intOf]
            · go_wp2_with (at_builtin; refine wpList_append_one rfl (.tmp 51) (.tmp 59) rfl w'.heap.size _ _ rfl hown2.out rfl ?hy HLB hsz w' HB3.out ?_; rotate_left 1; intro v5 w5 hv5 hb5)
              case hy => unfold IsB; omega
              go_roundw
              case rel => exact ⟨2 + 1, by omega, by go_num, hid (own_to hv5.out (by rw [HT.out, List.append_assoc]; simp; try omega)), hb5⟩
              case measure => simp [intOf]
            · go_wp2_with (at_builtin; refine wpList_append_one rfl (.tmp 51) (.tmp 59) rfl w'.heap.size _ _ rfl hown2.out rfl ?hy HLB hsz w' HB3.out ?_; rotate_left 1; intro v5 w5 hv5 hb5)
              case hy => unfold IsB; omega
              go_roundw
              case rel => exact ⟨3 + 1, by omega, by go_num, hid (own_to hv5.out (by rw [HT.out, List.append_assoc]; simp; try omega)), hb5⟩
              case measure => simp [intOf]
          · have : j = 4 := by omega
            subst this
            have hown3 := hid (own_to hown2.out (by rw [List.take_of_length_le (by rw [len_be]; omega)]))
            clear hown2
            go_wp2
            go_roundw
            case rel => exact ⟨k + 1, by omega, by go_num, H1, own_to hown3.out HSn.out.symm, HB3.out⟩
            case measure => simp [intOf]; omega
    · go_wp2
      go_ret2
      have e : l.take k = l := List.take_of_length_le (by rw [HL.out]; omega)
      rw [e] at hf hown
      exact .inr ⟨hf.out, _, rfl, HB2.out, hown⟩

set_option maxHeartbeats 1000000 in
theorem refPut_false_8 (a a2 : Option Addr) (cap cap2 : Nat) (b l : List Int) (w : World) (hb : b.length ≤ 140737488351232) (hl : l.length ≤ 10000) (h : Bytes w a b) (hnil : a = none → cap = 0) (h2 : Words w a2 l) :
    Calls Tryd.prog 33 #[.slice a b.length cap, .int .i64 8, .slice a2 l.length cap2, .bool false] w fun e w' =>
      (fitsB 8 l = false ∧ e = .returned (.tuple #[.slice none 0 0, .int .i64 1]) ∧ Below w.heap.size w w') ∨
      (fitsB 8 l = true ∧ ∃ v, e = .returned (.tuple #[v, .int .i64 0]) ∧ Below w.heap.size w w' ∧ Own w' w.heap.size v (outBe b 8 l)) := by
  have HB := hid h
  have HW := hid h2
  have HNil := hid hnil
  clear h h2 hnil
  obtain ⟨ll, hll⟩ : ∃ ll, l.length = ll := ⟨_, rfl⟩
  have HL := hid hll
  rw [hll] at hl ⊢
  clear hll
  go_enter Tryd.func33, Tryd.ntmps33
  go_wp2_with fail
  refine (size_any _ _).mono ?_
  rintro e w' ⟨rfl, rfl⟩
  rw [show widB 8 = true from rfl]
  go_wp2_with (at_builtin; refine wpList_append_bytes rfl (.tmp 17) (.tmp 18) rfl w'.heap.size _ [] b rfl (own_empty _) a cap rfl (HB.out.later ((Below.refl _ _).alloc (Nat.le_refl _) _)) HNil.out (by simp; omega) (by simp) w'.heap.size w' (Nat.le_refl _) ((Below.refl _ _).alloc (Nat.le_refl _) _) ?_; intro v1 w1 hv1 hb1)
  go_loopw [10, 11] (fun v i wr => ∃ k : Nat, k ≤ ll ∧ i = .int .i64 k ∧ Hid (fitsB 8 (l.take k) = true) ∧ Own wr w'.heap.size v (outBe b 8 (l.take k)) ∧ Below w'.heap.size w' wr) (fun _ i _ => ll - (intOf i).toNat)
  case atStart => exact ⟨0, Nat.zero_le _, rfl, hid rfl, own_to hv1.out (by simp [outBe]), hb1⟩
  case round =>
    obtain ⟨k, hk, rfl, hf, hown, hb2⟩ := hrel
    have HB2 := hid hb2
    clear hv1 hb1
    by_cases hlt : k < ll
    · have hkl : k < l.length := by rw [HL.out]; exact hlt
      obtain ⟨b2, off2, rfl, hcs⟩ := HW.out.open_ (by omega)
      have hx := mem_getD l IsW HW.out.isW k hkl
      obtain ⟨x, hxe⟩ : ∃ x, l.getD k 0 = x := ⟨_, rfl⟩
      have hcw : ∀ wx, Below w'.heap.size w' wx → wx.cell? ⟨b2, off2 + k, none⟩ = some (.int .u64 x) := fun wx hbx => cell_later hbx (by rw [← hxe]; exact hcs k hkl)
      have hc := hcw _ hb2
      rw [hxe] at hx
      unfold IsW at hx
      clear hcs hb2
      have hb : fitB 8 x = true := by
        have h0 : x / 18446744073709551616 = 0 := by omega
        simp [fitB, h0]
      have H1 := hid (show fitsB 8 (l.take (k + 1)) = true by rw [fits_snoc 8 l k hkl, hf.out, hxe, hb]; rfl)
      clear hb
      have HSn := hid (outBe_snoc b 8 l k hkl)
      rw [hxe] at HSn
      have HLen := hid (show (outBe b 8 (l.take k)).length ≤ b.length + 8 * 10000 by rw [outBe_len, List.length_take]; have := Nat.min_le_left k l.length; omega)
      obtain ⟨L, hLe⟩ : ∃ L, outBe b 8 (l.take k) = L := ⟨_, rfl⟩
      rw [hLe] at hown HSn HLen
      have HOwn := hid hown
      clear hxe hLe hown
      go_wp2
      go_loopw [10, 12, 13] (fun v q _ wr => ∃ j : Nat, j ≤ 8 ∧ q = .int .i64 j ∧ Hid (Own wr w'.heap.size v (L ++ (bytesBe 8 x).take j)) ∧ Below w'.heap.size w' wr) (fun _ q _ _ => 8 - (intOf q).toNat)
      case atStart => exact ⟨0, Nat.zero_le _, rfl, hid (own_to HOwn.out (by simp)), HB2.out⟩
      case round =>
        obtain ⟨j, hj, rfl, hown2, hb3⟩ := hrel
        have HB3 := hid hb3
        have hc3 := hcw _ hb3
        have hsz := Nat.le_trans (Nat.le_refl _) hb3.size
        clear HOwn HB2 hb3
        by_cases hjn : j < 8
        · have HT := hid (take_be 8 x j hjn)
          have HLB : (L ++ (bytesBe 8 x).take j).length + 1 ≤ 140737488455328 := by
            rw [List.length_append, List.length_take, len_be]
            have := HLen.out
            omega
          rcases (show j = 0 ∨ j = 1 ∨ j = 2 ∨ j = 3 ∨ j = 4 ∨ j = 5 ∨ j = 6 ∨ j = 7 by omega) with rfl | rfl | rfl | rfl | rfl | rfl | rfl | rfl
          · go_wp2_with (at_builtin; refine wpList_append_one rfl (.tmp 51) (.tmp 59) rfl w'.heap.size _ _ rfl hown2.out rfl ?hy HLB hsz w' HB3.out ?_; rotate_left 1; intro v5 w5 hv5 hb5)
            case hy => unfold IsB; omega
            go_roundw
            case rel => exact ⟨0 + 1, by omega, by go_num, hid (own_to hv5.out (by rw [HT.out, List.append_assoc]; simp; try omega)), hb5⟩
            case measure => simp [intOf]
          · go_wp2_with (at_builtin; refine wpList_append_one rfl (.tmp 51) (.tmp 59) rfl w'.heap.size _ _ rfl hown2.out rfl ?hy HLB hsz w' HB3.out ?_; rotate_left 1; intro v5 w5 hv5 hb5)
            case hy => unfold IsB; omega
            go_roundw
            case rel => exact ⟨1 + 1, by omega, by go_num, hid (own_to hv5.out (by rw [HT.out, List.append_assoc]; simp; try omega)), hb5⟩
            case measure => simp [intOf]
          · go_wp2_with (at_builtin; refine wpList_append_one rfl (.tmp 51) (.tmp 59) rfl w'.heap.size _ _ rfl hown2.out rfl ?hy HLB hsz w' HB3.out ?_; rotate_left 1; intro v5 w5 hv5 hb5)
            case hy => unfold IsB; omega
            go_roundw
            case rel => exact ⟨2 + 1, by omega, by go_num, hid (own_to hv5.out (by rw [HT.out, List.append_assoc]; simp; try omega)), hb5⟩
            case measure => simp [intOf]
          · go_wp2_with (at_builtin; refine wpList_append_one rfl (.tmp 51) (.tmp 59) rfl w'.heap.size _ _ rfl hown2.out rfl ?hy HLB hsz w' HB3.out ?_; rotate_left 1; intro v5 w5 hv5 hb5)
            case hy => unfold IsB; omega
            go_roundw
            case rel => exact ⟨3 + 1, by omega, by go_num, hid (own_to hv5.out (by rw [HT.out, List.append_assoc]; simp; try omega)), hb5⟩
            case measure => simp [intOf]
          · go_wp2_with (at_builtin; refine wpList_append_one rfl (.tmp 51) (.tmp 59) rfl w'.heap.size _ _ rfl hown2.out rfl ?hy HLB hsz w' HB3.out ?_; rotate_left 1; intro v5 w5 hv5 hb5)
            case hy => unfold IsB; omega
            go_roundw
            case rel => exact ⟨4 + 1, by omega, by go_num, hid (own_to hv5.out (by rw [HT.out, List.append_assoc]; simp; try omega)), hb5⟩
            case measure => simp [intOf]
          · go_wp2_with (at_builtin; refine wpList_append_one rfl (.tmp 51) (.tmp 59) rfl w'.heap.size _ _ rfl hown2.out rfl ?hy HLB hsz w' HB3.out ?_; rotate_left 1; intro v5 w5 hv5 hb5)
            case hy => unfold IsB; omega
            go_roundw
            case rel => exact ⟨5 + 1, by omega, by go_num, hid (own_to hv5.out (by rw [HT.out, List.append_assoc]; simp; try omega)), hb5⟩
            case measure => simp [intOf]
          · go_wp2_with (at_builtin; refine wpList_append_one rfl (.tmp 51) (.tmp 59) rfl w'.heap.size _ _ rfl hown2.out rfl ?hy HLB hsz w' HB3.out ?_; rotate_left 1; intro v5 w5 hv5 hb5)
            case hy => unfold IsB; omega
            go_roundw
            case rel => exact ⟨6 + 1, by omega, by go_num, hid (own_to hv5.out (by rw [HT.out, List.append_assoc]; simp; try omega)), hb5⟩
            case measure => simp [intOf]
          · go_wp2_with (at_builtin; refine wpList_append_one rfl (.tmp 51) (.tmp 59) rfl w'.heap.size _ _ rfl hown2.out rfl ?hy HLB hsz w' HB3.out ?_; rotate_left 1; intro v5 w5 hv5 hb5)
            case hy => unfold IsB; omega
            go_roundw
            case rel => exact ⟨7 + 1, by omega, by go_num, hid (own_to hv5.out (by rw [HT.out, List.append_assoc]; simp; try omega)), hb5⟩
            case measure => simp [intOf]
        · have : j = 8 := by omega
          subst this
          have hown3 := hid (own_to hown2.out (by rw [List.take_of_length_le (by rw [len_be]; omega)]))
          clear hown2
          go_wp2
          go_roundw
          case rel => exact ⟨k + 1, by omega, by go_num, H1, own_to hown3.out HSn.out.symm, HB3.out⟩
          case measure => simp [intOf]; omega
    · go_wp2
      go_ret2
      have e : l.take k = l := List.take_of_length_le (by rw [HL.out]; omega)
      rw [e] at hf hown
      exact .inr ⟨hf.out, _, rfl, HB2.out, hown⟩
end Go.Proofs.YtkmljnjikkmdhaaDoor
