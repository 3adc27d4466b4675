/- Held, Dirty. -/
import Derived.Test.YtdfnfcimajomeaaCcI
import Derived.Test.YtdfnfcimajomeaaScSort
import Derived.Sort.OwnSortedInts
namespace Go.Proofs.Ytdfnfcimajomeaa
open Go.RowKit Go.Maps Go.Sort Go.Shelf

theorem info3 : (Try.prog.info? 3).map (fun i => (i.zero, i.size, i.bytes)) = some (some (.int .i64 0), 1, 8) := by kernel_rfl
theorem info3b : ∃ i, Try.prog.info? 3 = some i ∧ i.zero = some (.int .i64 0) ∧ i.size = 1 ∧ i.bytes = 8 := by
  have := info3
  cases h : Try.prog.info? 3 with
  | none => rw [h] at this; cases this
  | some i => rw [h] at this; simp at this; exact ⟨i, rfl, this.1, this.2.1, this.2.2⟩
/-- A number is put behind a row of a call's own. -/
theorem push_own (w : World) (B : Nat) (v : Value) (l : List Int) (h : w.ownsRow B 3 1 v l.length (ints l)) (hB : B ≤ w.heap.size) (x : Int) (hl : l.length ≤ 1000000) :
    ∃ a n c w', (Builtin.append_ #[35, 35] 35 #[v, .slice (some ⟨w.heap.size, 0, none⟩) 1 1]).run Try.prog (w.alloc (.cells #[.int .i64 x] 3)) = .ok (.slice a n c) w' ∧ w'.ownsRow B 3 1 (.slice a n c) (l ++ [x]).length (ints (l ++ [x])) ∧ Mods (fun b => v.ownBlock = some b) w w' ∧ (∀ g, (Value.slice a n c).ownBlock = some g → v.ownBlock = some g ∨ w.heap.size < g) := by
  have hb1 : Below w.heap.size w (w.alloc (.cells #[.int .i64 x] 3)) := (Below.refl _ _).alloc (Nat.le_refl _) _
  have hs1 : (w.alloc (.cells #[.int .i64 x] 3)).heap.size = w.heap.size + 1 := by simp
  have hr1 : (w.alloc (.cells #[.int .i64 x] 3)).ownsRow 0 3 1 v l.length (ints l) := owns_zero (owns_keep h (fun g hg => hb1.block g (owns_lt h hg).1))
  obtain ⟨v', w', hap, ho, hm, hob⟩ := app_gen (w.alloc (.cells #[.int .i64 x] 3)) 35 35 3 _ 8 Try.underlying35 info3b rfl (by omega) v (ints l) l.length (by simp) hr1 ⟨w.heap.size, 0, none⟩ 1 1 [.int .i64 x] rfl (cell_one_new w _ _) (by simp [Value.oneCell']) (by omega)
  obtain ⟨a, c, rfl⟩ := owns_slice ho
  have hv : ∀ g, (Value.slice a (l.length + 1) c).ownBlock = some g → v.ownBlock = some g ∨ w.heap.size < g := fun g hg => by
    rcases hob with e | e
    · exact .inl (by rw [← e]; exact hg)
    · rw [e] at hg; simp at hg; exact .inr (by omega)
  refine ⟨a, l.length + 1, c, w', hap, ?_, (Mods.of_below hb1).tr hm, hv⟩
  have h2 := owns_base (base' := B) ho (fun g hg => by
    rcases hv g hg with e | e
    · exact (owns_lt h e).2
    · omega)
  simpa [ints] using h2
section
variable {w w' : World} {p m : Nat} {S : Nat → Prop} {A : Cs} {ad : Int → Nat} {bm : Nat} {vr : Value} {M : Int → Option Value}
theorem nums_take {l : List Ec} {j : Nat} (h : j < l.length) : nums (l.take (j + 1)) = nums (l.take j) ++ [(l.getD j default).num] := by
  rw [List.take_succ_eq_append_getElem h, nums_app]
  simp [nums, List.getD, h]
set_option maxRecDepth 100000 in
set_option maxHeartbeats 1000000 in
theorem Held_any (h : Ca w p S A m) :
    Calls Try.prog 12 #[pv p] w fun e w' => ∃ v, e = .returned v ∧ w'.ownsRow w.heap.size 3 1 v A.row.length (ints (nums A.row)) ∧ Below w.heap.size w w' := by
  obtain ⟨ad, bm, vr, M, h⟩ := h
  obtain ⟨c0, c1, c2⟩ := h.cells
  obtain ⟨a, c, rfl⟩ := h.slice
  have HC : Hid (∀ j, j < A.row.length → ∃ g, a = some ⟨g, 0, none⟩ ∧ w.cell? ⟨g, j, none⟩ = some (pv (ad (A.row.getD j default).num)) ∧ w.cell? ⟨ad (A.row.getD j default).num, 0, none⟩ = some (.int .i64 (A.row.getD j default).num)) := hid (fun j hj => by
    obtain ⟨g, c', e, hc, _⟩ := h.place hj
    simp only [Value.slice.injEq] at e
    exact ⟨g, e.1, hc, (h.entry (getD_memE hj)).1⟩)
  have hlen : A.row.length ≤ 1024 := Nat.le_trans h.len h.hn
  obtain ⟨len, hln⟩ : ∃ len, len = A.row.length := ⟨_, rfl⟩
  rw [← hln] at hlen c2 HC ⊢
  have HLN := hid hln
  clear h hln
  go_enter Try.func12, Try.ntmps12
  go_wp2
  go_loopw [3, 11] (fun v z wr => ∃ j : Nat, j ≤ len ∧ z = .int .i64 j ∧ wr.ownsRow w.heap.size 3 1 v (nums (A.row.take j)).length (ints (nums (A.row.take j))) ∧ Below w.heap.size w wr) (fun _ z _ => len - (RowKit.intOf z).toNat)
  case atStart => exact ⟨0, Nat.zero_le _, rfl, ⟨rfl, .inl ⟨rfl, rfl⟩⟩, Below.refl _ _⟩
  case round =>
    obtain ⟨j, hj, rfl, hr, hb⟩ := hrel
    by_cases hlt : j < len
    · have hki : (j : Int) < len := by omega
      obtain ⟨g, ha, hc, hn⟩ := HC.out j hlt
      subst ha
      replace hc := cell_later hb hc
      replace hn := cell_later hb hn
      obtain ⟨a2, n2, c2', w2, hap, ho, hm, _⟩ := push_own wr w.heap.size _ _ hr hb.size (A.row.getD j default).num (by simp [nums]; omega)
      rw [← nums_take (by rw [← HLN.out]; exact hlt)] at ho
      have HO := hid ho
      have HB := hid (hm.to_below hb hb.size (fun g hg => (owns_lt hr hg).2))
      obtain ⟨a5, c5, e5⟩ := owns_slice hr
      subst e5
      clear hr hb ho hm
      generalize ad (A.row.getD j default).num = y at *
      generalize (A.row.getD j default).num = x at *
      generalize (nums (A.row.take j)).length = l5 at *
      go_wp2_with (at_builtin; refine wpList_append_run rfl _ _ 35 rfl rfl rfl hap ?_)
      go_roundw
      case rel => exact ⟨j + 1, by omega, by go_num, HO.out, HB.out⟩
      case measure => simp [RowKit.intOf]; omega
    · have hki : ¬ ((j : Int) < len) := by omega
      obtain rfl : j = len := by omega
      have e1 : nums (A.row.take j) = nums A.row := by rw [HLN.out, List.take_length]
      have e2 : (nums A.row).length = j := by rw [HLN.out]; simp [nums]
      rw [e1, e2] at hr
      have HR := hid hr
      have HB := hid hb
      obtain ⟨a5, c5, e5⟩ := owns_slice HR.out
      subst e5
      clear hr hb e1 e2
      go_wp2
      go_ret
      exact ⟨_, rfl, HR.out, HB.out⟩
def srt (l : List Int) : List Int := l.mergeSort (fun x y => decide (x ≤ y))
theorem srt_len (l : List Int) : (srt l).length = l.length := by unfold srt; exact List.length_mergeSort _
theorem srt_mem (l : List Int) (x : Int) : x ∈ srt l ↔ x ∈ l := by unfold srt; rw [List.mem_mergeSort]
theorem srt_sorted (l : List Int) (h : l.Nodup) : (srt l).Pairwise (· < ·) := by
  unfold srt
  have h1 := List.pairwise_mergeSort (le := fun x y : Int => decide (x ≤ y)) (by intro a b c; simp; omega) (by intro a b; simp; omega) l
  have h2 : (l.mergeSort (fun x y => decide (x ≤ y))).Nodup := (List.mergeSort_perm l _).nodup_iff.2 h
  refine (h1.and (List.nodup_iff_pairwise_ne.1 h2)).imp (fun {a b} h => ?_)
  have h3 := h.1
  have h4 := h.2
  simp at h3
  omega
/-- slices.Sort of a row of numbers. -/
theorem Sort_row (w : World) (v : Value) (l : List Int) (base : Nat) (h : w.ownsRow base 3 1 v l.length (ints l)) (hb : l.length ≤ 1099511627776) :
    Calls Try.prog 33 #[v] w fun e w' => e = .returned undef ∧ w'.ownsRow base 3 1 v l.length (ints (srt l)) ∧ Mods (fun b => v.ownBlock = some b) w w' := by
  rcases h.2 with ⟨rfl, h0⟩ | ⟨g, cap, cur, rfl, hbase, hh, hc1, hc2, hcs, ht⟩
  · have hl : l = [] := List.eq_nil_of_length_eq_zero h0
    subst hl
    refine (AnyM.slices_Sort_int_none Try.sortA none 0 w).mono ?_
    rintro e w' ⟨rfl, rfl⟩
    exact ⟨rfl, by simpa [srt] using h, Mods.refl _ _⟩
  · have h4 : cur.toList.take l.length = l.map (Value.int .i64) := by rw [← Nat.mul_one l.length]; exact ht
    have hH := holds_of_blockI (ss := l) hh h4
    refine (AnyM.slices_Sort_int Try.sortA g 0 cap l w hH (Array.getElem?_eq_some_iff.1 hh).1 (by omega)).mono ?_
    rintro e w' ⟨rfl, q, os, rfl⟩
    refine ⟨rfl, ?_, (Mods.of_grown (grownBy_sortedI _)).weak (fun b e => .inl (by simpa [Value.ownBlock] using e))⟩
    have := ownsRow_sortedI (w := w) (base := base) (n := q) (os := os) (ss := l) (ts := srt l) (srt_len l) hbase hh hc1 hc2 hcs
    exact this
def dirL (l : List Ec) : List Int := nums (l.filter fun e => e.dirty)
theorem dirL_take {l : List Ec} {j : Nat} (h : j < l.length) : dirL (l.take (j + 1)) = if (l.getD j default).dirty = true then dirL (l.take j) ++ [(l.getD j default).num] else dirL (l.take j) := by
  unfold dirL
  rw [List.take_succ_eq_append_getElem h, List.filter_append, nums_app]
  simp only [List.getD, List.getElem?_eq_getElem h, Option.getD_some]
  split
  · rename_i e; simp [nums, e]
  · rename_i e; simp [nums, e]
theorem dirL_len (l : List Ec) : (dirL l).length ≤ l.length := by unfold dirL nums; rw [List.length_map]; exact List.length_filter_le _ _
set_option maxRecDepth 100000 in
set_option maxHeartbeats 1000000 in
theorem Dirty_any (h : Ca w p S A m) :
    Calls Try.prog 14 #[pv p] w fun e w' => ∃ v, e = .returned v ∧ w'.ownsRow w.heap.size 3 1 v (dirL A.row).length (ints (srt (dirL A.row))) ∧ Below w.heap.size w w' := by
  obtain ⟨ad, bm, vr, M, h⟩ := h
  obtain ⟨c0, c1, c2⟩ := h.cells
  obtain ⟨a, c, rfl⟩ := h.slice
  have HC : Hid (∀ j, j < A.row.length → ∃ g, a = some ⟨g, 0, none⟩ ∧ w.cell? ⟨g, j, none⟩ = some (pv (ad (A.row.getD j default).num)) ∧ w.cell? ⟨ad (A.row.getD j default).num, 0, none⟩ = some (.int .i64 (A.row.getD j default).num) ∧ w.cell? ⟨ad (A.row.getD j default).num, 513, none⟩ = some (.bool (A.row.getD j default).dirty)) := hid (fun j hj => by
    obtain ⟨g, c', e, hc, _⟩ := h.place hj
    simp only [Value.slice.injEq] at e
    exact ⟨g, e.1, hc, (h.entry (getD_memE hj)).1, (h.entry (getD_memE hj)).2.1⟩)
  have hlen : A.row.length ≤ 1024 := Nat.le_trans h.len h.hn
  obtain ⟨len, hln⟩ : ∃ len, len = A.row.length := ⟨_, rfl⟩
  rw [← hln] at hlen c2 HC
  have HLN := hid hln
  obtain ⟨ld, hld⟩ : ∃ ld, ld = (dirL A.row).length := ⟨_, rfl⟩
  rw [← hld]
  have HLD := hid hld
  clear h hln hld
  go_enter Try.func14, Try.ntmps14
  go_wp2
  go_loopw [3, 11] (fun v z wr => ∃ j : Nat, j ≤ len ∧ z = .int .i64 j ∧ wr.ownsRow w.heap.size 3 1 v (dirL (A.row.take j)).length (ints (dirL (A.row.take j))) ∧ Below w.heap.size w wr) (fun _ z _ => len - (RowKit.intOf z).toNat)
  case atStart => exact ⟨0, Nat.zero_le _, rfl, ⟨rfl, .inl ⟨rfl, rfl⟩⟩, Below.refl _ _⟩
  case round =>
    obtain ⟨j, hj, rfl, hr, hb⟩ := hrel
    by_cases hlt : j < len
    · have hki : (j : Int) < len := by omega
      obtain ⟨g, ha, hc, hn, hd⟩ := HC.out j hlt
      subst ha
      replace hc := cell_later hb hc
      replace hn := cell_later hb hn
      replace hd := cell_later hb hd
      have HT := hid (dirL_take (l := A.row) (j := j) (by rw [← HLN.out]; exact hlt))
      have hle := dirL_len (A.row.take j)
      rw [List.length_take] at hle
      generalize hdd : (A.row.getD j default).dirty = dd at *
      clear hdd
      cases dd with
      | true =>
        obtain ⟨a2, n2, c2', w2, hap, ho, hm, _⟩ := push_own wr w.heap.size _ _ hr hb.size (A.row.getD j default).num (by omega)
        have HT2 := hid (HT.out.trans (if_pos rfl))
        rw [← HT2.out] at ho
        have HO := hid ho
        have HB := hid (hm.to_below hb hb.size (fun g hg => (owns_lt hr hg).2))
        obtain ⟨a5, c5, e5⟩ := owns_slice hr
        subst e5
        clear hr hb ho hm hle HT HT2
        generalize ad (A.row.getD j default).num = y at *
        generalize (A.row.getD j default).num = x at *
        generalize (dirL (A.row.take j)).length = l5 at *
        go_wp2_with (at_builtin; refine wpList_append_run rfl _ _ 35 rfl rfl rfl hap ?_)
        go_roundw
        case rel => exact ⟨j + 1, by omega, by go_num, HO.out, HB.out⟩
        case measure => simp [RowKit.intOf]; omega
      | false =>
        have HT2 := hid (HT.out.trans (if_neg (by simp)))
        have HO := hid hr
        have HB := hid hb
        obtain ⟨a5, c5, e5⟩ := owns_slice hr
        subst e5
        clear hr hb hle HT
        generalize ad (A.row.getD j default).num = y at *
        generalize (A.row.getD j default).num = x at *
        go_wp2
        go_roundw
        case rel => exact ⟨j + 1, by omega, by go_num, by rw [HT2.out]; exact HO.out, HB.out⟩
        case measure => simp [RowKit.intOf]; omega
    · have hki : ¬ ((j : Int) < len) := by omega
      obtain rfl : j = len := by omega
      have e1 : dirL (A.row.take j) = dirL A.row := by rw [HLN.out, List.take_length]
      rw [e1] at hr
      have HSO := hid (Sort_row wr _ (dirL A.row) _ hr (by have := dirL_len A.row; have := HLN.out; omega))
      rw [← HLD.out] at hr HSO
      have HR := hid hr
      have HB := hid hb
      obtain ⟨a5, c5, e5⟩ := owns_slice HR.out
      subst e5
      clear hr hb e1
      go_wp2_with (go_at_call 33; refine HSO.out.mono ?_; rintro e w2 ⟨rfl, h2, hm2⟩; have H2 := hid h2; have HM2 := hid hm2; clear h2 hm2)
      go_ret
      exact ⟨_, rfl, H2.out, HM2.out.to_below HB.out HB.out.size (fun g hg => (owns_lt HR.out hg).2)⟩
end
end Go.Proofs.Ytdfnfcimajomeaa
