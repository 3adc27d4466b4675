/- Rows of numbers: slices.Index, Contains, Delete, Clone; 'without'; 'append'. -/
import Derived.Test.YtacmdhlemolngaaScB
import Derived.Test.YtacmdhlemolngaaScShelf
import Derived.Sort.OwnSortedInts
namespace Go.Proofs.Ytacmdhlemolngaa
open Go.RowKit Go.Sort Go.Shelf Go.Maps

theorem ints_len (l : List Int) : (ints l).length = l.length := by simp
theorem ints_get {l : List Int} {j : Nat} (h : j < l.length) : (ints l)[j]? = some (.int .i64 (l.getD j 0)) := by simp [List.getD, h]
theorem owns_int {w : World} {v : Value} {l : List Int} {base : Nat} (h : w.ownsRow base 3 1 v l.length (ints l)) {j : Nat} (hj : j < l.length) : ∃ g c, v = .slice (some ⟨g, 0, none⟩) l.length c ∧ w.cell? ⟨g, j, none⟩ = some (.int .i64 (l.getD j 0)) ∧ base ≤ g ∧ g < w.heap.size := by
  obtain ⟨g, c, e, _, _, hb, hg, hc, _⟩ := owns_cells h (by omega)
  exact ⟨g, c, e, hc j _ (ints_get hj), hb, hg⟩
def idx (l : List Int) (x : Int) : Int := if x ∈ l then (l.idxOf x : Nat) else -1
theorem idx_none {l : List Int} {x : Int} (h : x ∉ l) : idx l x = -1 := by unfold idx; rw [if_neg h]
theorem idx_at {l : List Int} {x : Int} {k : Nat} (hk : k < l.length) (h : x ∉ l.take k) (e : l.getD k 0 = x) : idx l x = k := by
  have hm : x ∈ l := by rw [← e]; simp [List.getD, hk]
  unfold idx
  rw [if_pos hm]
  have h2 : l.take k ++ x :: l.drop (k + 1) = l := by
    rw [← e]
    simp only [List.getD, List.getElem?_eq_getElem hk, Option.getD_some]
    rw [← List.drop_eq_getElem_cons hk, List.take_append_drop]
  rw [← h2, List.idxOf_append, if_neg h]
  simp
  omega
theorem take_snoc {l : List Int} {k : Nat} (hk : k < l.length) {x : Int} (h : x ∉ l.take k) (e : ¬ l.getD k 0 = x) : x ∉ l.take (k + 1) := by
  rw [List.take_succ_eq_append_getElem hk, List.mem_append]
  simp only [List.getD, List.getElem?_eq_getElem hk, Option.getD_some] at e
  rintro (h1 | h1)
  · exact h h1
  · simp at h1; exact e h1.symm

set_option maxRecDepth 100000 in
set_option maxHeartbeats 1000000 in
theorem Index_any (w : World) (v : Value) (l : List Int) (x : Int) (h : w.ownsRow 0 3 1 v l.length (ints l)) (hl : l.length ≤ 1099511627776) :
    Calls Try.prog 80 #[v, .int .i64 x] w fun e w' => e = .returned (.int .i64 (idx l x)) ∧ w' = w := by
  obtain ⟨a, c, rfl⟩ := owns_slice h
  have H := hid h
  obtain ⟨len, hln⟩ : ∃ len, len = l.length := ⟨_, rfl⟩
  rw [← hln] at hl ⊢
  have HL := hid hln
  clear h hln
  obtain ⟨r, hr⟩ : ∃ r, r = idx l x := ⟨_, rfl⟩
  rw [← hr]
  have HR := hid hr
  clear hr
  go_enter Try.func80, Try.ntmps80
  go_wp2
  go_loopw [8] (fun z wr => ∃ k : Nat, k ≤ len ∧ z = .int .i64 k ∧ wr = w ∧ x ∉ l.take k) (fun z _ => len - (RowKit.intOf z).toNat)
  case atStart => exact ⟨0, Nat.zero_le _, rfl, rfl, by simp⟩
  case round =>
    obtain ⟨k, hk, rfl, hww, hx⟩ := hrel
    subst hww
    have HX := hid hx
    clear hx
    by_cases hlt : k < len
    · have hki : (k : Int) < len := by omega
      have hkl : k < l.length := by rw [← HL.out]; exact hlt
      obtain ⟨g, c', e, hc, _, _⟩ := owns_int H.out hkl
      simp only [Value.slice.injEq] at e
      obtain ⟨rfl, _, _⟩ := e
      have HI := hid (@idx_at l x k hkl HX.out)
      have HT := hid (@take_snoc l k hkl x HX.out)
      generalize l.getD k 0 = y at *
      by_cases hxy : x = y
      · subst hxy
        have HI2 := hid (HI.out rfl)
        clear HI HT
        go_wp2
        go_ret
        exact ⟨by rw [HR.out, HI2.out]; rfl, rfl⟩
      · go_wp2
        go_roundw
        case rel => exact ⟨k + 1, by omega, by go_num, by first | trivial | rfl, HT.out (fun e => hxy e.symm)⟩
        case measure => simp [RowKit.intOf]; omega
    · have hki : ¬ ((k : Int) < len) := by omega
      obtain rfl : k = len := by omega
      go_wp2
      go_ret
      exact ⟨by rw [HR.out, idx_none (by have := HX.out; rwa [HL.out, List.take_length] at this)]; rfl, rfl⟩
theorem idx_nonneg (l : List Int) (x : Int) : decide (0 ≤ idx l x) = decide (x ∈ l) := by
  unfold idx
  split
  · rename_i h; simp [h]
  · rename_i h; simp [h]
theorem Contains_any (w : World) (v : Value) (l : List Int) (x : Int) (h : w.ownsRow 0 3 1 v l.length (ints l)) (hl : l.length ≤ 1099511627776) :
    Calls Try.prog 73 #[v, .int .i64 x] w fun e w' => e = .returned (.bool (decide (x ∈ l))) ∧ w' = w := by
  have hcon := hid (Index_any w v l x h hl)
  rw [← idx_nonneg]
  clear h
  generalize idx l x = r at *
  go_enter Try.func73, Try.ntmps73
  go_wp2_with (go_at_call 80; refine hcon.out.mono ?_; rintro e w1 ⟨rfl, rfl⟩)
  go_ret
  exact ⟨rfl, rfl⟩

theorem owns_parts {w : World} {g n cap base : Nat} {l : List Int} (h : w.ownsRow base 3 1 (.slice (some ⟨g, 0, none⟩) n cap) l.length (ints l)) : ∃ cur, w.heap[g]? = some (.cells cur 3 (0, 0)) ∧ l.length ≤ cap ∧ cap ≤ maxLen ∧ cur.size = cap * 1 ∧ cur.toList.take l.length = l.map (Value.int .i64) := by
  rcases h.2 with ⟨e, _⟩ | ⟨g', cap', cur, e, _, hh, hc1, hc2, hcs, ht⟩
  · cases e
  · simp only [Value.slice.injEq, Option.some.injEq, Addr.mk.injEq] at e
    obtain ⟨⟨rfl, _⟩, _, rfl⟩ := e
    exact ⟨cur, hh, hc1, hc2, hcs, by rw [← Nat.mul_one l.length]; exact ht⟩
theorem Mods.of_grown' {w w' : World} {g : Nat} (h : w.grownBy w' (some g)) : Mods (fun b => b = g) w w' :=
  ⟨h.os, h.tape, h.output, h.size, fun b hb hn => h.block b hb (fun e => hn (by simpa using e))⟩

theorem Delete_row (w : World) (g cap i j base : Nat) (l : List Int) (n : Nat) (hn : n = l.length) (h : w.ownsRow base 3 1 (.slice (some ⟨g, 0, none⟩) n cap) l.length (ints l)) (hij : i ≤ j) (hj : j ≤ l.length) :
    Calls Try.prog 45 #[.slice (some ⟨g, 0, none⟩) n cap, .int .i64 i, .int .i64 j] w fun e w' => e = .returned (.slice (some ⟨g, 0, none⟩) (n - (j - i)) cap) ∧ w'.ownsRow 0 3 1 (.slice (some ⟨g, 0, none⟩) (n - (j - i)) cap) (n - (j - i)) (ints (l.take i ++ l.drop j)) ∧ Mods (fun b => b = g) w w' := by
  subst hn
  obtain ⟨cur, hh, h1, h2, h3, h4⟩ := owns_parts h
  have hH := holds_of_blockI (ss := l) hh h4
  refine (Any.slices_Delete_int Try.deleteA g 0 cap i j l w hH h1 (by unfold maxLen at h2; omega) hij hj).mono ?_
  rintro e w' ⟨rfl, q, rfl⟩
  have hb := heap_sortedI (n := q) (os := #[]) (l.take i ++ l.drop j ++ List.replicate (j - i) 0).toArray hh
  rw [grow_empty] at hb
  have hln : (l.take i ++ l.drop j).length = l.length - (j - i) := by simp; omega
  refine ⟨rfl, ⟨by simp; omega, .inr ⟨g, cap, _, rfl, Nat.zero_le _, hb, by omega, h2, by simp [putCells, h3], ?_⟩⟩, ?_⟩
  · have := take_putCellsI cur (l.take i ++ l.drop j ++ List.replicate (j - i) 0) (by simp; omega)
    have h7 := congrArg (List.take (l.length - (j - i))) this
    rw [List.take_take] at h7
    rw [Nat.mul_one]
    rw [show min (l.length - (j - i)) _ = l.length - (j - i) from Nat.min_eq_left (by simp; omega)] at h7
    rw [h7, List.map_append, List.take_append_of_le_length (by simp; omega), List.take_of_length_le (by simp; omega)]
  · have := grownBy_sortedI (w := w) (g := g) (n := q) (os := #[]) (l.take i ++ l.drop j ++ List.replicate (j - i) 0).toArray
    rw [grow_empty] at this
    exact Mods.of_grown' this
theorem Clone_row (w : World) (v : Value) (l : List Int) (h : w.ownsRow 0 3 1 v l.length (ints l)) (hl : l.length ≤ 1099511627776) :
    Calls Try.prog 49 #[v] w fun e w' => ∃ u, e = .returned u ∧ w'.ownsRow w.heap.size 3 1 u l.length (ints l) ∧ Below w.heap.size w w' := by
  rcases h.2 with ⟨rfl, h0⟩ | ⟨g, cap, cur, rfl, hb, hh, hc1, hc2, hcs, ht⟩
  · have qT : ∀ (w : World) (a : Option Addr) (n c n' c' : Nat), (binOp .eql 31 (.slice a n c) (.slice none n' c')).run Try.prog w = .ok (.bool a.isNone) w := fun w a n c n' c' => Lib.run_eql_slice_nil w _ _ a n c n' c' Try.underlying31
    have HH := hid h
    have H0 := hid h0
    clear h h0
    go_enter Try.func49, Try.ntmps49
    go_wp2
    go_ret
    exact ⟨_, rfl, owns_base HH.out (fun g e => by simp [Value.ownBlock] at e), Below.refl _ _⟩
  · have h4 : cur.toList.take l.length = l.map (Value.int .i64) := by rw [← Nat.mul_one l.length]; exact ht
    have hH := holds_of_blockI (ss := l) hh h4
    refine (Any.slices_Clone_int Try.cloneA g 0 l.length cap l w (Nat.le_refl _) (by omega) (fun j hj => ?_)).mono ?_
    · rw [(hH j (by simpa using hj)).1]
      simp [hj, List.getD]
    · rintro e w' ⟨u, rfl, h5, _, h6⟩
      refine ⟨u, rfl, ?_, h6⟩
      rw [List.take_length] at h5
      exact h5
theorem erase_cut (l : List Int) (x : Int) : l.take (l.idxOf x) ++ l.drop (l.idxOf x + 1) = l.erase x := by
  rw [List.erase_eq_eraseIdx_of_idxOf (i := l.idxOf x) rfl, List.eraseIdx_eq_take_drop_succ]
theorem ownBlock_eq {g n c n' c' : Nat} : (Value.slice (some ⟨g, 0, none⟩) n c).ownBlock = (Value.slice (some ⟨g, 0, none⟩) n' c').ownBlock := rfl
set_option maxRecDepth 100000 in
set_option maxHeartbeats 1000000 in
theorem without_any (w : World) (v : Value) (l : List Int) (x : Int) (h : w.ownsRow 0 3 1 v l.length (ints l)) (hl : l.length ≤ 1099511627776) :
    Calls Try.prog 74 #[v, .int .i64 x] w fun e w' => ∃ a n c, e = .returned (.slice a n c) ∧ n = (l.erase x).length ∧ w'.ownsRow 0 3 1 (.slice a n c) (l.erase x).length (ints (l.erase x)) ∧ Mods (fun b => v.ownBlock = some b) w w' ∧ (Value.slice a n c).ownBlock = v.ownBlock := by
  have hcon := hid (Index_any w v l x h hl)
  by_cases hx : x ∈ l
  · have hi : l.idxOf x < l.length := List.idxOf_lt_length_of_mem hx
    obtain ⟨g, c, rfl, _⟩ := owns_int h hi
    have e1 : idx l x = (l.idxOf x : Nat) := by unfold idx; rw [if_pos hx]
    have hd := Delete_row w g c (l.idxOf x) (l.idxOf x + 1) 0 l l.length rfl h (by omega) (by omega)
    rw [e1] at hcon
    rw [erase_cut l x] at hd
    have hle : (l.erase x).length = l.length - (l.idxOf x + 1 - l.idxOf x) := by rw [List.length_erase_of_mem hx]; omega
    rw [← hle] at hd
    rw [show ((l.idxOf x + 1 : Nat) : Int) = (l.idxOf x : Int) + 1 by omega] at hd
    have HD := hid hd
    generalize l.idxOf x = k at *
    have hw1 : IntKind.i64.wrap ((k : Int) + 1) = (k : Int) + 1 := IntWalk.i64_in _ (by omega)
    have hk0 : ¬ ((k : Int) < 0) := by omega
    clear h hd hle e1
    generalize l.erase x = l2 at *
    go_enter Try.func74, Try.ntmps74
    go_wp2_with (first | (go_at_call 80; refine hcon.out.mono ?_; rintro e w1 ⟨rfl, rfl⟩) | (go_at_call 45; refine HD.out.mono ?_; rintro e w2 ⟨rfl, h2, h3⟩; have H2 := hid h2; have H3 := hid h3; clear h2 h3))
    go_ret
    exact ⟨_, _, _, rfl, rfl, H2.out, H3.out.weak (fun b e => .inl (by rw [e]; rfl)), rfl⟩
  · rw [idx_none hx] at hcon
    rw [List.erase_of_not_mem hx]
    obtain ⟨a, c, rfl⟩ := owns_slice h
    have HH := hid h
    clear h hx
    generalize hln : l.length = ln at *
    go_enter Try.func74, Try.ntmps74
    go_wp2_with (go_at_call 80; refine hcon.out.mono ?_; rintro e w1 ⟨rfl, rfl⟩)
    go_ret
    exact ⟨_, _, _, rfl, rfl, HH.out, Mods.refl _ _, rfl⟩
theorem info3 : (Try.prog.info? 3).map (fun i => (i.zero, i.size, i.bytes)) = some (some (.int .i64 0), 1, 8) := by kernel_rfl
theorem info3b : ∃ i, Try.prog.info? 3 = some i ∧ i.zero = some (.int .i64 0) ∧ i.size = 1 ∧ i.bytes = 8 := by
  have := info3
  cases h : Try.prog.info? 3 with
  | none => rw [h] at this; cases this
  | some i => rw [h] at this; simp at this; exact ⟨i, rfl, this.1, this.2.1, this.2.2⟩
/-- 'append' of some numbers to a row. -/
theorem app_run (w : World) (v : Value) (l : List Int) (h : w.ownsRow 0 3 1 v l.length (ints l)) (sb m c : Nat) (news : List Int) (hm : news.length = m) (hcell : ∀ i, i < m → w.cell? ⟨sb, i, none⟩ = some (.int .i64 (news.getD i 0))) (hl : l.length + m ≤ 2199023255552) (ty : TypeId) :
    ∃ v' w', (Builtin.append_ #[31, 31] ty #[v, .slice (some ⟨sb, 0, none⟩) m c]).run Try.prog w = .ok v' w' ∧ w'.ownsRow 0 3 1 v' (l ++ news).length (ints (l ++ news)) ∧ Mods (fun b => v.ownBlock = some b) w w' ∧ (v'.ownBlock = v.ownBlock ∨ v'.ownBlock = some w.heap.size) := by
  obtain ⟨i0, hi, hz0, hz1, hz2⟩ := info3b
  obtain ⟨v', w', hr, ho, hg, _, hob⟩ := run_append_own_at (P := Try.prog) w 0 31 ty 3 i0 _ 1 8 Try.underlying31 hi hz0 hz1 hz2 rfl (by decide) v l.length (ints l) h ⟨sb, 0, none⟩ m c (ints news) (by simp [hm])
    (fun j u hj => by
      have hj2 : j < news.length := by have := (List.getElem?_eq_some_iff.1 hj).1; simpa using this
      rw [add_addr, Nat.zero_add, hcell j (by omega)]
      rw [ints_get hj2] at hj
      exact hj) (fun u hu => by simp at hu; obtain ⟨_, _, rfl⟩ := hu; rfl) (by unfold maxLen; omega) (by omega) (Nat.zero_le _)
  refine ⟨v', w', hr, ?_, Mods.of_grown hg, hob⟩
  rw [List.length_append, hm]
  simpa [ints] using ho
theorem wpList_append_run {P : Program} {w : World} {ops : Array Oper} {rest : List Oper} {o : Oper} {a : Act} {Q : Exit → Act → World → Prop} (hgd : o.guard = none) (s x : Operand) (t : TypeId)
    (ho : o.op = .call { callee := .builtin .append, args := #[s, x], argTypes := #[t, t] }) {v y v' : Value} {w' : World} (hs : a.eval s = v) (hx : a.eval x = y)
    (hrun : (Builtin.append_ #[t, t] o.type #[v, y]).run P w = .ok v' w') (h : wpList P ops Q rest (a.put o.dst v') w') : wpList P ops Q (o :: rest) a w := by
  refine wpList_plain hgd fun K hK => ?_
  unfold Oper.wp execOp
  simp only [ho, resolve, invoke, builtin, Sem.run_bind, Sem.run_pure, Result.andThen_ok, List.map_toArray, List.map_cons, List.map_nil, hs, hx, hrun]
  exact hK _ _ h
end Go.Proofs.Ytacmdhlemolngaa
