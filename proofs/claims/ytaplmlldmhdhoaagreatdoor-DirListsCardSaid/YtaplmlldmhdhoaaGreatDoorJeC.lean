/- JeA, JeB, JeC in one text. -/
import Derived.Test.YtaplmlldmhdhoaaGreatDoorJcB
import Derived.Test.YtaplmlldmhdhoaaGreatDoorIeG
import Derived.Lib.BufferWrite
import Derived.Laws.CopyRow
import Derived.Test.YtaplmlldmhdhoaaGreatDoorVgA
import Derived.Laws.Externs
import Derived.Test.YtaplmlldmhdhoaaGreatDoorJbA
import Derived.Test.YtaplmlldmhdhoaaGreatDoorJdF
/- A line as bytes: number, encoded. -/
namespace Go.Proofs.YtaplmlldmhdhoaaGreatDoor
open Go.RowKit Go.Maps
set_option linter.unusedVariables false
theorem wpList_copy_run {ops : Array Oper} {rest : List Oper} {o : Oper} {a : Act} {w : World} {Q : Exit → Act → World → Prop} (hgd : o.guard = none) (d s : Operand) (dT sT : TypeId)
    (ho : o.op = .call { callee := .builtin .copy, args := #[d, s], argTypes := #[dT, sT] }) {v y v' : Value} {w' : World} (hd : a.eval d = v) (hs : a.eval s = y) (hrun : (Builtin.copy_ #[dT, sT] o.type #[v, y]).run Tryz.prog w = .ok v' w')
    (h : wpList Tryz.prog ops Q rest (a.put o.dst v') w') : wpList Tryz.prog ops Q (o :: rest) a w := by
  refine wpList_plain hgd fun K hK => ?_
  unfold Oper.wp
  simp [execOp, ho, resolve, invoke, builtin, hd, hs, hrun, Result.andThen]
  exact hK _ _ h
theorem outLe_one (i : Int) : outLe [] 4 [i] = bytesLe 4 i := by simp [outLe]
set_option maxRecDepth 100000 in
set_option maxHeartbeats 1000000 in
theorem number_any (w : World) (i : Int) (h0 : 0 ≤ i) (h1 : i < 4294967296) :
    Calls Tryz.prog 47 #[n64 i] w fun e w' => ∃ g, e = .returned (.slice (some ⟨g, 0, none⟩) 4 4) ∧ w.heap.size ≤ g ∧ By w' (fun _ => True) (some ⟨g, 0, none⟩) (bytesLe 4 i) ∧ Below w.heap.size w w' := by
  obtain ⟨W1, hW1⟩ : ∃ W, W = w.alloc (.cells #[.int .u64 i] 26) := ⟨_, rfl⟩
  have b1 : Below w.heap.size w W1 := by rw [hW1]; exact (Below.refl _ _).alloc (Nat.le_refl _) _
  have c1 : W1.heap[w.heap.size]? = some (.cells #[.int .u64 i] 26 (0, 0)) := by rw [hW1]; exact alloc_new w _
  have u1 : IntKind.u64.wrap i = i := by rw [IntKind.wrap_u64]; omega
  have hWd : Words W1 (some ⟨w.heap.size, 0, none⟩) [i] := fun j hj => ⟨w.heap.size, 0, rfl, by
    obtain rfl : j = 0 := by simp at hj; omega
    exact cell_of c1 rfl, by
    obtain rfl : j = 0 := by simp at hj; omega
    unfold IsW
    show 0 ≤ i ∧ i < _
    omega⟩
  have hfit : fitsB ((4 : Nat) : Int) [i] = true := fits_of (n := 4) (l := [i]) (fun x hx => by rw [List.mem_singleton.1 hx]; constructor; exact h0; exact h1)
  have HP := putLe_w none (some ⟨w.heap.size, 0, none⟩) 0 1 4 [] [i] W1 (by simp) (by simp) (Bytes.nil_ _ _) hWd (by omega) hfit
  rw [outLe_one] at HP
  replace HP : Hid (Calls Tryz.prog 70 #[.slice none 0 0, .int .i64 4, .slice (some ⟨w.heap.size, 0, none⟩) 1 1] W1 fun e w' => e = .returned (.tuple #[.slice (some ⟨W1.heap.size, 0, none⟩) 4 4, .int .i64 0]) ∧ Below W1.heap.size W1 w' ∧ w'.heap.size = W1.heap.size + 1 ∧ w'.rowIs W1.heap.size 5 4 (fun j => .int .u8 ((bytesLe 4 i).getD j 0))) := hid HP
  have HB1 := hid b1
  clear b1 c1 hWd hfit
  go_enter Tryz.func47, Tryz.ntmps47
  go_wp2_with (first | (rw [← hW1]; clear hW1))
  refine HP.out.mono ?_
  rintro e w2 ⟨rfl, hb2, _, hr2⟩
  have HB2 := hid (HB1.out.trans (hb2.mono HB1.out.size))
  have HY := hid (By.of_row (S := fun _ => True) hr2 trivial (bytesLe_isB 4 i) (by rw [len_le]; omega))
  clear hb2 hr2 HP
  go_wp2
  go_ret
  exact ⟨_, rfl, HB1.out.size, HY.out, HB2.out⟩
theorem bc_str {nm : List Int} (h : ∀ y ∈ nm, IsB y) : Lib.byteCells (strOfNums nm).data.toList = u8s nm := by
  rw [strOfNums_data]
  unfold Lib.byteCells u8s
  rw [List.map_map]
  apply List.map_congr_left
  intro y hy
  have hb := h y hy
  unfold IsB at hb
  simp only [Function.comp]
  congr 1
  rw [UInt8.toNat_ofNat']
  omega
theorem set_get {α : Type} (A : List α) (x y : α) (B : List α) (k : Nat) (h : A.length = k) : (A ++ (x :: B)).set k y = A ++ (y :: B) := by
  subst h
  simp
set_option maxRecDepth 100000 in
set_option maxHeartbeats 2000000 in
theorem encoded_any (w : World) (x : Ln) (hx : LnOk x) (hp : 0 < x.nm.length) :
    Calls Tryz.prog 24 #[.string (strOfNums x.nm), n64 x.i] w fun e w' => ∃ g, e = .returned (.slice (some ⟨g, 0, none⟩) 32 32) ∧ w.heap.size ≤ g ∧ By w' (fun _ => True) (some ⟨g, 0, none⟩) (lineB x) ∧ Below w.heap.size w w' := by
  have mk : ∀ W : World, (Instr.makeSlice 59 (.int .i64 32) (.int .i64 32)).run Tryz.prog W = .ok (.slice (some ⟨W.heap.size, 0, none⟩) 32 32) (W.alloc (.cells (madeCells #[.int .u8 0] 32) 5)) := run_make_row' (P := Tryz.prog) 59 5 (.int .u8 0) 1 Tryz.underlying59 info5 rfl .i64 .i64 32 (by omega) (by omega)
  obtain ⟨W1, hW1⟩ : ∃ W, W = w.alloc (.cells (madeCells #[.int .u8 0] 32) 5) := ⟨_, rfl⟩
  obtain ⟨g0, hg0⟩ : ∃ g0, w.heap.size = g0 := ⟨_, rfl⟩
  have b1 : Below w.heap.size w W1 := by rw [hW1]; exact (Below.refl _ _).alloc (Nat.le_refl _) _
  have h1 : W1.heap[g0]? = some (.cells (List.replicate 32 (Value.int .u8 0)).toArray 5 (0, 0)) := by rw [hW1, ← hg0, made_arr]; exact alloc_new w _
  have HN := hid (number_any W1 x.i hx.i0 hx.i1)
  obtain ⟨z, hz⟩ : ∃ z, x.nm.length = z := ⟨_, rfl⟩
  have hsz : (strOfNums x.nm).size = z := by rw [strOfNums_size, hz]
  have hz27 : z ≤ 27 := by rw [← hz]; exact hx.len
  have HB1 := hid b1
  have HH1 := hid h1
  have HX := hid hx
  have HZ := hid (And.intro hz (And.intro hp hsz))
  have HG0 := hid hg0
  clear hx hp b1 h1 hz
  go_enter Tryz.func24, Tryz.ntmps24
  go_wp2_with (first | (rw [← hW1]; clear hW1) | (rw [hg0]; clear hg0))
  refine HN.out.mono ?_
  rintro e w2 ⟨g1, rfl, hg1, hy2, hb2⟩
  obtain ⟨X0, hX0⟩ : ∃ X : List Value, X = List.replicate 32 (Value.int .u8 0) := ⟨_, rfl⟩
  have h2 : w2.heap[g0]? = some (.cells X0.toArray 5 (0, 0)) := by rw [hX0]; exact (hb2.block g0 (Array.getElem?_eq_some_iff.1 HH1.out).1).trans HH1.out
  obtain ⟨X1, hX1⟩ : ∃ X : List Value, X = u8s (bytesLe 4 x.i) ++ (Value.int .u8 0 :: List.replicate 27 (Value.int .u8 0)) := ⟨_, rfl⟩
  obtain ⟨w3, hw3⟩ : ∃ W, W = w2.setRow g0 X1.toArray := ⟨_, rfl⟩
  have hbl : (u8s (bytesLe 4 x.i)).length = 4 := by simp [len_le]
  have hcp1 : (Builtin.copy_ #[59, 59] 3 #[.slice (some ⟨g0, 0, none⟩) 32 32, .slice (some ⟨g1, 0, none⟩) 4 4]).run Tryz.prog w2 = .ok (n64 4) w3 := by
    have hr := run_copy_row (P := Tryz.prog) w2 59 59 3 5 g0 0 32 32 ⟨g1, 0, none⟩ 4 4 X0.toArray 5 (u8s (bytesLe 4 x.i)) Tryz.underlying59 info5s h2 (by rw [hbl]; rfl) (fun j v hj => by
      have hj4 : j < 4 := by have := (List.getElem?_eq_some_iff.1 hj).1; omega
      obtain ⟨_, _, ea, _, hc⟩ := hy2.at_ (by rw [len_le]; omega)
      simp only [Option.some.injEq, Addr.mk.injEq] at ea
      obtain ⟨rfl, rfl, _⟩ := ea
      rw [add_addr, hc j (by rw [len_le]; exact hj4), ← hj, u8s_get (by rw [len_le]; exact hj4)]) (by rw [hbl, hX0]; simp) (u8s_one _)
    rw [hr, hw3, hX1, hX0, hbl]
    simp [goInt, List.replicate]
  have h3 : w3.heap[g0]? = some (.cells X1.toArray 5 (0, 0)) := by rw [hw3]; exact setRow_heap w2 g0 _ _ _ _ h2
  have hg0w : w.heap.size ≤ g0 := by have := HG0.out; omega
  have hb3 : Below w.heap.size w w3 := by rw [hw3]; exact below_setRow (HB1.out.trans (hb2.mono HB1.out.size)) hg0w _
  have y3 : w3.cell? ⟨g0, 4, none⟩ = some (.int .u8 0) := cell_of h3 (by rw [hX1, List.getElem?_toArray, List.getElem?_append_right (by rw [hbl]; omega), hbl]; rfl)
  have z3 : w3.frozen? ⟨g0, 4, none⟩ = false := froz_of h3 4
  have u1 : IntKind.u8.wrap (z : Int) = (z : Int) := by rw [IntKind.wrap_u8]; omega
  obtain ⟨X2, hX2⟩ : ∃ X : List Value, X = u8s (bytesLe 4 x.i) ++ (Value.int .u8 z :: List.replicate 27 (Value.int .u8 0)) := ⟨_, rfl⟩
  obtain ⟨w4, hw4⟩ : ∃ W, W = w3.setCell ⟨g0, 4, none⟩ (.int .u8 z) := ⟨_, rfl⟩
  have h4 : w4.heap[g0]? = some (.cells X2.toArray 5 (0, 0)) := by
    rw [hw4]
    have := setc h3 4 (.int .u8 z)
    rw [List.setIfInBounds_toArray, hX1, set_get _ _ _ _ 4 hbl, ← hX2] at this
    exact this
  have hb4 : Below w.heap.size w w4 := by rw [hw4]; exact hb3.setCell hg0w _
  obtain ⟨X3, hX3⟩ : ∃ X : List Value, X = u8s (lineB x) := ⟨_, rfl⟩
  obtain ⟨w5, hw5⟩ : ∃ W, W = w4.setRow g0 X3.toArray := ⟨_, rfl⟩
  have hX2l : X2.length = 32 := by rw [hX2]; simp [hbl]
  have hcp2 : (Builtin.copy_ #[59, 9] 3 #[.slice (some ⟨g0, 5, none⟩) 27 27, .string (strOfNums x.nm)]).run Tryz.prog w4 = .ok (n64 z) w5 := by
    have hr := Lib.run_copy_row_string (P := Tryz.prog) w4 59 9 3 5 g0 5 27 27 (strOfNums x.nm) X2.toArray 5 Tryz.underlying59 info5s h4 (by rw [hsz]; exact hz27) (by rw [hsz]; simp [hX2l]; omega)
    rw [hr, hw5, bc_str HX.out.isB, hsz]
    have e : X2 = (u8s (bytesLe 4 x.i) ++ [Value.int .u8 z]) ++ List.replicate 27 (Value.int .u8 0) := by rw [hX2]; simp
    have hl5 : (u8s (bytesLe 4 x.i) ++ [Value.int .u8 z]).length = 5 := by simp [hbl]
    have e3 : X3 = (u8s (bytesLe 4 x.i) ++ [Value.int .u8 z]) ++ (u8s x.nm ++ List.replicate (27 - z) (Value.int .u8 0)) := by
      rw [hX3]
      simp [lineB, u8s, HZ.out.1]
    show Result.ok (goInt z) (w4.setRow g0 ((X2.take 5 ++ u8s x.nm ++ X2.drop (5 + z)).toArray)) = _
    rw [e, List.take_left' hl5, ← List.drop_drop, List.drop_left' hl5, List.drop_replicate, e3, List.append_assoc]
    rfl
  have h5 : w5.heap[g0]? = some (.cells X3.toArray 5 (0, 0)) := by rw [hw5]; exact setRow_heap w4 g0 _ _ _ _ h4
  have hb5 : Below w.heap.size w w5 := by rw [hw5]; exact below_setRow hb4 hg0w _
  have s1 : ∀ W : World, (Instr.slice 59 (.slice (some ⟨g0, 0, none⟩) 32 32) (some (.int .i64 5)) none none).run Tryz.prog W = .ok (.slice (some ⟨g0, 5, none⟩) 27 27) W := fun W => by
    have hz : (sizeOf 5).run Tryz.prog W = .ok 1 W := by kernel_rfl
    rw [run_slice_l (P := Tryz.prog) W 59 (some ⟨g0, 0, none⟩) 32 32 Tryz.underlying59 .i64 5 (by omega) (by omega)]
    have e : Tryz.prog.elem 59 = 5 := by kernel_rfl
    rw [e, hz]
    simp [sliced, Addr.add]
  have HY : Hid (By w5 (fun _ => True) (some ⟨g0, 0, none⟩) (lineB x)) := hid ⟨lineB_isB HX.out, fun _ => ⟨g0, 0, _, _, rfl, trivial, h5, fun j hj => by rw [Nat.zero_add, hX3, List.getElem?_toArray, u8s_get hj]⟩⟩
  have HB5 := hid hb5
  have HGW := hid hg0w
  clear hg1 hy2 hb2 h2 h3 hb3 h4 hb4 h5 hb5 hX0 hX1 hX2 hX3 hbl hX2l hg0w hw5 mk HN hw3
  go_wp2_with (first | (show wpList _ _ _ ({ dst := _, op := .call { callee := .builtin .copy, args := #[.tmp 7, .tmp 9], argTypes := #[59, 59] }, type := _, pos := _, after := _, guard := none } :: _) _ _; refine wpList_copy_run rfl (.tmp 7) (.tmp 9) 59 59 rfl rfl rfl hcp1 ?_; clear hcp1) | (rw [← hw4]; clear hw4) | (show wpList _ _ _ ({ dst := _, op := .call { callee := .builtin .copy, args := #[.tmp 17, .tmp 18], argTypes := #[59, 9] }, type := _, pos := _, after := _, guard := none } :: _) _ _; refine wpList_copy_run rfl (.tmp 17) (.tmp 18) 59 9 rfl rfl rfl hcp2 ?_; clear hcp2))
  go_ret
  exact ⟨_, rfl, HGW.out, HY.out, HB5.out⟩
end Go.Proofs.YtaplmlldmhdhoaaGreatDoor

/- Name. -/
namespace Go.Proofs.YtaplmlldmhdhoaaGreatDoor
open Go.RowKit Go.Maps
set_option linter.unusedVariables false
set_option maxRecDepth 100000 in
theorem IndexByteL_any (s : ByteArray) (c : Int) (w : World) : Calls Tryz.prog 63 #[.string s, .int .u8 c] w fun e w' => e = .returned (.int .i64 (firstIdx s c.toNat.toUInt8)) ∧ w' = w := by
  have h1 := @run_callFunc_extern Tryz.prog 82 _ Extern.BytealgIndexByte.indexByte Tryz.func82 (by kernel_rfl) (by kernel_rfl) (by kernel_rfl) (by kernel_rfl)
  have h2 := run_indexByte_string (P := Tryz.prog) s c w
  go_enter Tryz.func63, Tryz.ntmps63
  go_wp2
  go_ret
  exact ⟨rfl, rfl⟩
set_option maxRecDepth 100000 in
theorem IndexByte_any (s : ByteArray) (c : Int) (w : World) : Calls Tryz.prog 38 #[.string s, .int .u8 c] w fun e w' => e = .returned (.int .i64 (firstIdx s c.toNat.toUInt8)) ∧ w' = w := by
  go_enter Tryz.func38, Tryz.ntmps38
  go_wp2_with (go_at_call 63; refine (IndexByteL_any s c w).mono ?_; rintro e w2 ⟨rfl, rfl⟩)
  go_ret
  exact ⟨rfl, rfl⟩
def nameS (s : ByteArray) : Int := if s.size = 0 ∨ 0 ≤ firstIdx s 47 ∨ 0 ≤ firstIdx s 0 then 22 else if 27 < s.size then 63 else 0
theorem toList_nil (s : ByteArray) : s.toList = [] ↔ s.size = 0 := by
  rw [Lib.toList_data, List.eq_nil_iff_length_eq_zero]
  exact Iff.of_eq (by rfl)
set_option maxRecDepth 100000 in
set_option maxHeartbeats 1000000 in
theorem Name_any (s : ByteArray) (w : World) : Calls Tryz.prog 18 #[.string s] w fun e w' => e = .returned (.int .i64 (nameS s)) ∧ w' = w := by
  obtain ⟨F1, hF1⟩ : ∃ F, firstIdx s 47 = F := ⟨_, rfl⟩
  obtain ⟨F2, hF2⟩ : ∃ F, firstIdx s 0 = F := ⟨_, rfl⟩
  have H1 : Calls Tryz.prog 38 #[.string s, .int .u8 47] w fun e w' => e = .returned (.int .i64 F1) ∧ w' = w := by rw [← hF1]; exact IndexByte_any s 47 w
  have H2 : Calls Tryz.prog 38 #[.string s, .int .u8 0] w fun e w' => e = .returned (.int .i64 F2) ∧ w' = w := by rw [← hF2]; exact IndexByte_any s 0 w
  replace H1 := hid H1
  replace H2 := hid H2
  have hn : nameS s = if s.size = 0 ∨ 0 ≤ F1 ∨ 0 ≤ F2 then 22 else if 27 < s.size then 63 else 0 := by unfold nameS; rw [hF1, hF2]
  clear hF1 hF2
  by_cases h0 : s.size = 0
  · rw [hn, if_pos (.inl h0)]
    have hs : s.toList = [] := (toList_nil s).2 h0
    clear h0 hn
    go_enter Tryz.func18, Tryz.ntmps18
    go_wp2
    go_ret
    exact ⟨rfl, rfl⟩
  · have hs : ¬ s.toList = [] := fun e => h0 ((toList_nil s).1 e)
    have hs' : s.toList.isEmpty = false := by rw [List.isEmpty_eq_false_iff]; exact hs
    by_cases h1 : 0 ≤ F1
    · rw [hn, if_pos (.inr (.inl h1))]
      clear h0 hn
      go_enter Tryz.func18, Tryz.ntmps18
      go_wp2_with (go_at_call 38; refine H1.out.mono ?_; rintro e w2 ⟨rfl, rfl⟩)
      go_ret
      exact ⟨rfl, rfl⟩
    · have d1 : decide (0 ≤ F1) = false := decide_eq_false h1
      by_cases h2 : 0 ≤ F2
      · rw [hn, if_pos (.inr (.inr h2))]
        clear h0 hn
        go_enter Tryz.func18, Tryz.ntmps18
        go_wp2_with (first | (go_at_call 38; refine H1.out.mono ?_; rintro e w2 ⟨rfl, hw2⟩; rw [hw2]; clear hw2 H1) | (go_at_call 38; refine H2.out.mono ?_; rintro e w2 ⟨rfl, hw2⟩; rw [hw2]; clear hw2 H2))
        go_ret
        exact ⟨rfl, rfl⟩
      · have d2 : decide (0 ≤ F2) = false := decide_eq_false h2
        rw [hn, if_neg (fun e => by rcases e with e | e | e; exact h0 e; exact h1 e; exact h2 e)]
        clear h0 hn
        obtain ⟨z, hz⟩ : ∃ z : Nat, s.size = z := ⟨_, rfl⟩
        rw [hz]
        by_cases h3 : 27 < z
        · rw [if_pos h3]
          have h3' : (27 : Int) < z := by omega
          go_enter Tryz.func18, Tryz.ntmps18
          go_wp2_with (first | (go_at_call 38; refine H1.out.mono ?_; rintro e w2 ⟨rfl, hw2⟩; rw [hw2]; clear hw2 H1) | (go_at_call 38; refine H2.out.mono ?_; rintro e w2 ⟨rfl, hw2⟩; rw [hw2]; clear hw2 H2))
          go_ret
          exact ⟨rfl, rfl⟩
        · rw [if_neg h3]
          have h3' : ¬ (27 : Int) < z := by omega
          go_enter Tryz.func18, Tryz.ntmps18
          go_wp2_with (first | (go_at_call 38; refine H1.out.mono ?_; rintro e w2 ⟨rfl, hw2⟩; rw [hw2]; clear hw2 H1) | (go_at_call 38; refine H2.out.mono ?_; rintro e w2 ⟨rfl, hw2⟩; rw [hw2]; clear hw2 H2))
          go_ret
          exact ⟨rfl, rfl⟩
theorem firstIdx_none {s : ByteArray} {c : UInt8} (h : ∀ i, i < s.size → s[i]! ≠ c) : firstIdx s c = -1 := by
  unfold firstIdx
  have : (List.range s.size).find? (fun i => s[i]! == c) = none := by
    rw [List.find?_eq_none]
    intro i hi
    simpa using h i (List.mem_range.1 hi)
  rw [this]
theorem nameS_ok {nm : List Int} (h0 : 0 < nm.length) (h1 : nm.length ≤ 27) (hb : ∀ y ∈ nm, IsB y) (hn : ∀ y ∈ nm, y ≠ 47 ∧ y ≠ 0) : nameS (strOfNums nm) = 0 := by
  have hg : ∀ i, i < (strOfNums nm).size → ∃ y ∈ nm, (strOfNums nm)[i]! = UInt8.ofNat y.toNat := fun i hi => by
    have hi' : i < nm.length := by rwa [strOfNums_size] at hi
    refine ⟨nm[i], List.getElem_mem _, ?_⟩
    rw [getElem!_pos (strOfNums nm) i hi]
    show (strOfNums nm).data[i] = _
    simp [strOfNums]
  have ht : ∀ y : Int, IsB y → (UInt8.ofNat y.toNat).toNat = y.toNat := fun y hy => by
    unfold IsB at hy
    rw [UInt8.toNat_ofNat']
    omega
  unfold nameS
  rw [firstIdx_none (c := 47) (fun i hi => ?_), firstIdx_none (c := 0) (fun i hi => ?_), strOfNums_size, if_neg (by omega), if_neg (by omega)]
  · obtain ⟨y, hy, e⟩ := hg i hi
    rw [e]
    intro h
    have := congrArg UInt8.toNat h
    rw [ht y (hb y hy)] at this
    have := hn y hy
    have := hb y hy
    unfold IsB at this
    simp at *
    omega
  · obtain ⟨y, hy, e⟩ := hg i hi
    rw [e]
    intro h
    have := congrArg UInt8.toNat h
    rw [ht y (hb y hy)] at this
    have := hn y hy
    have := hb y hy
    unfold IsB at this
    simp at *
    omega
end Go.Proofs.YtaplmlldmhdhoaaGreatDoor

/- A line more: what is written. -/
namespace Go.Proofs.YtaplmlldmhdhoaaGreatDoor
open Go.RowKit Go.Maps
set_option linter.unusedVariables false
variable {N D hi : Nat} {c : Nat → List Int} {ptr : Nat → Nat} {L : List Ln}
/-- The lines behind Add. -/
def addL (L : List Ln) (x : Ln) : List Ln := if roomF L.length L < L.length then L.set (roomF L.length L) x else L ++ [x]
/-- What is left alone: all blocks but the bits, the directory's own, and the next one that is free. -/
def Off (c c' : Nat → List Int) (ptr : Nat → Nat) (len hi N : Nat) : Prop := ∀ k, k ≠ 69 → k < N → (∀ j, j * 16 < len → k ≠ ptr j) → k ≠ hi → c' k = c k
theorem dd_add (h : Dd N D hi c ptr L) (hm : L.length < 96) (hhi : hi < N) (x : Ln) (hx : LnOk x) :
    ∃ c' hi' ptr' q, q ≤ 4 ∧ WriteR D N (roomF L.length L * 32) (lineB x) c (FU N hi) ptr c' (FU N hi') ptr' q ∧ Dd N D hi' c' ptr' (addL L x) ∧ max (L.length * 32) (roomF L.length L * 32 + 32) = (addL L x).length * 32 ∧ hi ≤ hi' ∧ hi' ≤ hi + 1 ∧ Off c c' ptr L.length hi N ∧ (∀ j, j * 16 < L.length → ptr' j = ptr j) := by
  by_cases hr : roomF L.length L < L.length
  · refine ⟨_, hi, ptr, 1, by omega, write_one h hr (lineB x) (by rw [lineB_len hx]; omega) (by rw [lineB_len hx]; omega), ?_, ?_, Nat.le_refl _, by omega, fun k h69 hkN hkp hkh => updN_other _ _ (hkp _ (by omega)), fun j _ => rfl⟩
    · unfold addL
      rw [if_pos hr]
      exact h.set hr x hx (lineB x) (by rw [lineB_len hx]; omega) (by rw [List.drop_eq_nil_of_le (by rw [lineB_len hx, lineB_len (h.ok _ hr)]; omega), List.append_nil])
    · unfold addL
      rw [if_pos hr, List.length_set]
      omega
  · have hr2 : roomF L.length L = L.length := by have := roomF_le L.length L; omega
    obtain ⟨c', hi', ptr', h1, h2, h3, h4, h5, h6⟩ := h.push hm hhi x hx
    refine ⟨c', hi', ptr', _, ?_, by rw [hr2]; exact h1, ?_, ?_, ?_, ?_, h4, h5⟩
    · split <;> omega
    · unfold addL; rw [if_neg hr]; exact h2
    · unfold addL; rw [if_neg hr, hr2]; simp; omega
    · rw [h3]; split <;> omega
    · rw [h3]; split <;> omega
end Go.Proofs.YtaplmlldmhdhoaaGreatDoor
