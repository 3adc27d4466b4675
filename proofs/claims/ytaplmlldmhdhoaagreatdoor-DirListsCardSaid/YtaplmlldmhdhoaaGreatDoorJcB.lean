/- JcA, JcB in one text. -/
import Derived.Test.YtaplmlldmhdhoaaGreatDoorJbA
import Derived.Test.YtaplmlldmhdhoaaGreatDoorIcC
/- The small functions of dir. -/
namespace Go.Proofs.YtaplmlldmhdhoaaGreatDoor
open Go.RowKit Go.Maps
set_option linter.unusedVariables false
set_option maxRecDepth 100000 in
theorem places_any (w : World) (X : Array Value) (ptr : Nat → Nat) (len : Nat) (hX : InoIs X ((len * 32 : Nat) : Int) ptr) (hl : len ≤ 96) :
    Calls Tryz.prog 35 #[.agg X] w fun e w' => e = .returned (n64 len) ∧ Below w.heap.size w w' := by
  obtain ⟨W1, hW1⟩ : ∃ W, W = w.alloc (.cells X 31) := ⟨_, rfl⟩
  have c6 : W1.cell? ⟨w.heap.size, 6, none⟩ = some (.int .u64 ((len * 32 : Nat) : Int)) := by rw [hW1]; exact cell_of (alloc_new w _) hX.len
  have HB : Hid (Below w.heap.size w W1) := hid (by rw [hW1]; exact (Below.refl _ _).alloc (Nat.le_refl _) _)
  obtain ⟨z, hz⟩ : ∃ z : Nat, z = len * 32 := ⟨_, rfl⟩
  rw [← hz] at c6
  have u1 : min (z : Int) 1082199040 = (z : Int) := by omega
  have u2 : (z : Int).tdiv 32 = (len : Int) := by rw [Int.tdiv_eq_ediv_of_nonneg (by omega)]; omega
  have u3 : IntKind.i64.wrap (len : Int) = (len : Int) := IntWalk.i64_in _ (by omega)
  have u4 : (z : Int) ≤ 1082199040 := by omega
  have u5 : IntKind.u64.wrap (len : Int) = (len : Int) := by rw [IntKind.wrap_u64]; omega
  have u6 : wrap64 (len : Int) = (len : Int) := by unfold wrap64; omega
  clear hX hl hz
  go_enter Tryz.func35, Tryz.ntmps35
  go_wp2_with (rw [← hW1]; clear hW1)
  go_ret
  exact ⟨rfl, HB.out⟩
set_option maxRecDepth 100000 in
theorem startOf_any (w : World) (p : Nat) (hp : p ≤ 1000000) : Calls Tryz.prog 23 #[n64 p] w fun e w' => e = .returned (.int .u64 ((p * 32 : Nat) : Int)) ∧ w' = w := by
  have u1 : IntKind.u64.wrap (p : Int) = (p : Int) := by rw [IntKind.wrap_u64]; omega
  have u2 : IntKind.u64.wrap ((p : Int) * 32) = ((p * 32 : Nat) : Int) := by rw [IntKind.wrap_u64]; omega
  clear hp
  go_enter Tryz.func23, Tryz.ntmps23
  go_wp2
  go_ret
  exact ⟨rfl, rfl⟩
set_option maxRecDepth 100000 in
theorem isFree_yes (w : World) (p : Value) (s : ByteArray) : Calls Tryz.prog 28 #[.agg #[p, n64 0, .string s]] w fun e w' => e = .returned (.bool true) ∧ Below w.heap.size w w' := by
  have HB : Hid (Below w.heap.size w (w.alloc (.cells #[p, n64 0, .string s] 42))) := hid ((Below.refl _ _).alloc (Nat.le_refl _) _)
  go_enter Tryz.func28, Tryz.ntmps28
  go_wp2
  go_ret
  exact ⟨rfl, HB.out⟩
set_option maxRecDepth 100000 in
theorem isFree_no (w : World) (p : Value) (i : Int) (s : ByteArray) (hi : i ≠ 0) : Calls Tryz.prog 28 #[.agg #[p, n64 i, .string s]] w fun e w' => e = .returned (.bool false) ∧ Below w.heap.size w w' := by
  have HB : Hid (Below w.heap.size w (w.alloc (.cells #[p, n64 i, .string s] 42))) := hid ((Below.refl _ _).alloc (Nat.le_refl _) _)
  have h2 : (i == 0) = false := by rw [beq_eq_false_iff_ne]; exact hi
  go_enter Tryz.func28, Tryz.ntmps28
  go_wp2
  go_ret
  exact ⟨rfl, HB.out⟩
theorem sizeLn : (Tryz.prog.info? 42).map (·.size) = some 3 := by kernel_rfl
theorem oneLn (a b : Int) (s : ByteArray) : (#[n64 a, n64 b, .string s] : Array Value).all (·.oneCell') = true := by simp [Value.oneCell']
def lnV (p : Nat) (x : Ln) : Value := .agg #[n64 p, n64 x.i, .string (strOfNums x.nm)]
set_option maxRecDepth 100000 in
set_option maxHeartbeats 2000000 in
theorem decoded_line (w : World) (p : Nat) (g o cp : Nat) (x : Ln) (hx : LnOk x) (hcp : 32 ≤ cp) (hy : By w (fun _ => True) (some ⟨g, o, none⟩) (lineB x)) :
    Calls Tryz.prog 37 #[n64 p, .slice (some ⟨g, o, none⟩) 32 cp] w fun e w' => e = .returned (lnV p x) ∧ Below w.heap.size w w' := by
  have hln := lineB_len hx
  obtain ⟨b5, hb5⟩ : ∃ B, B = lineB x := ⟨_, rfl⟩
  have hnum := line_num hx
  have hlen := line_len x
  have hnm := line_nm x
  rw [← hb5] at hln hy hnum hlen hnm
  obtain ⟨z, hz⟩ : ∃ z : Nat, z = x.nm.length := ⟨_, rfl⟩
  rw [← hz] at hlen hnm
  have hz27 : z ≤ 27 := by rw [hz]; exact hx.len
  obtain ⟨W1, hW1⟩ : ∃ W, W = w.alloc (.cells #[n64 0, n64 0, .string ⟨#[]⟩] 42) := ⟨_, rfl⟩
  have hb1 : Below w.heap.size w W1 := by rw [hW1]; exact (Below.refl _ _).alloc (Nat.le_refl _) _
  obtain ⟨q, hq⟩ : ∃ q, w.heap.size = q := ⟨_, rfl⟩
  have hh1 : W1.heap[q]? = some (.cells #[n64 0, n64 0, .string ⟨#[]⟩] 42 (0, 0)) := by rw [hW1, ← hq]; exact alloc_new w _
  have hy1 := hy.later hb1
  have HLE := le_at W1 (some ⟨g, o, none⟩) 32 cp 0 4 0 4 b5 rfl rfl hln hcp (by omega) (.inl rfl) (by omega) hy1.bytes
  rw [hnum] at HLE
  replace HLE := hid HLE
  obtain ⟨_, _, ea, _, hcells⟩ := hy1.at_ (by omega)
  simp only [Option.some.injEq, Addr.mk.injEq] at ea
  obtain ⟨rfl, rfl, _⟩ := ea
  have c4 := hcells 4 (by omega)
  rw [hlen] at c4
  have HC4 := hid c4
  have u1 : min (z : Int) 27 = (z : Int) := by omega
  have u1' : (z : Int) ≤ 27 := by omega
  have u2 : IntKind.i64.wrap (5 + (z : Int)) = 5 + (z : Int) := by rw [IntWalk.i64_in _ (by omega)]
  have u3 : IntKind.i64.wrap (z : Int) = (z : Int) := IntWalk.i64_in _ (by omega)
  have u4 : IntKind.i64.wrap x.i = x.i := IntWalk.i64_in _ (by have := hx.i0; have := hx.i1; omega)
  have HY := hid hy1
  have HS := hid (And.intro hnm hz27)
  have HB1 := hid hb1
  have HQ := hid hq
  have HH1 := hid hh1
  have HX := hid hz
  clear hx hy hy1 hln hb5 hnum hlen hnm hz27 hz hcells c4 hb1 hh1
  go_enter Tryz.func37, Tryz.ntmps37
  go_wp2_with (first | (rw [← hW1]; clear hW1) | (rw [hq]; clear hq))
  refine HLE.out.mono ?_
  rintro e w2 ⟨rfl, q2, hw2⟩
  have hb2 : Below W1.heap.size W1 w2 := by rw [hw2]; exact below_drewN (Below.refl _ _) _
  have c2 : w2.cell? ⟨g, o + 4, none⟩ = some (.int .u8 (z : Int)) := cell_later hb2 HC4.out
  have HB2 : Hid (Below w.heap.size w w2) := hid (HB1.out.trans (hb2.mono HB1.out.size))
  have hcut := (HY.out.later hb2).cut 5 z
  rw [HS.out.1] at hcut
  have hcv := conv0 (cap := cp - 5) (k := z) hcut.bytes HX.out.symm
  have s1 : ∀ W : World, (Instr.slice 59 (.slice (some ⟨g, o, none⟩) 32 cp) (some (.int .i64 5)) (some (.int .i64 (5 + (z : Int)))) none).run Tryz.prog W = .ok (.slice (some ⟨g, o + 5, none⟩) z (cp - 5)) W := fun W => by
    have hz : (sizeOf 5).run Tryz.prog W = .ok 1 W := by kernel_rfl
    rw [run_slice_lh (P := Tryz.prog) W 59 (some ⟨g, o, none⟩) 32 cp Tryz.underlying59 .i64 .i64 5 (5 + z) (by omega) (by omega) (by have := HS.out.2; omega)]
    have e : Tryz.prog.elem 59 = 5 := by kernel_rfl
    rw [e, hz]
    have h2 : ¬ (cp = 5) := by omega
    have h3 : (5 + (z : Int)).toNat - 5 = z := by omega
    simp [sliced, Addr.add, h2, h3]
  have HH2 : Hid (w2.heap[q]? = some (.cells #[n64 0, n64 0, .string ⟨#[]⟩] 42 (0, 0))) := hid ((hb2.block q (Array.getElem?_eq_some_iff.1 HH1.out).1).trans HH1.out)
  clear hw2 hb2 hcut HLE
  obtain ⟨W3, hW3⟩ : ∃ W, W = w2.setRow q #[n64 p, n64 x.i, .string (strOfNums x.nm)] := ⟨_, rfl⟩
  have hb3 : Below w.heap.size w W3 := by rw [hW3]; exact below_setRow HB2.out (by rw [HQ.out]; exact Nat.le_refl _) _
  have c30 : W3.heap[q]? = some (.cells #[n64 p, n64 x.i, .string (strOfNums x.nm)] 42 (0, 0)) := by rw [hW3]; exact setRow_heap w2 q _ _ _ _ HH2.out
  have x0 : W3.cell? ⟨q, 0, none⟩ = some (n64 p) := cell_of c30 rfl
  have x1 : W3.cell? ⟨q, 1, none⟩ = some (n64 x.i) := cell_of c30 rfl
  have x2 : W3.cell? ⟨q, 2, none⟩ = some (.string (strOfNums x.nm)) := cell_of c30 rfl
  have HB3 := hid hb3
  have HC3 := hid c30
  clear hb3 c30
  go_wp2_with (first | (refine wpList_store_row rfl 42 _ _ rfl q #[n64 p, n64 x.i, .string (strOfNums x.nm)] rfl rfl 42 _ HH2.out sizeLn rfl (oneLn _ _ _) ?_; rw [← hW3]; clear hW3))
  refine bodyPost_ret (results_c rfl _ _ q _ _ _ rfl HC3.out Tryz.underlying42 sizeLn) rfl ⟨rfl, HB3.out⟩
end Go.Proofs.YtaplmlldmhdhoaaGreatDoor

/- Lines are read: Read. -/
namespace Go.Proofs.YtaplmlldmhdhoaaGreatDoor
open Go.RowKit Go.Maps
set_option linter.unusedVariables false
set_option maxRecDepth 100000 in
theorem built_lit2 (p : Nat) (x0 x1 x2 x3 x4 x5 x6 x7 x8 x9 x10 x11 x12 x13 x14 x15 x16 x17 x18 x19 x20 x21 x22 : Value) : Tryz.prog.built 135 [(0, ptrV p), (1, .agg #[x0, x1, x2, x3, x4, x5, x6, x7, x8, x9, x10, x11, x12, x13, x14, x15, x16, x17, x18, x19, x20, x21, x22])] = some #[ptrV p, x0, x1, x2, x3, x4, x5, x6, x7, x8, x9, x10, x11, x12, x13, x14, x15, x16, x17, x18, x19, x20, x21, x22] := by kernel_rfl
theorem built_file2 (p : Nat) {X : Array Value} (h : X.size = 23) : Tryz.prog.built 135 [(0, ptrV p), (1, .agg X)] = some (#[ptrV p] ++ X) := by
  obtain ⟨x0, x1, x2, x3, x4, x5, x6, x7, x8, x9, x10, x11, x12, x13, x14, x15, x16, x17, x18, x19, x20, x21, x22, rfl⟩ := arr23 h
  rw [built_lit2]
  exact congrArg some (by simp)
set_option maxRecDepth 100000 in
theorem fold_lit2 (p : Nat) (x0 x1 x2 x3 x4 x5 x6 x7 x8 x9 x10 x11 x12 x13 x14 x15 x16 x17 x18 x19 x20 x21 x22 : Value) : Array.foldl (fun (cs : Array Value) (x : Value × Nat) => cs.setIfInBounds (1 + x.snd) x.fst) #[ptrV p, .int .i64 0, .int .i64 0, .int .i64 0, .int .u32 0, .int .u32 0, .int .u32 0, .int .u64 0, .int .u64 0, .int .u32 0, .int .u32 0, .int .u32 0, .int .u32 0, .int .u32 0, .int .u32 0, .int .i64 0, .int .i64 0, .int .i64 0, .int .i64 0, .int .i64 0, .int .i64 0, .int .i64 0, .int .i64 0, .int .i64 0] (#[x0, x1, x2, x3, x4, x5, x6, x7, x8, x9, x10, x11, x12, x13, x14, x15, x16, x17, x18, x19, x20, x21, x22] : Array Value).zipIdx 0 23 = #[ptrV p, x0, x1, x2, x3, x4, x5, x6, x7, x8, x9, x10, x11, x12, x13, x14, x15, x16, x17, x18, x19, x20, x21, x22] := by kernel_rfl
theorem fold_file2 (p : Nat) {X : Array Value} (h : X.size = 23) : Array.foldl (fun (cs : Array Value) (x : Value × Nat) => cs.setIfInBounds (1 + x.snd) x.fst) #[ptrV p, .int .i64 0, .int .i64 0, .int .i64 0, .int .u32 0, .int .u32 0, .int .u32 0, .int .u64 0, .int .u64 0, .int .u32 0, .int .u32 0, .int .u32 0, .int .u32 0, .int .u32 0, .int .u32 0, .int .i64 0, .int .i64 0, .int .i64 0, .int .i64 0, .int .i64 0, .int .i64 0, .int .i64 0, .int .i64 0, .int .i64 0] X.zipIdx 0 23 = #[ptrV p] ++ X := by
  obtain ⟨x0, x1, x2, x3, x4, x5, x6, x7, x8, x9, x10, x11, x12, x13, x14, x15, x16, x17, x18, x19, x20, x21, x22, rfl⟩ := arr23 h
  rw [fold_lit2]
  simp
variable {w w' : World} {pv n N D hi : Nat} {S S' T : Nat → Prop} {i : Int} {base : Value} {P : Int → Option (List Int)} {bc c : Nat → List Int} {ptr : Nat → Nat} {L : List Ln} {X : Array Value}
/-- Bytes that are so many lines. -/
structure LinesOf (R : List Int) (L : List Ln) (from_ k : Nat) : Prop where
  len : R.length = k * 32
  isB : ∀ y ∈ R, IsB y
  line : ∀ j, j < k → (R.drop (j * 32)).take 32 = lineB (L.getD (from_ + j) noLn)
theorem Dd.rows (h : Dd N D hi c ptr L) (from_ k : Nat) (hk : from_ + k ≤ L.length) (h16 : from_ % 16 + k ≤ 16) : LinesOf (rdF c ptr (from_ * 32) (k * 32)) L from_ k := by
  have hline : ∀ j, j < k → ((rdF c ptr (from_ * 32) (k * 32)).drop (j * 32)).take 32 = lineB (L.getD (from_ + j) noLn) := fun j hj => by
    have e1 : (from_ * 32 + j * 32) / 512 = (from_ + j) / 16 := by omega
    have e2 : (from_ * 32 + j * 32) % 512 = (from_ + j) % 16 * 32 := by omega
    have ha := h.at_ ((from_ + j) / 16) (by omega)
    have hN := h.hiN
    rw [rdF_cut _ _ _ _ _ _ (by omega) (by omega) (by rw [e1]; exact h.len _ (by omega)), e1, e2]
    exact h.line _ (by omega)
  refine ⟨rdF_len _ _ _ _, fun y hy => ?_, hline⟩
  obtain ⟨q, hq, rfl⟩ := List.getElem_of_mem hy
  rw [rdF_len] at hq
  have hl := hline (q / 32) (by omega)
  have hm : (rdF c ptr (from_ * 32) (k * 32))[q]? = (lineB (L.getD (from_ + q / 32) noLn))[q % 32]? := by
    rw [← hl, List.getElem?_take, if_pos (by omega), List.getElem?_drop]
    congr 1
    omega
  have hok := h.ok (from_ + q / 32) (by omega)
  rw [List.getElem?_eq_getElem (by rw [rdF_len]; exact hq), List.getElem?_eq_getElem (by rw [lineB_len hok]; omega)] at hm
  rw [Option.some.inj hm]
  exact lineB_isB hok _ (List.getElem_mem _)
set_option maxRecDepth 100000 in
set_option maxHeartbeats 4000000 in
theorem Read_lines (hD : Dw w pv S N i base T bc n P c) (h : Dd N D hi c ptr L) (hX : InoIs X ((L.length * 32 : Nat) : Int) ptr) (from_ k : Nat) (hk0 : 0 < k) (hk : from_ + k ≤ L.length) (h16 : from_ % 16 + k ≤ 16) :
    Calls Tryz.prog 36 #[ptrV pv, .agg X, .int .u64 ((from_ * 32 : Nat) : Int), n64 ((k * 32 : Nat) : Int)] w fun e w' => ∃ g R, e = .returned (.tuple #[.slice (some ⟨g, 0, none⟩) (k * 32) (k * 32), .nilIface]) ∧ w.heap.size ≤ g ∧ w'.heap[g]? = some (.cells (u8s R).toArray 5 (0, 0)) ∧ LinesOf R L from_ k ∧ Below w.heap.size w w' := by
  have hm := h.max
  obtain ⟨W1, hW1⟩ : ∃ W, W = w.alloc (.cells X 31) := ⟨_, rfl⟩
  obtain ⟨W2, hW2⟩ : ∃ W, W = W1.alloc (.cells #[.pointer none, .int .i64 0, .int .i64 0, .int .i64 0, .int .u32 0, .int .u32 0, .int .u32 0, .int .u64 0, .int .u64 0, .int .u32 0, .int .u32 0, .int .u32 0, .int .u32 0, .int .u32 0, .int .u32 0, .int .i64 0, .int .i64 0, .int .i64 0, .int .i64 0, .int .i64 0, .int .i64 0, .int .i64 0, .int .i64 0, .int .i64 0] 135) := ⟨_, rfl⟩
  obtain ⟨C, hC⟩ : ∃ C, C = #[ptrV pv] ++ X := ⟨_, rfl⟩
  obtain ⟨W3, hW3⟩ : ∃ W, W = W2.setRow W1.heap.size C := ⟨_, rfl⟩
  have hXs := hX.sz
  have h1 : W1.heap[w.heap.size]? = some (.cells X 31 (0, 0)) := by rw [hW1]; exact alloc_new w _
  have b1 : Below w.heap.size w W1 := by rw [hW1]; exact (Below.refl _ _).alloc (Nat.le_refl _) _
  have s1 : W1.heap.size = w.heap.size + 1 := by rw [hW1]; simp
  have h2 : W2.heap[W1.heap.size]? = some (.cells #[.pointer none, .int .i64 0, .int .i64 0, .int .i64 0, .int .u32 0, .int .u32 0, .int .u32 0, .int .u64 0, .int .u64 0, .int .u32 0, .int .u32 0, .int .u32 0, .int .u32 0, .int .u32 0, .int .u32 0, .int .i64 0, .int .i64 0, .int .i64 0, .int .i64 0, .int .i64 0, .int .i64 0, .int .i64 0, .int .i64 0, .int .i64 0] 135 (0, 0)) := by rw [hW2]; exact alloc_new W1 _
  have b2 : Below w.heap.size w W2 := by rw [hW2]; exact b1.alloc b1.size _
  have b3 : Below w.heap.size w W3 := by rw [hW3]; exact below_setRow b2 b1.size _
  have h3 : W3.heap[W1.heap.size]? = some (.cells C 135 (0, 0)) := by rw [hW3]; exact setRow_heap W2 _ _ C _ _ h2
  obtain ⟨pf, hpf⟩ : ∃ pf, W1.heap.size = pf := ⟨_, rfl⟩
  obtain ⟨g0, hg0⟩ : ∃ g0, w.heap.size = g0 := ⟨_, rfl⟩
  rw [hpf] at h2 h3 hW3
  have HCS : Hid (C.size = 24) := hid (by rw [hC]; simp [hXs])
  have HCA : Hid (C.all (·.oneCell') = true) := hid (by rw [hC, Array.all_append, hX.one]; simp [Value.oneCell'])
  have hBE := fold_file2 pv hXs
  rw [← hC] at hBE
  have HBU : Hid (Tryz.prog.built 135 [(0, ptrV pv), (1, .agg X)] = some C) := hid (by rw [hC]; exact built_file2 pv hXs)
  have HXS := hid hXs
  rw [hg0] at h1
  have c6 : W1.cell? ⟨g0, 6, none⟩ = some (.int .u64 ((L.length * 32 : Nat) : Int)) := cell_of h1 hX.len
  obtain ⟨z, hz⟩ : ∃ z : Nat, z = L.length * 32 := ⟨_, rfl⟩
  obtain ⟨at_, hat⟩ : ∃ a : Nat, a = from_ * 32 := ⟨_, rfl⟩
  obtain ⟨m, hm2⟩ : ∃ m : Nat, m = k * 32 := ⟨_, rfl⟩
  rw [← hz] at c6
  have HRD := read_ok (hD.later b3) C ((z : Nat) : Int) ptr h3 (by rw [hC, hz]; exact hX.file pv) at_ m (by omega) ptr (fun q hq1 hq2 => by
    have ha := h.at_ q (by omega)
    have := h.D70
    have := h.hiN
    exact ⟨findOk_low (by omega), find_okk (by omega) rfl (by omega), by omega⟩)
  have HRO : Hid (LinesOf (rdF c ptr at_ m) L from_ k) := hid (by rw [hat, hm2]; exact h.rows from_ k hk h16)
  replace HRD := hid HRD
  have HH1 := hid h1
  have HH2 := hid h2
  have HB3 := hid b3
  rw [← hat, ← hm2]
  have u1 : min (z : Int) 1082199040 = (z : Int) := by omega
  have u1' : (z : Int) ≤ 1082199040 := by omega
  have u2 : ¬ (z : Int) ≤ (at_ : Int) := by omega
  have u3 : IntKind.u64.wrap (m : Int) = (m : Int) := by rw [IntKind.wrap_u64]; omega
  obtain ⟨r, hr⟩ : ∃ r : Nat, r = z - at_ := ⟨_, rfl⟩
  have u4 : IntKind.u64.wrap ((z : Int) - (at_ : Int)) = (r : Int) := by rw [IntKind.wrap_u64]; omega
  have u5 : min (m : Int) (r : Int) = (m : Int) := by omega
  have u5' : (m : Int) ≤ (r : Int) := by omega
  have u6 : ¬ (m : Int) < 0 := by omega
  clear hD h hX h1 h2 h3 b1 b2 b3 s1 hC hz hat hm2 hr hm hk hk0 h16
  go_enter Tryz.func36, Tryz.ntmps36
  go_wp2_with (first | (rw [← hW1]; clear hW1) | (rw [hg0]) | (rw [← hW2]; clear hW2) | (rw [hpf]) | (refine wpList_load_row rfl 31 _ rfl g0 rfl 31 X (0, 0) _ HH1.out Tryz.underlying31 rfl (by rw [HXS.out]; exact sizeIno) ?_) | (refine wpList_build_run rfl 135 _ rfl C HBU.out ?_) | (refine wpList_store_row rfl 135 _ _ rfl pf C rfl rfl 135 _ HH2.out (by rw [HCS.out]; exact sizeFile) (by rw [HCS.out]; rfl) HCA.out ?_; rw [← hW3]; clear hW3))
  refine HRD.out.mono ?_
  rintro e w4 ⟨rfl, hh4, hb4⟩
  have HH4 := hid hh4
  have HB4 := hid (HB3.out.trans (hb4.mono HB3.out.size))
  clear hh4 hb4
  go_wp2
  go_ret2
  exact ⟨_, _, rfl, HB3.out.size, HH4.out, HRO.out, HB4.out⟩
end Go.Proofs.YtaplmlldmhdhoaaGreatDoor
