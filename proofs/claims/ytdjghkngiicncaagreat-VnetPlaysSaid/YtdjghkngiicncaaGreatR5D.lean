/- R5C, R5D in one text. -/
import Derived.Test.YtdjghkngiicncaaGreatNetJ
import Derived.Test.YtdjghkngiicncaaGreatRefA
/- The document's card: the small functions. -/
namespace Go.Proofs.YtdjghkngiicncaaGreat
open Go.RowKit

theorem areaI_size (n : Int) : (sizeI n = 0 ∧ areaI n = 0) ∨ (sizeI n = 8 + 26 * n ∧ areaI n = 2 * (8 + 26 * n) + 2 * n * 1528 ∧ 1 ≤ n ∧ n ≤ 256) := by
  unfold sizeI areaI
  cases h : pow2 n with
  | false => simp
  | true => have := pow2_bd h; simp; omega
set_option maxRecDepth 100000 in
set_option maxHeartbeats 400000 in
theorem rArea_any (w : World) (n : Int) : Calls Tryz.prog 6 #[.int .i64 n] w fun e w' => e = .returned (.int .i64 (areaI n)) ∧ w' = w := by
  have HS := hid (refSize_any w n)
  rcases areaI_size n with ⟨h1, h2⟩ | ⟨h1, h2, h3, h4⟩
  · rw [h1] at HS
    rw [h2]
    clear h1 h2
    go_enter Tryz.func6, Tryz.ntmps6
    go_wp2_with (go_at_call 22; refine HS.out.mono ?_; rintro e w1 ⟨rfl, hw1⟩; rw [hw1]; clear hw1)
    go_ret
    exact ⟨rfl, rfl⟩
  · rw [h1] at HS
    rw [h2]
    clear h1 h2
    have hne : ¬ (8 + 26 * n = 0) := by omega
    have e1 : IntKind.i64.wrap (2 * (8 + 26 * n)) = 2 * (8 + 26 * n) := IntWalk.i64_in _ (by omega)
    have e2 : IntKind.i64.wrap (2 * n) = 2 * n := IntWalk.i64_in _ (by omega)
    have e3 : IntKind.i64.wrap (2 * n * 1528) = 2 * n * 1528 := IntWalk.i64_in _ (by omega)
    have e4 : IntKind.i64.wrap (2 * (8 + 26 * n) + 2 * n * 1528) = 2 * (8 + 26 * n) + 2 * n * 1528 := IntWalk.i64_in _ (by omega)
    go_enter Tryz.func6, Tryz.ntmps6
    go_wp2_with (go_at_call 22; refine HS.out.mono ?_; rintro e w1 ⟨rfl, hw1⟩; rw [hw1]; clear hw1)
    go_ret
    exact ⟨rfl, rfl⟩
set_option maxRecDepth 100000 in
set_option maxHeartbeats 400000 in
theorem rfits_any (w : World) (a : Option Addr) (len cap : Nat) (base n : Int) (hl : len ≤ 1099511627776) : Calls Tryz.prog 26 #[.slice a len cap, .int .i64 base, .int .i64 n] w fun e w' => e = .returned (.bool (hasB len base n)) ∧ w' = w := by
  have hbd := areaI_bd n
  have hcon := hid (rArea_any w n)
  unfold hasB
  generalize areaI n = z at *
  by_cases h0 : 0 < z
  · by_cases h1 : 0 ≤ base
    · by_cases h2 : base ≤ (len : Int)
      · have e1 : IntKind.i64.wrap ((len : Int) - base) = (len : Int) - base := IntWalk.i64_in _ (by omega)
        have e0 : (decide (0 < z) && (decide (0 ≤ base) && decide (base ≤ (len : Int) - z))) = decide (z ≤ (len : Int) - base) := by
          simp only [h0, h1, decide_true, Bool.true_and]
          by_cases h3 : z ≤ (len : Int) - base
          · rw [decide_eq_true h3, decide_eq_true (by omega)]
          · rw [decide_eq_false h3, decide_eq_false (by omega)]
        rw [e0]
        clear e0 hbd
        go_enter Tryz.func26, Tryz.ntmps26
        go_wp2_with (go_at_call 6; refine hcon.out.mono ?_; rintro e w1 ⟨rfl, hw1⟩; rw [hw1]; clear hw1)
        go_ret
        exact ⟨rfl, rfl⟩
      · have e0 : (decide (0 < z) && (decide (0 ≤ base) && decide (base ≤ (len : Int) - z))) = false := by simp [h0, h1]; omega
        rw [e0]
        clear e0 hbd
        go_enter Tryz.func26, Tryz.ntmps26
        go_wp2_with (go_at_call 6; refine hcon.out.mono ?_; rintro e w1 ⟨rfl, hw1⟩; rw [hw1]; clear hw1)
        go_ret
        exact ⟨rfl, rfl⟩
    · have e0 : (decide (0 < z) && (decide (0 ≤ base) && decide (base ≤ (len : Int) - z))) = false := by simp [h1]
      rw [e0]
      clear e0 hbd
      go_enter Tryz.func26, Tryz.ntmps26
      go_wp2_with (go_at_call 6; refine hcon.out.mono ?_; rintro e w1 ⟨rfl, hw1⟩; rw [hw1]; clear hw1)
      go_ret
      exact ⟨rfl, rfl⟩
  · have e0 : (decide (0 < z) && (decide (0 ≤ base) && decide (base ≤ (len : Int) - z))) = false := by simp [h0]
    rw [e0]
    clear e0 hbd
    go_enter Tryz.func26, Tryz.ntmps26
    go_wp2_with (go_at_call 6; refine hcon.out.mono ?_; rintro e w1 ⟨rfl, hw1⟩; rw [hw1]; clear hw1)
    go_ret
    exact ⟨rfl, rfl⟩
set_option maxRecDepth 100000 in
set_option maxHeartbeats 1000000 in
theorem rat_any (w : World) (pc : Nat) (H : Nh) (p z : Nat) (c3 : w.cell? ⟨pc, 3, none⟩ = some (.int .i64 H.base)) (c4 : w.cell? ⟨pc, 4, none⟩ = some (.int .i64 H.n)) (hp : p ≤ 1024) (hz : H.fi + p * 1528 = z) :
    Calls Tryz.prog 38 #[.pointer (some ⟨pc, 0, none⟩), .int .i64 p] w fun e w' => e = .returned (.int .i64 z) ∧ ∃ q, w' = w.drewN q := by
  have hbd := H.bd
  have hb : H.base ≤ 1099511627776 := by have := H.fit; have := H.big; omega
  have hS : sizeI H.n = 8 + 26 * (H.n : Int) := by unfold sizeI; rw [if_pos H.p2]
  have HS := hid (fun W : World => refSize_any W H.n)
  rw [hS] at HS
  have e1 : IntKind.i64.wrap (2 * (8 + 26 * (H.n : Int))) = 2 * (8 + 26 * (H.n : Int)) := IntWalk.i64_in _ (by omega)
  have e2 : IntKind.i64.wrap ((H.base : Int) + 2 * (8 + 26 * (H.n : Int))) = (H.base : Int) + 2 * (8 + 26 * (H.n : Int)) := IntWalk.i64_in _ (by omega)
  have e3 : IntKind.i64.wrap ((p : Int) * 1528) = (p : Int) * 1528 := IntWalk.i64_in _ (by omega)
  have e4 : IntKind.i64.wrap ((H.base : Int) + 2 * (8 + 26 * (H.n : Int)) + (p : Int) * 1528) = z := by
    rw [IntWalk.i64_in _ (by omega), ← hz]
    unfold Nh.fi
    omega
  clear hz hS
  go_enter Tryz.func38, Tryz.ntmps38
  go_wp2_with fail
  go_quiet ((go_at_call 22; exact Calls.quiet_of_same (HS.out _)))
  go_wp2
  go_ret
  exact ⟨rfl, _, rfl⟩
/-- Pairs of a head and its place. -/
def cellsO (l : List Nat) : List Value := l.flatMap fun (x : Nat) => [.int .i64 (x : Int), .int .i64 (x : Int)]
def PRow (w : World) (v : Value) (l : List Nat) : Prop := w.ownsRow 0 84 2 v l.length (cellsO l)
theorem PRow.keep {w w' : World} {v : Value} {l : List Nat} (h : PRow w v l) (hk : ∀ b, v.ownBlock = some b → w'.heap[b]? = w.heap[b]?) : PRow w' v l := owns_keep h hk
theorem PRow.lt {w : World} {v : Value} {l : List Nat} (h : PRow w v l) {b : Nat} (hb : v.ownBlock = some b) : b < w.heap.size := (owns_lt h hb).1
theorem cellsO_len (l : List Nat) : (cellsO l).length = l.length * 2 := by
  induction l with
  | nil => rfl
  | cons x l ih => simp only [cellsO, List.flatMap_cons, List.length_append] at *; rw [ih]; simp; omega
theorem cellsO_get (l : List Nat) (i : Nat) (hi : i < l.length) : (cellsO l)[i * 2]? = some (.int .i64 (l.getD i 0 : Nat)) ∧ (cellsO l)[i * 2 + 1]? = some (.int .i64 (l.getD i 0 : Nat)) := by
  induction l generalizing i with
  | nil => simp at hi
  | cons x l ih =>
    cases i with
    | zero => simp [cellsO]
    | succ i =>
      have h := ih i (by simpa using hi)
      have e1 : (cellsO (x :: l))[(i + 1) * 2]? = (cellsO l)[i * 2]? := by
        show ([Value.int .i64 (x : Int), .int .i64 (x : Int)] ++ cellsO l)[(i + 1) * 2]? = _
        rw [List.getElem?_append_right (by simp; omega)]
        congr 1
        simp
        omega
      have e2 : (cellsO (x :: l))[(i + 1) * 2 + 1]? = (cellsO l)[i * 2 + 1]? := by
        show ([Value.int .i64 (x : Int), .int .i64 (x : Int)] ++ cellsO l)[(i + 1) * 2 + 1]? = _
        rw [List.getElem?_append_right (by simp; omega)]
        congr 1
        simp
        omega
      rw [e1, e2]
      simpa using h
theorem PRow.open_ {w : World} {v : Value} {l : List Nat} (h : PRow w v l) : ∃ a c, v = .slice a l.length c ∧ ∀ i, i < l.length → ∃ b, a = some ⟨b, 0, none⟩ ∧ v.ownBlock = some b ∧ w.cell? ⟨b, i * 2, none⟩ = some (.int .i64 (l.getD i 0 : Nat)) ∧ w.cell? ⟨b, i * 2 + 1, none⟩ = some (.int .i64 (l.getD i 0 : Nat)) := by
  obtain ⟨a, c, e⟩ := owns_slice h
  refine ⟨a, c, e, fun i hi => ?_⟩
  rcases h.2 with ⟨_, h0⟩ | ⟨g, cap, cur, e2, hb, hh, hc1, hc2, hcs, ht⟩
  · omega
  · have e3 := e2
    rw [e] at e2
    simp only [Value.slice.injEq] at e2
    obtain ⟨g1, g2⟩ := cellsO_get l i hi
    have k : ∀ j, j < l.length * 2 → cur[j]? = (cellsO l)[j]? := fun j hj => by
      have e4 : (cur.toList.take (l.length * 2))[j]? = (cellsO l)[j]? := by rw [ht]
      rw [List.getElem?_take] at e4
      simpa [hj] using e4
    refine ⟨g, e2.1, by rw [e3]; simp [Value.ownBlock], ?_, ?_⟩
    · unfold World.cell?
      simp [hh, k (i * 2) (by omega), g1]
    · unfold World.cell?
      simp [hh, k (i * 2 + 1) (by omega), g2]
theorem cellsO_append (l l' : List Nat) : cellsO (l ++ l') = cellsO l ++ cellsO l' := by simp [cellsO]
theorem info84 : ∃ i, Tryz.prog.info? 84 = some i ∧ i.zero = some (.agg #[.int .i64 0, .int .i64 0]) ∧ i.size = 2 ∧ i.bytes = 16 := by
  have : (Tryz.prog.info? 84).map (fun i => (i.zero, i.size, i.bytes)) = some (some (.agg #[.int .i64 0, .int .i64 0]), 2, 16) := by kernel_rfl
  cases h : Tryz.prog.info? 84 with
  | none => rw [h] at this; cases this
  | some i => rw [h] at this; simp at this; exact ⟨i, rfl, this.1, this.2.1, this.2.2⟩
theorem append_off_run (w : World) (base : Nat) (v : Value) (L : List Nat) (hown : w.ownsRow base 84 2 v L.length (cellsO L)) (cb off m c : Nat) (M : List Nat) (hM : M.length = m) (hc : ∀ i, i < m → w.cell? ⟨cb, off + i * 2, none⟩ = some (.int .i64 (M.getD i 0 : Nat)) ∧ w.cell? ⟨cb, off + i * 2 + 1, none⟩ = some (.int .i64 (M.getD i 0 : Nat)))
    (hl : L.length + m ≤ 65536) (hb : base ≤ w.heap.size) (ty : TypeId) : ∃ v' w', (Builtin.append_ #[58, 58] ty #[v, .slice (some ⟨cb, off, none⟩) m c]).run Tryz.prog w = .ok v' w' ∧ w'.ownsRow base 84 2 v' (L ++ M).length (cellsO (L ++ M)) ∧ w.grownBy w' v.ownBlock ∧ (v'.ownBlock = v.ownBlock ∨ v'.ownBlock = some w.heap.size) := by
  obtain ⟨i0, hi, hz0, hz1, hz2⟩ := info84
  obtain ⟨v', w', hr, k1, k2, _, k4⟩ := run_append_own_at (P := Tryz.prog) (w := w) base 58 ty 84 i0 _ 2 16 Tryz.underlying58 hi hz0 hz1 hz2 rfl (by decide) v L.length (cellsO L) hown ⟨cb, off, none⟩ m c (cellsO M) (by rw [cellsO_len, hM]) (fun j u hj => by
    have hj2 : j < M.length * 2 := by have := (List.getElem?_eq_some_iff.1 hj).1; rw [cellsO_len] at this; exact this
    rw [add_addr]
    obtain ⟨c1, c2⟩ := hc (j / 2) (by omega)
    obtain ⟨g1, g2⟩ := cellsO_get M (j / 2) (by omega)
    rcases (show j = j / 2 * 2 ∨ j = j / 2 * 2 + 1 by omega) with e | e
    · rw [e, c1, ← g1, ← e]; exact hj
    · rw [e, ← Nat.add_assoc, c2, ← g2, ← e]; exact hj) (fun u hu => by
      simp only [cellsO, List.mem_flatMap] at hu
      obtain ⟨q, _, hu⟩ := hu
      simp only [List.mem_cons, List.not_mem_nil, or_false] at hu
      rcases hu with rfl | rfl <;> rfl) (by unfold maxLen; omega) (by omega) hb
  refine ⟨v', w', hr, ?_, k2, k4⟩
  rw [List.length_append, cellsO_append, hM]
  exact k1
theorem nappend_run {P : Program} {w : World} {ops : Array Oper} {rest : List Oper} {o : Oper} {a : Act} {Q : Exit → Act → World → Prop} (hgd : o.guard = none) (s x : Operand) (t : TypeId)
    (ho : o.op = .call { callee := .builtin .append, args := #[s, x], argTypes := #[t, t] }) {v y v' : Value} {w' : World} (hs : a.eval s = v) (hx : a.eval x = y)
    (hrun : (Builtin.append_ #[t, t] o.type #[v, y]).run P w = .ok v' w') (h : wpList P ops Q rest (a.put o.dst v') w') : wpList P ops Q (o :: rest) a w := by
  refine wpList_plain hgd fun K hK => ?_
  unfold Oper.wp execOp
  simp only [ho, resolve, invoke, builtin, Sem.run_bind, Sem.run_pure, Result.andThen_ok, List.map_toArray, List.map_cons, List.map_nil, hs, hx, hrun]
  exact hK _ _ h
theorem nstep_append {P : Program} {ops : Array Oper} {o : Oper} {a : Act} {w : World} {K : Act → World → Prop} {Q : Exit → Act → World → Prop} {E : Prop} (hgd : o.guard = none) (s x : Operand) (t : TypeId)
    (ho : o.op = .call { callee := .builtin .append, args := #[s, x], argTypes := #[t, t] }) {v y v' : Value} {w' : World} (hs : a.eval s = v) (hx : a.eval x = y)
    (hrun : (Builtin.append_ #[t, t] o.type #[v, y]).run P w = .ok v' w') (h : K (a.put o.dst v') w') :
    if Region.wanted o (yielded ops a.tmps) = true then Oper.wp P o a w K Q else E := by
  have hw : Region.wanted o (yielded ops a.tmps) = true := by simp [Region.wanted, hgd]
  rw [if_pos hw]
  unfold Oper.wp execOp
  simp only [ho, resolve, invoke, builtin, Sem.run_bind, Sem.run_pure, Result.andThen_ok, List.map_toArray, List.map_cons, List.map_nil, hs, hx, hrun]
  exact h
set_option maxRecDepth 100000 in
theorem cut58_h (b len cap hi : Nat) (hh : hi ≤ cap) (W : World) : (Instr.slice 58 (.slice (some ⟨b, 0, none⟩) len cap) none (some (.int .i64 hi)) none).run Tryz.prog W = .ok (.slice (some ⟨b, 0, none⟩) hi cap) W := by
  have hz : (sizeOf 84).run Tryz.prog W = .ok 2 W := by kernel_rfl
  rw [run_slice_h (P := Tryz.prog) W 58 (some ⟨b, 0, none⟩) len cap Tryz.underlying58 .i64 hi (by omega) (by omega)]
  have e : Tryz.prog.elem 58 = 84 := by kernel_rfl
  rw [e, hz]
  simp [sliced, Addr.add]
def nbehind2 (b len cap lo : Nat) : Value := .slice (if cap = lo then some ⟨b, 0, none⟩ else some ⟨b, lo * 2, none⟩) (len - lo) (cap - lo)
set_option maxRecDepth 100000 in
theorem cut58_l (b len cap lo : Nat) (h : lo ≤ len) (W : World) : (Instr.slice 58 (.slice (some ⟨b, 0, none⟩) len cap) (some (.int .i64 lo)) none none).run Tryz.prog W = .ok (nbehind2 b len cap lo) W := by
  have hz : (sizeOf 84).run Tryz.prog W = .ok 2 W := by kernel_rfl
  rw [run_slice_l (P := Tryz.prog) W 58 (some ⟨b, 0, none⟩) len cap Tryz.underlying58 .i64 lo (by omega) (by omega)]
  have e : Tryz.prog.elem 58 = 84 := by kernel_rfl
  rw [e, hz]
  unfold nbehind2
  by_cases h2 : cap = lo
  · simp [sliced, h2]
  · simp [sliced, Addr.add, h2]
    omega
theorem nbehind2_slice (b len cap lo : Nat) : ∃ off, nbehind2 b len cap lo = .slice (some ⟨b, off, none⟩) (len - lo) (cap - lo) ∧ (off = lo * 2 ∨ cap = lo) := by
  unfold nbehind2
  by_cases h : cap = lo
  · exact ⟨0, by rw [if_pos h], .inr h⟩
  · exact ⟨lo * 2, by rw [if_neg h], .inl rfl⟩
end Go.Proofs.YtdjghkngiicncaaGreat

/- The document's card: what a head was offered for; may a piece be. -/
namespace Go.Proofs.YtdjghkngiicncaaGreat
open Go.RowKit

theorem ngetD_mid (l1 l2 : List Nat) (x i : Nat) : (i < l1.length → (l1 ++ x :: l2).getD i 0 = l1.getD i 0) ∧ (l1 ++ x :: l2).getD l1.length 0 = x ∧ (l1 ++ x :: l2).getD (l1.length + 1 + i) 0 = l2.getD i 0 := by
  refine ⟨fun h => ?_, ?_, ?_⟩
  · simp [List.getD, List.getElem?_append_left h]
  · simp [List.getD]
  · simp only [List.getD]
    rw [List.getElem?_append_right (by omega), show l1.length + 1 + i - l1.length = i + 1 by omega, List.getElem?_cons_succ]
set_option maxRecDepth 100000 in
set_option maxHeartbeats 2000000 in
theorem taken_any (w : World) (v : Value) (l1 l2 : List Nat) (x : Nat) (h : PRow w v (l1 ++ x :: l2)) (hx : x ∉ l1) (hlen : (l1 ++ x :: l2).length ≤ 256) :
    Calls Tryz.prog 37 #[v, .int .i64 x] w fun e w' => ∃ v', e = .returned (.tuple #[.int .i64 x, v']) ∧ PRow w' v' (l1 ++ l2) ∧ (∀ b, v'.ownBlock = some b → w.heap.size ≤ b) ∧ Below w.heap.size w w' := by
  obtain ⟨a, fc, hv, hc⟩ := h.open_
  obtain ⟨fb, ha, hob, jk1, jk2⟩ := hc 0 (by simp; omega)
  clear jk1 jk2
  subst ha
  have hfl : fb < w.heap.size := h.lt hob
  have hcap : (l1 ++ x :: l2).length ≤ fc := by
    rcases h.2 with ⟨e1, h0⟩ | ⟨g', cap', cur, e1, _, _, hc1, _⟩
    · simp at h0
    · rw [hv] at e1
      simp only [Value.slice.injEq] at e1
      omega
  obtain ⟨n, hn⟩ : ∃ n, (l1 ++ x :: l2).length = n := ⟨_, rfl⟩
  obtain ⟨f1, hf1⟩ : ∃ f1, l1.length = f1 := ⟨_, rfl⟩
  have hnf : n = f1 + 1 + l2.length := by rw [← hn, ← hf1]; simp; omega
  have HC1 : Hid (∀ i, i < f1 → w.cell? ⟨fb, i * 2, none⟩ = some (.int .i64 (l1.getD i 0 : Nat)) ∧ w.cell? ⟨fb, i * 2 + 1, none⟩ = some (.int .i64 (l1.getD i 0 : Nat))) := hid (fun i hi => by
    obtain ⟨b, e1, _, e2, e3⟩ := hc i (by omega)
    simp at e1
    rw [(ngetD_mid l1 l2 x i).1 (by omega)] at e2 e3
    rw [e1]
    exact ⟨e2, e3⟩)
  have HC2 : Hid (w.cell? ⟨fb, f1 * 2, none⟩ = some (.int .i64 x) ∧ w.cell? ⟨fb, f1 * 2 + 1, none⟩ = some (.int .i64 x)) := hid (by
    obtain ⟨b, e1, _, e2, e3⟩ := hc f1 (by omega)
    simp at e1
    rw [← hf1, (ngetD_mid l1 l2 x 0).2.1] at e2 e3
    rw [e1, ← hf1]
    exact ⟨e2, e3⟩)
  have HC3 : Hid (∀ i, i < l2.length → w.cell? ⟨fb, (f1 + 1 + i) * 2, none⟩ = some (.int .i64 (l2.getD i 0 : Nat)) ∧ w.cell? ⟨fb, (f1 + 1 + i) * 2 + 1, none⟩ = some (.int .i64 (l2.getD i 0 : Nat))) := hid (fun i hi => by
    obtain ⟨b, e1, _, e2, e3⟩ := hc (f1 + 1 + i) (by omega)
    simp at e1
    rw [← hf1, (ngetD_mid l1 l2 x i).2.2] at e2 e3
    rw [e1, ← hf1]
    exact ⟨e2, e3⟩)
  have HNX : Hid (∀ i, i < f1 → l1.getD i 0 ≠ x) := hid (fun i hi e => hx (by rw [← e]; exact getD_mem l1 0 i (by omega)))
  rw [hn] at hv hlen hcap
  subst hv
  have hcut1 := cut58_h fb n fc f1 (by omega)
  have hcut2 := cut58_l fb n fc (f1 + 1) (by omega)
  rw [show ((f1 + 1 : Nat) : Int) = (f1 : Int) + 1 by omega] at hcut2
  obtain ⟨off, hbe, hoff⟩ := nbehind2_slice fb n fc (f1 + 1)
  rw [hbe] at hcut2
  obtain ⟨v6, w6, hr6, ho6, hg6, hb6⟩ := append_off_run w w.heap.size (.slice none 0 0) [] ⟨rfl, .inl ⟨rfl, rfl⟩⟩ fb 0 f1 fc l1 hf1 (fun i hi => by rw [Nat.zero_add]; exact HC1.out i hi) (by simp; omega) (Nat.le_refl _) 58
  have hbl6 : Below w.heap.size w w6 := (Below.refl _ w).grown hg6 (Nat.le_refl _) (fun k hk => by simp [Value.ownBlock] at hk)
  have hs6 := hbl6.size
  have hl2n : l2.length = n - (f1 + 1) := by omega
  obtain ⟨v7, w7, hr7, ho7, hg7, hb7⟩ := append_off_run w6.drew w.heap.size v6 l1 (owns_below (by simpa using ho6) ((Below.refl _ w6).drew)) fb off (n - (f1 + 1)) (fc - (f1 + 1)) l2 hl2n (fun i hi => by
    rcases hoff with rfl | e
    · have h3 := HC3.out i (by omega)
      rw [show (f1 + 1) * 2 + i * 2 = (f1 + 1 + i) * 2 by omega]
      exact ⟨cell_later hbl6.drew h3.1, cell_later hbl6.drew h3.2⟩
    · omega) (by rw [hf1]; omega) hs6 58
  have hbl7 : Below w.heap.size w w7 := (hbl6.drew).grown hg7 hs6 (fun k hk => (owns_lt (by simpa using ho6) hk).2)
  have HB7 := hid hbl7
  have HO7 := hid ho7
  have HS7 : Hid (w7.cell? ⟨fb, f1 * 2 + 1, none⟩ = some (.int .i64 x)) := hid (cell_later hbl7 HC2.out.2)
  have hS6 := cell_later hbl6 HC2.out.2
  obtain ⟨a6, c6, hv6⟩ := owns_slice ho6
  have HNF : Hid (f1 < n) := hid (by omega)
  clear h hx hob hc hn hf1 hoff hbe ho6 hg6 hb6 hg7 hb7 ho7 hbl6 hbl7 hl2n hnf
  subst hv6
  go_enter Tryz.func37, Tryz.ntmps37
  go_wp2
  go_loopw [6] (fun z wr => ∃ i : Nat, i ≤ f1 ∧ z = .int .i64 i ∧ wr = w) (fun z _ => f1 + 1 - (RowKit.intOf z).toNat)
  case atStart => exact ⟨0, Nat.zero_le _, rfl, rfl⟩
  case round =>
    obtain ⟨i, hi, rfl, rfl⟩ := hrel
    have hin : (i : Int) < n := by have := HNF.out; omega
    have hi0 : (0 : Int) ≤ i := by omega
    by_cases hif : i < f1
    · have k0 := (HC1.out i hif).1
      have hne := HNX.out i hif
      generalize l1.getD i 0 = y at *
      have g1 : ((y : Int) == (x : Int)) = false := by rw [beq_eq_false_iff_ne]; omega
      have g2 : ¬ ((y : Int) = (x : Int)) := by omega
      go_wp2
      go_roundw
      case rel => exact ⟨i + 1, by omega, by go_num, by trivial⟩
      case measure => simp [RowKit.intOf]; omega
    · obtain rfl : i = f1 := by omega
      have k0 := HC2.out.1
      have hw1 : IntKind.i64.wrap ((i : Int) + 1) = (i : Int) + 1 := IntWalk.i64_in _ (by omega)
      go_wp2_with (at_builtin; refine nappend_run rfl (.tmp 21) (.tmp 24) 58 rfl rfl rfl hr6 ?_)
      go_region_held3 (fun w' => w'.cell? ⟨fb, i * 2 + 1, none⟩ = some (.int .i64 x)) ((first | exact hS6 | exact HS7.out))
        ((refine nstep_append rfl (.tmp 31) (.tmp 35) 58 rfl rfl rfl hr7 ?_))
      go_wp2
      go_ret2
      refine ⟨v7, rfl, ?_, fun b hb => (owns_lt HO7.out hb).2, HB7.out⟩
      exact owns_mono HO7.out (Nat.zero_le _)
/-- May a chain be such a piece? -/
def rpB (N : Nat) (n : Int) (t : Bool) : List Bf → Bool
  | [b] => decide (n ≤ b.len) && ((b.wt == t) && (decide (b.addr ≤ N) && decide (b.len ≤ N - b.addr)))
  | _ => false
set_option maxRecDepth 100000 in
set_option maxHeartbeats 2000000 in
theorem rpiece_any (w : World) (pp : Nat) (ga : Option Addr) (N base : Nat) (v : Value) (L : List Bf) (n : Int) (t : Bool) (c2 : w.cell? ⟨pp, 2, none⟩ = some (.slice ga N N)) (hN : N ≤ 1099511627776) (hown : w.ownsRow base 88 3 v L.length (cellsB L)) (hok : ∀ b ∈ L, 0 ≤ b.addr ∧ b.addr ≤ 4611686018427387904) :
    Calls Tryz.prog 49 #[.pointer (some ⟨pp, 0, none⟩), v, .int .i64 n, .bool t] w fun e w' => e = .returned (.bool (rpB N n t L)) ∧ ∃ q, w' = w.drewN q := by
  by_cases hl : L.length = 1
  · obtain ⟨b, rfl⟩ := List.length_eq_one_iff.1 hl
    obtain ⟨lb, lc, rfl, _, _, l0, l1, l2⟩ := buf_cells hown
    obtain ⟨x, y, u⟩ := b
    obtain ⟨h0, h1⟩ := hok ⟨x, y, u⟩ (by simp)
    simp only at h0 h1 l0 l1 l2
    have e1 : IntKind.i64.wrap ((N : Int) - x) = (N : Int) - x := IntWalk.i64_in _ (by omega)
    simp only [rpB]
    clear hown hok hl
    by_cases g1 : n ≤ y
    · by_cases g2 : u = t
      · subst g2
        have g2' : (u == u) = true := by simp
        by_cases g3 : x ≤ (N : Int)
        · have e0 : (decide (n ≤ y) && ((u == u) && (decide (x ≤ (N : Int)) && decide (y ≤ (N : Int) - x)))) = decide (y ≤ (N : Int) - x) := by simp [g1, g3]
          rw [e0]
          clear e0
          go_enter Tryz.func49, Tryz.ntmps49
          go_wp2
          go_quiet (fail)
          go_wp2
          go_ret
          exact ⟨rfl, _, rfl⟩
        · have e0 : (decide (n ≤ y) && ((u == u) && (decide (x ≤ (N : Int)) && decide (y ≤ (N : Int) - x)))) = false := by simp [g3]
          rw [e0]
          have g3' : decide (x ≤ (N : Int)) = false := by simpa using g3
          clear e0
          go_enter Tryz.func49, Tryz.ntmps49
          go_wp2
          go_quiet (fail)
          go_wp2
          go_ret
          exact ⟨rfl, _, rfl⟩
      · have e0 : (decide (n ≤ y) && ((u == t) && (decide (x ≤ (N : Int)) && decide (y ≤ (N : Int) - x)))) = false := by simp [g2]
        rw [e0]
        have g2' : (u == t) = false := by simpa using g2
        clear e0
        go_enter Tryz.func49, Tryz.ntmps49
        go_wp2
        go_quiet (fail)
        go_wp2
        go_ret
        exact ⟨rfl, _, rfl⟩
    · have e0 : (decide (n ≤ y) && ((u == t) && (decide (x ≤ (N : Int)) && decide (y ≤ (N : Int) - x)))) = false := by simp [g1]
      rw [e0]
      have g1' : decide (n ≤ y) = false := by simpa using g1
      clear e0
      go_enter Tryz.func49, Tryz.ntmps49
      go_wp2
      go_quiet (fail)
      go_wp2
      go_ret
      exact ⟨rfl, _, rfl⟩
  · obtain ⟨la, lc, rfl⟩ := owns_slice hown
    have e0 : rpB N n t L = false := by
      unfold rpB
      split
      · simp at hl
      · rfl
    rw [e0]
    have hli : ¬ ((L.length : Int) = 1) := by omega
    have hlp : decide ((L.length : Int) = 1) = false := by simpa using hli
    have hlb : ((L.length : Int) == 1) = false := by simpa using hli
    clear e0 hown hok
    generalize L.length = tln at *
    go_enter Tryz.func49, Tryz.ntmps49
    go_wp2
    go_quiet (fail)
    go_wp2
    go_ret
    exact ⟨rfl, _, rfl⟩
end Go.Proofs.YtdjghkngiicncaaGreat
