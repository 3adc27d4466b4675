/- EcD, EcE in one text. -/
import Derived.Test.YtbfdkbdjipiliaaDoorEcC
import Derived.Deep.Upon
/- bytes.Clone; Parse. -/
namespace Go.Proofs.YtbfdkbdjipiliaaDoor
open Go.RowKit Go.Maps
set_option linter.unusedVariables false

abbrev frC (m : Mac) (k : Mac) (kind : Int) (v : Value) : Array Value := #[.int .u8 m.a, .int .u8 m.b, .int .u8 m.c, .int .u8 m.d, .int .u8 m.e, .int .u8 m.f, .int .u8 k.a, .int .u8 k.b, .int .u8 k.c, .int .u8 k.d, .int .u8 k.e, .int .u8 k.f, .int .i64 kind, v]
def mac0 : Mac := ⟨0, 0, 0, 0, 0, 0⟩
theorem frC_one (m k : Mac) (kind : Int) (v : Value) (hv : v.oneCell' = true) : (frC m k kind v).all (·.oneCell') = true := by
  have h1 : (frC m k kind v).all (·.oneCell') = (v.oneCell') := by simp [Value.oneCell']
  rw [h1, hv]
/-- A frame's kind. -/
def kindOf (l : List Int) : Int := beOf ((l.drop 12).take 2)
theorem kindOf_bd (l : List Int) (h : ∀ x ∈ l, IsB x) (hk : 14 ≤ l.length) : 0 ≤ kindOf l ∧ kindOf l < 65536 := by
  have := be_cut_bd l 12 2 h (by omega)
  unfold kindOf; omega
/-- 'append([]byte{}, d...)', whatever d is. -/
theorem twinY (W : World) (a : Option Addr) (n c : Nat) (d : List Int) (hn : d.length = n) (hl : n ≤ 900000) (h : Bytes W a d) (ty : TypeId) :
    ∃ a2 c2 w2, (Builtin.append_ #[27, 27] ty #[.slice (some ⟨W.heap.size, 0, none⟩) 0 0, .slice a n c]).run Tryd.prog (W.alloc (.cells #[] 5)) = .ok (.slice a2 n c2) w2 ∧ By w2 (New W) a2 d ∧ n ≤ c2 ∧ Below W.heap.size W w2 := by
  have hb1 : Below W.heap.size W (W.alloc (.cells #[] 5)) := (Below.refl _ _).alloc (Nat.le_refl _) _
  by_cases hp : 0 < n
  · have hg : Gr (W.alloc (.cells #[] 5)) W.heap.size (.slice (some ⟨W.heap.size, 0, none⟩) 0 0) [] := by
      refine ⟨fun x hx => by simp at hx, .inl ⟨by simp, .inr ⟨W.heap.size, 0, #[], rfl, Nat.le_refl _, alloc_new W _, by simp, by simp, by simp, by simp⟩⟩⟩
    obtain ⟨b, off, rfl, hcur⟩ := h.open_ (by omega)
    obtain ⟨a2, c2, w2, hap, hg2, ho2, hb2, _, _⟩ := hg.push (by simp) d h.isB (by omega) ⟨b, off, none⟩ n c hn (fun j u hj => by
      have hj2 : j < d.length := by have := (List.getElem?_eq_some_iff.1 hj).1; simpa using this
      rw [u8s_get hj2] at hj
      rw [add_addr]
      refine cell_later hb1 ?_
      rw [hcur j hj2]
      simpa using hj) (by simp; omega) ty
    simp only [List.length_nil, Nat.zero_add, List.nil_append] at hap hg2 ho2
    obtain ⟨a3, c3, e3, h3, _, h4⟩ := By.of_owns (S := New W) ho2 h.isB (fun g hg => (owns_lt ho2 hg).2)
    simp only [Value.slice.injEq, true_and] at e3
    obtain ⟨rfl, rfl⟩ := e3
    exact ⟨a2, c2, w2, hap, h4, h3, hb1.trans hb2⟩
  · obtain rfl : n = 0 := by omega
    obtain rfl : d = [] := List.eq_nil_of_length_eq_zero hn
    refine ⟨some ⟨W.heap.size, 0, none⟩, 0, W.alloc (.cells #[] 5), ?_, By.nil _ _ _, Nat.le_refl _, hb1⟩
    obtain ⟨i0, hi, hz0, hz1, hz2⟩ := info5b
    have hs : Src Tryd.prog i0.size 27 (.slice a 0 c) 0 [] (W.alloc (.cells #[] 5)) := by
      cases a with
      | none => exact Src.ofNil _ Tryd.underlying27 c
      | some ad => exact Src.ofSlice _ Tryd.underlying27 ad 0 c [] (by simp) (fun j u hj => by simp at hj) (fun u hu => by simp at hu)
    exact run_append_nothing _ 27 27 ty 5 i0 Tryd.underlying27 hi _ 0 0 (Nat.le_refl _) _ hs
set_option maxRecDepth 100000 in
set_option maxHeartbeats 1000000 in
theorem Clone_y (w : World) (a : Addr) (n c : Nat) (l : List Int) (hn : l.length = n) (hl : n ≤ 900000) (hb : Bytes w (some a) l) :
    Calls Tryd.prog 25 #[.slice (some a) n c] w fun e w' => ∃ a2 c2, e = .returned (.slice a2 n c2) ∧ By w' (New w) a2 l ∧ n ≤ c2 ∧ Below w.heap.size w w' := by
  obtain ⟨a2, c2, w2, hap, hy, hc, hb2⟩ := twinY w (some a) n c l hn hl hb 27
  have qT : ∀ (w : World) (a : Option Addr) (n c n' c' : Nat), (binOp .eql 27 (.slice a n c) (.slice none n' c')).run Tryd.prog w = .ok (.bool a.isNone) w := fun w a n c n' c' => Lib.run_eql_slice_nil w _ _ a n c n' c' Tryd.underlying27
  have HY := hid hy
  have HB2 := hid hb2
  clear hy hb2 hb hn
  go_enter Tryd.func25, Tryd.ntmps25
  go_wp2_with (at_builtin; refine wpList_append_run rfl _ _ 27 rfl rfl rfl hap ?_)
  go_ret
  exact ⟨a2, c2, rfl, HY.out, hc, HB2.out⟩
end Go.Proofs.YtbfdkbdjipiliaaDoor

/- slices.Grow, slices.Concat of bytes. -/
namespace Go.Proofs.YtbfdkbdjipiliaaDoor
open Go.RowKit Go.Maps
set_option linter.unusedVariables false

theorem zeroCells_u8 (n : Nat) : Builtin.zeroCells #[Value.int .u8 0] n = (List.replicate n (Value.int .u8 0)).toArray := by
  unfold Builtin.zeroCells
  apply Array.ext
  · simp
  · intro i h1 h2
    simp [Nat.mod_one]
section
variable (w : World)
set_option maxRecDepth 100000 in
theorem append_zeros_nil (i : TypeInfo) (hi : Tryd.prog.info? 5 = some i) (hz : i.zero = some (.int .u8 0)) (hs : i.size = 1) (hb : i.bytes = 1) (ty : TypeId) (n : Nat) (h0 : 0 < n) (hn : n ≤ 140737488355328) :
    (Builtin.append_ #[27, 3] ty #[.slice none 0 0, .int .i64 n]).run Tryd.prog w =
      .ok (.slice (some ⟨w.heap.size, 0, none⟩) n (grownCap w n 0 5)) (w.drew.alloc (.cells ((List.replicate n (Value.int .u8 0)).toArray ++ Builtin.zeroCells #[Value.int .u8 0] (grownCap w n 0 5 - n)) 5)) := by
  have hn0 : n ≠ 0 := by omega
  have h63' : ¬ (9223372036854775807 < (n : Int)) := by omega
  have h48' : ¬ (281474976710656 < Builtin.nextslicecap n 0) := by rw [nextslicecap_zero h0]; omega
  have hw : IntKind.i64.wrap (n : Int) = n := IntWalk.i64_in _ (by omega)
  have h1 : ¬ ((n : Int) < 0) := by omega
  have h2 : ¬ ((281474976710656 : Int) < (n : Int)) := by omega
  have h4 : max (n : Int) 0 = n := by omega
  simp [Builtin.append_, run_underlying Tryd.underlying27, run_underlying Tryd.underlying3, sizeOf, typeInfo, zeroValue, hi, hz, hs, hb, asInt, asIntOf, hw, h1, h2, h4, hn0, h63', h48', Question.forced, run_firstCells_none, newRow, grownCap, zeroCells_u8, Value.cells]
end
/-- A row of bytes of one's own. -/
def GO (w : World) (B : Nat) (v : Value) (l : List Int) : Prop := (∀ x ∈ l, IsB x) ∧ w.ownsRow B 5 1 v l.length (u8s l)
theorem GO.gr {w : World} {B : Nat} {v : Value} {l : List Int} (h : GO w B v l) : Gr w B v l := ⟨h.1, .inl h.2⟩
theorem GO.by_ {w : World} {B : Nat} {v : Value} {l : List Int} (h : GO w B v l) {S : Nat → Prop} (hS : ∀ b, B ≤ b → S b) : ∃ a c, v = .slice a l.length c ∧ l.length ≤ c ∧ By w S a l := by
  obtain ⟨a, c, e, h1, _, h2⟩ := By.of_owns (S := S) h.2 h.1 (fun g hg => hS g (owns_lt h.2 hg).2)
  exact ⟨a, c, e, h1, h2⟩
/-- 'append' of bytes, some or none. -/
theorem GO.push {w : World} {B : Nat} {a0 : Option Addr} {k c0 : Nat} {l : List Int} (h : GO w B (.slice a0 k c0) l) (hk : l.length = k) (hB : B ≤ w.heap.size) (m : List Int) (a : Option Addr) (n c : Nat) (hn : m.length = n) (hm : Bytes w a m) (hl : k + n ≤ 900000) (ty : TypeId) :
    ∃ a' c' w', (Builtin.append_ #[27, 27] ty #[.slice a0 k c0, .slice a n c]).run Tryd.prog w = .ok (.slice a' (k + n) c') w' ∧ GO w' B (.slice a' (k + n) c') (l ++ m) ∧ Below B w w' := by
  subst hk
  by_cases hp : 0 < n
  · obtain ⟨b, off, rfl, hcur⟩ := hm.open_ (by omega)
    obtain ⟨a2, c2, w2, hap, hg2, ho2, hb2, _, _⟩ := h.gr.push hB m hm.isB (by omega) ⟨b, off, none⟩ n c hn (fun j u hj => by
      have hj2 : j < m.length := by have := (List.getElem?_eq_some_iff.1 hj).1; simpa using this
      rw [u8s_get hj2] at hj
      rw [add_addr, hcur j hj2]
      simpa using hj) (by omega) ty
    exact ⟨a2, c2, w2, hap, ⟨hg2.1, by rw [List.length_append, hn]; exact ho2⟩, hb2⟩
  · obtain rfl : n = 0 := by omega
    obtain rfl : m = [] := List.eq_nil_of_length_eq_zero hn
    obtain ⟨i0, hi, hz0, hz1, hz2⟩ := info5b
    have hs : Src Tryd.prog i0.size 27 (.slice a 0 c) 0 [] w := by
      cases a with
      | none => exact Src.ofNil _ Tryd.underlying27 c
      | some ad => exact Src.ofSlice _ Tryd.underlying27 ad 0 c [] (by simp) (fun j u hj => by simp at hj) (fun u hu => by simp at hu)
    obtain ⟨a1, c1, e1, h1, _⟩ := h.by_ (S := fun _ => True) (fun _ _ => trivial)
    simp only [Value.slice.injEq, true_and] at e1
    obtain ⟨rfl, rfl⟩ := e1
    refine ⟨a0, c0, w, run_append_nothing _ 27 27 ty 5 i0 Tryd.underlying27 hi _ _ _ h1 _ hs, ?_, Below.refl _ _⟩
    rw [List.append_nil, Nat.add_zero]
    exact h
set_option maxRecDepth 100000 in
theorem cutH_run (a : Option Addr) (len cap hi : Nat) (hh : hi ≤ cap) (W : World) : (Instr.slice 27 (.slice a len cap) none (some (.int .i64 hi)) none).run Tryd.prog W = .ok (.slice a hi cap) W := by
  have hz : (sizeOf 5).run Tryd.prog W = .ok 1 W := by kernel_rfl
  rw [run_slice_h (P := Tryd.prog) W 27 a len cap Tryd.underlying27 .i64 hi (by omega) (by omega)]
  have e : Tryd.prog.elem 27 = 5 := by kernel_rfl
  rw [e, hz]
  cases a <;> simp [sliced, Addr.add]
theorem wpList_append_run2 {P : Program} {w : World} {ops : Array Oper} {rest : List Oper} {o : Oper} {a : Act} {Q : Exit → Act → World → Prop} (hgd : o.guard = none) (s x : Operand) (t u : TypeId)
    (ho : o.op = .call { callee := .builtin .append, args := #[s, x], argTypes := #[t, u] }) {v y v' : Value} {w' : World} (hs : a.eval s = v) (hx : a.eval x = y)
    (hrun : (Builtin.append_ #[t, u] o.type #[v, y]).run P w = .ok v' w') (h : wpList P ops Q rest (a.put o.dst v') w') : wpList P ops Q (o :: rest) a w := by
  refine wpList_plain hgd fun K hK => ?_
  unfold Oper.wp execOp
  simp only [ho, resolve, invoke, builtin, Sem.run_bind, Sem.run_pure, Result.andThen_ok, List.map_toArray, List.map_cons, List.map_nil, hs, hx, hrun]
  exact hK _ _ h
theorem flat_snoc (ls : List (List Int)) (k : Nat) (h : k < ls.length) : (ls.take (k + 1)).flatten = (ls.take k).flatten ++ ls.getD k [] := by
  have e : ls.getD k [] = ls[k] := by simp [List.getD, h]
  rw [e, List.take_succ_eq_append_getElem h, List.flatten_append, List.flatten_cons, List.flatten_nil, List.append_nil]
end Go.Proofs.YtbfdkbdjipiliaaDoor
