/- slices.Grow, slices.Concat of bytes. -/
import Derived.Test.YtlflbpemjlgdiaaEcD
namespace Go.Proofs.Ytlflbpemjlgdiaa
open Go.RowKit Go.Maps
set_option linter.unusedVariables false

theorem zeroCells_u8 (n : Nat) : Builtin.zeroCells #[Value.int .u8 0] n = (List.replicate n (Value.int .u8 0)).toArray := by
  unfold Builtin.zeroCells
  apply Array.ext
  · simp
  · intro i h1 h2
    simp [Nat.mod_one]
section
variable (w : World)
set_option maxRecDepth 100000 in
theorem append_zeros_nil (i : TypeInfo) (hi : Try.prog.info? 5 = some i) (hz : i.zero = some (.int .u8 0)) (hs : i.size = 1) (hb : i.bytes = 1) (ty : TypeId) (n : Nat) (h0 : 0 < n) (hn : n ≤ 140737488355328) :
    (Builtin.append_ #[22, 3] ty #[.slice none 0 0, .int .i64 n]).run Try.prog w =
      .ok (.slice (some ⟨w.heap.size, 0, none⟩) n (grownCap w n 0 5)) (w.drew.alloc (.cells ((List.replicate n (Value.int .u8 0)).toArray ++ Builtin.zeroCells #[Value.int .u8 0] (grownCap w n 0 5 - n)) 5)) := by
  have hn0 : n ≠ 0 := by omega
  have h63' : ¬ (9223372036854775807 < (n : Int)) := by omega
  have h48' : ¬ (281474976710656 < Builtin.nextslicecap n 0) := by rw [nextslicecap_zero h0]; omega
  have hw : IntKind.i64.wrap (n : Int) = n := IntWalk.i64_in _ (by omega)
  have h1 : ¬ ((n : Int) < 0) := by omega
  have h2 : ¬ ((281474976710656 : Int) < (n : Int)) := by omega
  have h4 : max (n : Int) 0 = n := by omega
  simp [Builtin.append_, run_underlying Try.underlying22, run_underlying Try.underlying3, sizeOf, typeInfo, zeroValue, hi, hz, hs, hb, asInt, asIntOf, hw, h1, h2, h4, hn0, h63', h48', Question.forced, run_firstCells_none, newRow, grownCap, zeroCells_u8, Value.cells]
end
/-- A row of bytes of one's own. -/
def GO (w : World) (B : Nat) (v : Value) (l : List Int) : Prop := (∀ x ∈ l, IsB x) ∧ w.ownsRow B 5 1 v l.length (u8s l)
theorem GO.gr {w : World} {B : Nat} {v : Value} {l : List Int} (h : GO w B v l) : Gr w B v l := ⟨h.1, .inl h.2⟩
theorem GO.by_ {w : World} {B : Nat} {v : Value} {l : List Int} (h : GO w B v l) {S : Nat → Prop} (hS : ∀ b, B ≤ b → S b) : ∃ a c, v = .slice a l.length c ∧ l.length ≤ c ∧ By w S a l := by
  obtain ⟨a, c, e, h1, _, h2⟩ := By.of_owns (S := S) h.2 h.1 (fun g hg => hS g (owns_lt h.2 hg).2)
  exact ⟨a, c, e, h1, h2⟩
/-- 'append' of bytes, some or none. -/
theorem GO.push {w : World} {B : Nat} {a0 : Option Addr} {k c0 : Nat} {l : List Int} (h : GO w B (.slice a0 k c0) l) (hk : l.length = k) (hB : B ≤ w.heap.size) (m : List Int) (a : Option Addr) (n c : Nat) (hn : m.length = n) (hm : Bytes w a m) (hl : k + n ≤ 900000) (ty : TypeId) :
    ∃ a' c' w', (Builtin.append_ #[22, 22] ty #[.slice a0 k c0, .slice a n c]).run Try.prog w = .ok (.slice a' (k + n) c') w' ∧ GO w' B (.slice a' (k + n) c') (l ++ m) ∧ Below B w w' := by
  subst hk
  by_cases hp : 0 < n
  · obtain ⟨b, off, rfl, hcur⟩ := hm.open_ (by omega)
    obtain ⟨a2, c2, w2, hap, hg2, ho2, hb2, _, _⟩ := h.gr.push hB m hm.isB (by omega) ⟨b, off, none⟩ n c hn (fun j u hj => by
      have hj2 : j < m.length := by have := (List.getElem?_eq_some_iff.1 hj).1; simpa using this
      rw [u8s_get hj2] at hj
      rw [add_addr, hcur j hj2]
      simpa using hj) (by omega) ty
    exact ⟨a2, c2, w2, hap, ⟨hg2.1, by rw [List.length_append, hn]; exact ho2⟩, hb2⟩
  · obtain rfl : n = 0 := by omega
    obtain rfl : m = [] := List.eq_nil_of_length_eq_zero hn
    obtain ⟨i0, hi, hz0, hz1, hz2⟩ := info5b
    have hs : Src Try.prog i0.size 22 (.slice a 0 c) 0 [] w := by
      cases a with
      | none => exact Src.ofNil _ Try.underlying22 c
      | some ad => exact Src.ofSlice _ Try.underlying22 ad 0 c [] (by simp) (fun j u hj => by simp at hj) (fun u hu => by simp at hu)
    obtain ⟨a1, c1, e1, h1, _⟩ := h.by_ (S := fun _ => True) (fun _ _ => trivial)
    simp only [Value.slice.injEq, true_and] at e1
    obtain ⟨rfl, rfl⟩ := e1
    refine ⟨a0, c0, w, run_append_nothing _ 22 22 ty 5 i0 Try.underlying22 hi _ _ _ h1 _ hs, ?_, Below.refl _ _⟩
    rw [List.append_nil, Nat.add_zero]
    exact h
theorem cutH_run (a : Option Addr) (len cap hi : Nat) (hh : hi ≤ cap) (W : World) : (Instr.slice 22 (.slice a len cap) none (some (.int .i64 hi)) none).run Try.prog W = .ok (.slice a hi cap) W := by
  have hz : (sizeOf 5).run Try.prog W = .ok 1 W := by kernel_rfl
  rw [run_slice_h (P := Try.prog) W 22 a len cap Try.underlying22 .i64 hi (by omega) (by omega)]
  have e : Try.prog.elem 22 = 5 := by kernel_rfl
  rw [e, hz]
  cases a <;> simp [sliced, Addr.add]
theorem wpList_append_run2 {P : Program} {w : World} {ops : Array Oper} {rest : List Oper} {o : Oper} {a : Act} {Q : Exit → Act → World → Prop} (hgd : o.guard = none) (s x : Operand) (t u : TypeId)
    (ho : o.op = .call { callee := .builtin .append, args := #[s, x], argTypes := #[t, u] }) {v y v' : Value} {w' : World} (hs : a.eval s = v) (hx : a.eval x = y)
    (hrun : (Builtin.append_ #[t, u] o.type #[v, y]).run P w = .ok v' w') (h : wpList P ops Q rest (a.put o.dst v') w') : wpList P ops Q (o :: rest) a w := by
  refine wpList_plain hgd fun K hK => ?_
  unfold Oper.wp execOp
  simp only [ho, resolve, invoke, builtin, Sem.run_bind, Sem.run_pure, Result.andThen_ok, List.map_toArray, List.map_cons, List.map_nil, hs, hx, hrun]
  exact hK _ _ h
set_option maxRecDepth 100000 in
set_option maxHeartbeats 1000000 in
theorem Grow_nil (w : World) (n : Nat) (h0 : 0 < n) (hn : n ≤ 900000) :
    Calls Try.prog 44 #[.slice none 0 0, .int .i64 n] w fun e w' => ∃ a c, e = .returned (.slice a 0 c) ∧ GO w' w.heap.size (.slice a 0 c) [] ∧ Below w.heap.size w w' := by
  obtain ⟨i0, hi, hz0, hz1, hz2⟩ := info5b
  have hap := append_zeros_nil w i0 hi hz0 hz1 hz2 22 n h0 (by omega)
  obtain ⟨cap, hcap⟩ : ∃ cap, cap = grownCap w n 0 5 := ⟨_, rfl⟩
  obtain ⟨W1, hW1⟩ : ∃ W, W = w.drew.alloc (.cells ((List.replicate n (Value.int .u8 0)).toArray ++ Builtin.zeroCells #[Value.int .u8 0] (grownCap w n 0 5 - n)) 5) := ⟨_, rfl⟩
  rw [← hW1, ← hcap] at hap
  have hle : n ≤ cap ∧ cap ≤ maxLen := by rw [hcap]; exact ⟨grownCap_ge _ _ _ _, grownCap_le_maxLen _ _ _ _ (by unfold maxLen; omega)⟩
  have hcs : ((List.replicate n (Value.int .u8 0)).toArray ++ Builtin.zeroCells #[Value.int .u8 0] (grownCap w n 0 5 - n)).size = cap := by
    rw [zeroCells_u8, ← hcap]; simp; omega
  have hG : GO W1 w.heap.size (.slice (some ⟨w.heap.size, 0, none⟩) 0 cap) [] := by
    refine ⟨fun x hx => by simp at hx, by simp, .inr ⟨w.heap.size, cap, _, rfl, Nat.le_refl _, by rw [hW1]; exact alloc_new w.drew _, Nat.zero_le _, hle.2, by rw [hcs]; omega, by simp⟩⟩
  have hb1 : Below w.heap.size w W1 := by rw [hW1]; exact ((Below.refl _ _).drew).alloc (Nat.le_refl _) _
  have hcut := cutH_run (some ⟨w.heap.size, 0, none⟩) n cap 0 (Nat.zero_le _)
  have hcut0 := cutH_run none 0 0 0 (Nat.zero_le _)
  have HG := hid hG
  have HB1 := hid hb1
  have hni : ¬ ((n : Int) < 0) := by omega
  have hnj : (0 : Int) < n := by omega
  have hcut' : ∀ W : World, (Instr.slice 22 (.slice (some ⟨w.heap.size, 0, none⟩) n cap) none (some (.int .i64 0)) none).run Try.prog W = .ok (.slice (some ⟨w.heap.size, 0, none⟩) 0 cap) W := hcut
  have hcut0' : ∀ W : World, (Instr.slice 22 (.slice none 0 0) none (some (.int .i64 0)) none).run Try.prog W = .ok (.slice none 0 0) W := hcut0
  clear hG hb1 hcs hW1 hcap hle hcut hcut0 hi hz0 hz1 hz2
  go_enter Try.func44, Try.ntmps44
  go_wp2_with (at_builtin; refine wpList_append_run2 rfl _ _ 22 3 rfl rfl rfl hap ?_)
  go_ret
  exact ⟨_, _, rfl, HG.out, HB1.out⟩
theorem flat_snoc (ls : List (List Int)) (k : Nat) (h : k < ls.length) : (ls.take (k + 1)).flatten = (ls.take k).flatten ++ ls.getD k [] := by
  have e : ls.getD k [] = ls[k] := by simp [List.getD, h]
  rw [e, List.take_succ_eq_append_getElem h, List.flatten_append, List.flatten_cons, List.flatten_nil, List.append_nil]
set_option maxRecDepth 100000 in
set_option maxHeartbeats 1000000 in
theorem Concat_any (w : World) (a : Option Addr) (K c n : Nat) (ls : List (List Int)) (hK : ls.length = K) (hK2 : K ≤ 1000) (hR : RowsOf w a ls) (hn : ls.flatten.length = n) (h0 : 0 < n) (hl : n ≤ 900000) :
    Calls Try.prog 29 #[.slice a K c] w fun e w' => ∃ a2 c2, e = .returned (.slice a2 n c2) ∧ By w' (New w) a2 ls.flatten ∧ n ≤ c2 ∧ Below w.heap.size w w' := by
  obtain ⟨T, hT⟩ : ∃ T : Nat → Nat, T = fun k => (ls.take k).flatten.length := ⟨_, rfl⟩
  have T0 : T 0 = 0 := by rw [hT]; simp
  have TK : T K = n := by rw [hT]; show (ls.take K).flatten.length = n; rw [List.take_of_length_le (by omega), hn]
  have TS : ∀ k, k < K → T (k + 1) = T k + (ls.getD k []).length := fun k hk => by rw [hT]; show (ls.take (k + 1)).flatten.length = (ls.take k).flatten.length + _; rw [flat_snoc ls k (by omega), List.length_append]
  have TE : ∀ k, (ls.take k).flatten.length = T k := fun k => by rw [hT]
  have TM : ∀ k, k ≤ K → T k ≤ n := fun k hk => by
    have h : ∀ j, k + j ≤ K → T k ≤ T (k + j) := fun j => by
      induction j with
      | zero => intro _; exact Nat.le_refl _
      | succ j ih => intro h; have := ih (by omega); have := TS (k + j) (by omega); rw [← Nat.add_assoc]; omega
    have := h (K - k) (by omega)
    rw [show k + (K - k) = K by omega, TK] at this
    exact this
  have HT0 := hid T0
  have HTK := hid TK
  have HTS := hid TS
  have HTE := hid TE
  have HTM := hid TM
  have HR := hid hR
  have HK := hid hK
  have HGW := hid (Grow_nil w n h0 hl)
  clear T0 TK TS TE TM hT hR hK hn
  go_enter Try.func29, Try.ntmps29
  go_wp2
  go_loopw [3, 11] (fun s i wr => ∃ k : Nat, k ≤ K ∧ i = .int .i64 k ∧ s = .int .i64 (T k) ∧ wr = w) (fun _ i _ => K - (RowKit.intOf i).toNat)
  case atStart => exact ⟨0, Nat.zero_le _, rfl, by rw [HT0.out]; rfl, rfl⟩
  case round =>
    obtain ⟨k, hk, rfl, rfl, hwr⟩ := hrel
    obtain rfl : w = wr := hwr.symm
    by_cases hlt : k < K
    · obtain ⟨b, off, ai, ci, rfl, hcell, hby⟩ := HR.out k (by rw [HK.out]; exact hlt)
      have hs := HTS.out k hlt
      have hm := HTM.out (k + 1) hlt
      have HS := hid hs
      generalize (ls.getD k []).length = m at *
      have hw1 : IntKind.i64.wrap ((T k : Int) + m) = (T (k + 1) : Int) := by rw [IntWalk.i64_in _ (by omega)]; omega
      have hneg : ¬ ((T (k + 1) : Int) < 0) := by omega
      clear hby hs
      go_wp2
      go_roundw
      case rel => exact ⟨k + 1, hlt, by go_num, rfl, trivial⟩
      case measure => simp [RowKit.intOf]; omega
    · obtain rfl : k = K := by omega
      rw [HTK.out]
      go_wp2_with (go_at_call 44; refine HGW.out.mono ?_; rintro e w1 ⟨a1, c1, rfl, hg1, hb1⟩; have HG1 := hid hg1; have HB1 := hid hb1; clear hg1 hb1)
      go_loopw [6, 27] (fun v i wr => ∃ j : Nat, j ≤ k ∧ i = .int .i64 j ∧ GO wr w.heap.size v (ls.take j).flatten ∧ Below w.heap.size w wr) (fun _ i _ => k - (RowKit.intOf i).toNat)
      case atStart => exact ⟨0, Nat.zero_le _, rfl, by simpa using HG1.out, HB1.out⟩
      case round =>
        obtain ⟨j, hj, rfl, hg, hb⟩ := hrel
        have hlj := HTE.out j
        obtain ⟨a2, c2, e2, hc2, hy2⟩ := hg.by_ (S := New w) (fun _ h => h)
        rw [hlj] at e2 hc2
        subst e2
        by_cases hlt2 : j < k
        · obtain ⟨b, off, ai, ci, rfl, hcell, hby⟩ := HR.out j (by rw [HK.out]; exact hlt2)
          have hcell2 := cell_later hb hcell
          have hby2 := hby.later hb
          have hTS := HTS.out j hlt2
          have hTM := HTM.out (j + 1) hlt2
          obtain ⟨a3, c3, w3, hap, hg3, hb3⟩ := hg.push hlj hb.size (ls.getD j []) ai _ ci rfl hby2 (by omega) 22
          rw [← flat_snoc ls j (by rw [HK.out]; exact hlt2)] at hg3
          have HG3 := hid hg3
          have HB3 := hid (hb.trans hb3)
          generalize (ls.getD j []).length = m at *
          have HTSj := hid hTS
          clear hg hb hby hby2 hg3 hb3 hlj hcell hc2 hTS hTM hy2
          go_wp2_with (at_builtin; refine wpList_append_run rfl _ _ 22 rfl rfl rfl hap ?_)
          go_roundw
          case rel => exact ⟨j + 1, hlt2, by go_num, HG3.out, HB3.out⟩
          case measure => simp [RowKit.intOf]; omega
        · obtain rfl : j = k := by omega
          have e : ls.take j = ls := List.take_of_length_le (by rw [HK.out]; exact Nat.le_refl _)
          rw [e] at hy2
          have HB := hid hb
          have HY := hid hy2
          rw [HTK.out] at hc2 ⊢
          clear hb hlj e hy2 hg
          go_wp2
          go_ret
          exact ⟨a2, c2, rfl, HY.out, hc2, HB.out⟩
end Go.Proofs.Ytlflbpemjlgdiaa
