/- Two inodes compared; read again. -/
import Derived.Test.YtgcaidjppcjjeaaGreatDoorIeK
import Derived.Test.YtgcaidjppcjjeaaGreatDoorVgA
import Derived.ChangeKeysEq
import Derived.Laws.StructEq
namespace Go.Proofs.YtgcaidjppcjjeaaGreatDoor
open Go.RowKit Go.Maps
set_option linter.unusedVariables false

/-- An inode's cells, whatever its numbers. -/
def rawC (a : Int) (b : Int) (d : Int) (u : Nat → Int) (f : Nat → Int) : Array Value := #[.int .i64 a, .int .i64 b, .int .i64 d, .int .u32 (u 0), .int .u32 (u 1), .int .u32 (u 2), .int .u64 (u 3), .int .u64 (u 4), .int .u32 (u 5), .int .u32 (u 6), .int .u32 (u 7), .int .u32 (u 8), .int .u32 (u 9), .int .u32 (u 10), .int .i64 (f 0), .int .i64 (f 1), .int .i64 (f 2), .int .i64 (f 3), .int .i64 (f 4), .int .i64 (f 5), .int .i64 (f 6), .int .i64 (f 7), .int .i64 (f 8)]
theorem eqI {t : TypeId} {k : IntKind} (d : Nat) (x : Int) (h : Tryz.prog.underlying t = some (.int k)) (w : World) : (Op.equalIn (d + 1) t (.int k x) (.int k x)).run Tryz.prog w = .ok true w := by rw [run_equalIn_int w d t k k x x h]; simp
theorem eqF {d : Nat} {xs : Array Value} {f : Field} {fs : List Field} (a : Value) {w : World} (hn : f.name ≠ "_") (ha : (part f.type xs f.offset).run Tryz.prog w = .ok a w) (hr : (Op.equalIn d f.type a a).run Tryz.prog w = .ok true w) (hs : (Op.eqFields d xs xs fs).run Tryz.prog w = .ok true w) : (Op.eqFields d xs xs (f :: fs)).run Tryz.prog w = .ok true w := by
  unfold Op.eqFields
  rw [if_pos hn]
  simp only [Sem.run_bind, ha, hr, Result.andThen_ok, Bool.not_true, Bool.false_eq_true, if_false]
  exact hs
theorem eqN {d : Nat} {xs : Array Value} {w : World} : (Op.eqFields d xs xs []).run Tryz.prog w = .ok true w := rfl
theorem eqT {d e c : Nat} {xs : Array Value} {i : Nat} {is : List Nat} (a : Value) {w : World} (ha : (part e xs (i * c)).run Tryz.prog w = .ok a w) (hr : (Op.equalIn d e a a).run Tryz.prog w = .ok true w) (hs : (Op.eqItems d e c xs xs is).run Tryz.prog w = .ok true w) : (Op.eqItems d e c xs xs (i :: is)).run Tryz.prog w = .ok true w := by
  unfold Op.eqItems
  simp only [Sem.run_bind, ha, hr, Result.andThen_ok, Bool.not_true, Bool.false_eq_true, if_false]
  exact hs
theorem eqTime (d : Nat) (x y : Int) (w : World) : (Op.equalIn (d + 2) 29 (.agg #[.int .u32 x, .int .u32 y]) (.agg #[.int .u32 x, .int .u32 y])).run Tryz.prog w = .ok true w := by
  rw [run_equalIn_struct w (d + 1) 29 _ _ (by kernel_rfl) (by kernel_rfl)]
  simp only [Program.fieldsOf, Tryz.underlying29]
  refine eqF (.int .u32 x) (by decide) (by kernel_rfl) (eqI _ _ (by kernel_rfl) _) ?_
  exact eqF (.int .u32 y) (by decide) (by kernel_rfl) (eqI _ _ (by kernel_rfl) _) eqN
theorem item9 (x0 x1 x2 x3 x4 x5 x6 x7 x8 : Value) (w : World) : (part 3 #[x0, x1, x2, x3, x4, x5, x6, x7, x8] (0 * 1)).run Tryz.prog w = .ok x0 w ∧ (part 3 #[x0, x1, x2, x3, x4, x5, x6, x7, x8] (1 * 1)).run Tryz.prog w = .ok x1 w ∧ (part 3 #[x0, x1, x2, x3, x4, x5, x6, x7, x8] (2 * 1)).run Tryz.prog w = .ok x2 w ∧ (part 3 #[x0, x1, x2, x3, x4, x5, x6, x7, x8] (3 * 1)).run Tryz.prog w = .ok x3 w ∧ (part 3 #[x0, x1, x2, x3, x4, x5, x6, x7, x8] (4 * 1)).run Tryz.prog w = .ok x4 w ∧ (part 3 #[x0, x1, x2, x3, x4, x5, x6, x7, x8] (5 * 1)).run Tryz.prog w = .ok x5 w ∧ (part 3 #[x0, x1, x2, x3, x4, x5, x6, x7, x8] (6 * 1)).run Tryz.prog w = .ok x6 w ∧ (part 3 #[x0, x1, x2, x3, x4, x5, x6, x7, x8] (7 * 1)).run Tryz.prog w = .ok x7 w ∧ (part 3 #[x0, x1, x2, x3, x4, x5, x6, x7, x8] (8 * 1)).run Tryz.prog w = .ok x8 w := ⟨by kernel_rfl, by kernel_rfl, by kernel_rfl, by kernel_rfl, by kernel_rfl, by kernel_rfl, by kernel_rfl, by kernel_rfl, by kernel_rfl⟩
theorem eqPtr (d : Nat) (f : Nat → Int) (w : World) : (Op.equalIn (d + 2) 37 (.agg #[.int .i64 (f 0), .int .i64 (f 1), .int .i64 (f 2), .int .i64 (f 3), .int .i64 (f 4), .int .i64 (f 5), .int .i64 (f 6), .int .i64 (f 7), .int .i64 (f 8)]) (.agg #[.int .i64 (f 0), .int .i64 (f 1), .int .i64 (f 2), .int .i64 (f 3), .int .i64 (f 4), .int .i64 (f 5), .int .i64 (f 6), .int .i64 (f 7), .int .i64 (f 8)])).run Tryz.prog w = .ok true w := by
  have hi : ∃ i, Tryz.prog.info? 3 = some i := info_of_underlying (Tryz.underlying3)
  obtain ⟨i, hi⟩ := hi
  rw [run_equalIn_array w (d + 1) _ _ (Tryz.underlying37) hi]
  have hc : Tryz.prog.cellsOf 3 = 1 := by kernel_rfl
  rw [hc]
  obtain ⟨a0, a1, a2, a3, a4, a5, a6, a7, a8⟩ := item9 (.int .i64 (f 0)) (.int .i64 (f 1)) (.int .i64 (f 2)) (.int .i64 (f 3)) (.int .i64 (f 4)) (.int .i64 (f 5)) (.int .i64 (f 6)) (.int .i64 (f 7)) (.int .i64 (f 8)) w
  have u := Tryz.underlying3
  rw [show List.range 9 = [0, 1, 2, 3, 4, 5, 6, 7, 8] from rfl]
  exact eqT _ a0 (eqI d _ u w) (eqT _ a1 (eqI d _ u w) (eqT _ a2 (eqI d _ u w) (eqT _ a3 (eqI d _ u w) (eqT _ a4 (eqI d _ u w) (eqT _ a5 (eqI d _ u w) (eqT _ a6 (eqI d _ u w) (eqT _ a7 (eqI d _ u w) (eqT _ a8 (eqI d _ u w) rfl))))))))
set_option maxRecDepth 100000 in
theorem eqRaw (a b d : Int) (u f : Nat → Int) (w : World) : (binOp .eql 39 (.agg (rawC a b d u f)) (.agg (rawC a b d u f))).run Tryz.prog w = .ok (.bool true) w := by
  rw [run_eql_struct]
  have h1 : (Op.equalIn (9999 + 1) 39 (.agg (rawC a b d u f)) (.agg (rawC a b d u f))).run Tryz.prog w = .ok true w := by
    rw [run_equalIn_struct w 9999 39 _ _ (by kernel_rfl) (by kernel_rfl)]
    simp only [Program.fieldsOf, Tryz.underlying39]
    refine eqF (.int .i64 a) (by decide) (by kernel_rfl) (eqI 9998 _ (by kernel_rfl) _) ?_
    refine eqF (.int .i64 b) (by decide) (by kernel_rfl) (eqI 9998 _ (by kernel_rfl) _) ?_
    refine eqF (.int .i64 d) (by decide) (by kernel_rfl) (eqI 9998 _ (by kernel_rfl) _) ?_
    refine eqF (.int .u32 (u 0)) (by decide) (by kernel_rfl) (eqI 9998 _ (by kernel_rfl) _) ?_
    refine eqF (.int .u32 (u 1)) (by decide) (by kernel_rfl) (eqI 9998 _ (by kernel_rfl) _) ?_
    refine eqF (.int .u32 (u 2)) (by decide) (by kernel_rfl) (eqI 9998 _ (by kernel_rfl) _) ?_
    refine eqF (.int .u64 (u 3)) (by decide) (by kernel_rfl) (eqI 9998 _ (by kernel_rfl) _) ?_
    refine eqF (.int .u64 (u 4)) (by decide) (by kernel_rfl) (eqI 9998 _ (by kernel_rfl) _) ?_
    refine eqF (.agg #[.int .u32 (u 5), .int .u32 (u 6)]) (by decide) (by kernel_rfl) (eqTime 9997 _ _ _) ?_
    refine eqF (.agg #[.int .u32 (u 7), .int .u32 (u 8)]) (by decide) (by kernel_rfl) (eqTime 9997 _ _ _) ?_
    refine eqF (.agg #[.int .u32 (u 9), .int .u32 (u 10)]) (by decide) (by kernel_rfl) (eqTime 9997 _ _ _) ?_
    exact eqF (.agg #[.int .i64 (f 0), .int .i64 (f 1), .int .i64 (f 2), .int .i64 (f 3), .int .i64 (f 4), .int .i64 (f 5), .int .i64 (f 6), .int .i64 (f 7), .int .i64 (f 8)]) (by decide) (by kernel_rfl) (eqPtr 9997 _ _) eqN
  have h2 : (Op.equalIn 10000 39 (.agg (rawC a b d u f)) (.agg (rawC a b d u f))).run Tryz.prog w = .ok true w := h1
  rw [h2]
  rfl
theorem decI_raw (l : List Int) : ∃ a b d u f, decI l = rawC a b d u f :=
  ⟨rdN l 0 1, rdN l 2 2, rdN l 4 2, fun j => match j with | 0 => rdN l 8 4 | 1 => rdN l 12 4 | 2 => rdN l 16 4 | 3 => rdN l 24 8 | 4 => rdN l 32 8 | 5 => rdN l 40 4 | 6 => rdN l 44 4 | 7 => rdN l 48 4 | 8 => rdN l 52 4 | 9 => rdN l 56 4 | _ => rdN l 60 4, fun j => rdN l (64 + 4 * j) 4, rfl⟩
theorem eqDec (l : List Int) (R : Array Value) (h : R = decI l) (w : World) : (binOp .eql 39 (.agg R) (.agg R)).run Tryz.prog w = .ok (.bool true) w := by
  obtain ⟨a, b, d, u, f, e⟩ := decI_raw l
  rw [h, e]
  exact eqRaw a b d u f w
set_option maxHeartbeats 400000 in
theorem within10 (x n : Int) (h0 : 0 < n) (hn : n < 1099511627776) (w : World) : Calls Tryz.prog 10 #[n64 x, n64 n] w fun e w' => e = .returned (n64 (wi x n)) ∧ w' = w := by
  have hne : ¬ (n = 0) := by omega
  have hne' : n ≠ 0 := by omega
  by_cases h : x.tmod n < 0
  · have hw := wrap_wi h0 hn h
    have e : wi x n = x.tmod n + n := by unfold wi; rw [if_pos h]
    rw [e]
    go_enter Tryz.func10, Tryz.ntmps10
    go_wp2
    go_ret
    exact ⟨rfl, rfl⟩
  · have e : wi x n = x.tmod n := by unfold wi; rw [if_neg h]
    rw [e]
    go_enter Tryz.func10, Tryz.ntmps10
    go_wp2
    go_ret
    exact ⟨rfl, rfl⟩
theorem lay_same (l p : List Int) (B : Nat) (hp : p.length = 128) (hB : B + 128 ≤ l.length) : ((layL l B p).drop B).take 128 = p := by
  unfold layL
  have hl : (l.take B).length = B := by rw [List.length_take]; omega
  have e1 : (l.take B ++ (p ++ l.drop (B + p.length))).drop B = p ++ l.drop (B + p.length) := List.drop_left' hl
  rw [e1]
  exact List.take_left' hp
set_option maxRecDepth 100000 in
theorem lay_other (l p : List Int) (B B' : Nat) (hp : p.length = 128) (hB : B + 128 ≤ l.length) (hB' : B' + 128 ≤ l.length) (h : B' + 128 ≤ B ∨ B + 128 ≤ B') : ((layL l B p).drop B').take 128 = (l.drop B').take 128 := by
  apply List.ext_getElem?
  intro j
  rw [List.getElem?_take, List.getElem?_take]
  by_cases hj : j < 128
  · rw [if_pos hj, if_pos hj, List.getElem?_drop, List.getElem?_drop]
    unfold layL
    rcases h with h | h
    · rw [List.getElem?_append_left (by rw [List.length_take]; omega), List.getElem?_take, if_pos (by omega)]
    · rw [List.getElem?_append_right (by rw [List.length_take]; omega), List.getElem?_append_right (by rw [List.length_take]; omega), List.getElem?_drop, List.length_take, hp]
      have e : B + 128 + (B' + j - min B l.length - 128) = B' + j := by rw [Nat.min_eq_left (by omega)]; omega
      rw [e]
  · rw [if_neg hj, if_neg hj]
/-- The law at work: the view, and the box that its inode lies in. -/
structure Jx (w0 w : World) (pv : Nat) (S : Nat → Prop) (N : Nat) (i : Int) (base : Value) (T : Nat → Prop) (bc : Nat → List Int) (n : Nat) (P : Int → Option (List Int)) (c : Nat → List Int) (g : Nat) (A : Array Value) : Prop where
  d : Dw w pv S N i base T bc n P c
  hx : w.heap[g]? = some (.cells A 39 (0, 0))
  sz : A.size = 23
  ns : ¬ S g ∧ ¬ T g
  lo : w0.heap.size ≤ g ∧ ∀ b, S b → w0.heap.size ≤ b
  bel : Below w0.heap.size w0 w
variable {w0 w w' : World} {pv n N g : Nat} {S S' T : Nat → Prop} {i : Int} {base : Value} {P P' : Int → Option (List Int)} {bc c c' : Nat → List Int} {A : Array Value}
theorem Jx.later (h : Jx w0 w pv S N i base T bc n P c g A) (hb : Below w.heap.size w w') : Jx w0 w' pv S N i base T bc n P c g A :=
  ⟨h.d.later hb, (hb.block g (Array.getElem?_eq_some_iff.1 h.hx).1).trans h.hx, h.sz, h.ns, h.lo, h.bel.trans (hb.mono h.bel.size)⟩
theorem Jx.set (h : Jx w0 w pv S N i base T bc n P c g A) (k : Nat) (v : Value) : Jx w0 (w.setCell ⟨g, k, none⟩ v) pv S N i base T bc n P c g (A.setIfInBounds k v) := by
  have hm : Mods (fun b => b = g) w (w.setCell ⟨g, k, none⟩ v) := (Mods.refl (fun b => b = g) w).setCell g k v rfl
  exact ⟨h.d.mods hm (fun b hb e => by subst e; exact hb.elim h.ns.1 h.ns.2), setc h.hx k v, by simp [h.sz], h.ns, h.lo, h.bel.setCell h.lo.1 _⟩
theorem Jx.put (h : Jx w0 w pv S N i base T bc n P c g A) {n' : Nat} (hd : Dw w' pv S' N i base T bc n' P' c') (hk : Kp S w S' w') : Jx w0 w' pv S' N i base T bc n' P' c' g A := by
  have hg := (Array.getElem?_eq_some_iff.1 h.hx).1
  obtain ⟨hb0, hl0⟩ := hk.below0 h.bel h.lo.2
  exact ⟨hd, (hk.block hg h.ns.1).trans h.hx, h.sz, ⟨hk.off hg h.ns.1, h.ns.2⟩, ⟨h.lo.1, hl0⟩, hb0⟩
theorem Jx.cell (h : Jx w0 w pv S N i base T bc n P c g A) (k : Nat) (v : Value) (hk : A[k]? = some v) : w.cell? ⟨g, k, none⟩ = some v ∧ w.frozen? ⟨g, k, none⟩ = false :=
  ⟨cell_of h.hx hk, froz_of h.hx k⟩
end Go.Proofs.YtgcaidjppcjjeaaGreatDoor
