/- Worlds, rows, maps: what every text here speaks of. -/
import Derived.Test.YtbfdkbdjipiliaaDoorProg
import Derived.KernelRfl
import Derived.RowKit
import Derived.WalkKit
import Derived.Maps.OwnSet
import Derived.Maps.Views
import Derived.Maps.OwnIn
import Derived.Maps.RangeWalk
import Derived.Maps.AppendAt
import Derived.Laws.CopyOwn
import Derived.Deep.OwnRows
import Derived.WalkSpells
import Derived.WalkLawsBesides
import Derived.Deep.QuietTactic
import Derived.BigQuiet
namespace Go.Proofs.YtbfdkbdjipiliaaDoor
open Go.RowKit Go.Maps
set_option linter.unusedVariables false

theorem hid {p : Prop} (h : p) : Hid p := h
def IsI (x : Int) : Prop := (Lit.int .i64 x).wf = true
theorem isI_of {x : Int} (h : -9223372036854775808 ≤ x) (h' : x < 9223372036854775808) : IsI x := WalkArith.wf_i64 (by omega)

/-! ### worlds -/
structure Mods (al : Nat → Prop) (w w' : World) : Prop where
  os : w'.os = w.os
  tape : w'.tape = w.tape
  output : w'.output = w.output
  size : w.heap.size ≤ w'.heap.size
  block : ∀ b, b < w.heap.size → ¬ al b → w'.heap[b]? = w.heap[b]?
theorem Mods.of_below {al : Nat → Prop} {w w' : World} (h : Below w.heap.size w w') : Mods al w w' := ⟨h.os, h.tape, h.output, h.size, fun b hb _ => h.block b hb⟩
theorem Mods.refl (al : Nat → Prop) (w : World) : Mods al w w := .of_below (Below.refl _ _)
theorem Mods.trans {al al' : Nat → Prop} {w w' w'' : World} (h : Mods al w w') (h' : Mods al' w' w'') (ha : ∀ b, al' b → al b ∨ w.heap.size ≤ b) : Mods al w w'' :=
  ⟨h'.os.trans h.os, h'.tape.trans h.tape, h'.output.trans h.output, Nat.le_trans h.size h'.size, fun b hb hn =>
    (h'.block b (Nat.lt_of_lt_of_le hb h.size) (fun h2 => by rcases ha b h2 with h3 | h3; exact hn h3; omega)).trans (h.block b hb hn)⟩
theorem Mods.tr {al : Nat → Prop} {w w' w'' : World} (h : Mods al w w') (h' : Mods al w' w'') : Mods al w w'' := h.trans h' (fun _ hb => .inl hb)
theorem Mods.weak {al al' : Nat → Prop} {w w' : World} (h : Mods al w w') (ha : ∀ b, al b → al' b ∨ w.heap.size ≤ b) : Mods al' w w' :=
  ⟨h.os, h.tape, h.output, h.size, fun b hb hn => h.block b hb (fun h2 => by rcases ha b h2 with h3 | h3; exact hn h3; omega)⟩
theorem Mods.to_below {al : Nat → Prop} {B : Nat} {w0 w w' : World} (h : Mods al w w') (h0 : Below B w0 w) (hB : B ≤ w.heap.size) (ha : ∀ b, al b → B ≤ b) : Below B w0 w' :=
  ⟨h.os.trans h0.os, h.tape.trans h0.tape, h.output.trans h0.output, Nat.le_trans h0.size h.size, fun b hb => (h.block b (by omega) (fun h2 => by have := ha b h2; omega)).trans (h0.block b hb)⟩
theorem Mods.below {al : Nat → Prop} {w w' w'' : World} (h : Mods al w w') (h' : Below w'.heap.size w' w'') : Mods al w w'' := h.trans (al' := fun _ => False) (.of_below h') (fun _ hb => hb.elim)
theorem Mods.drew {al : Nat → Prop} {w w' : World} (h : Mods al w w') : Mods al w w'.drew := h.below ((Below.refl _ _).drew)
theorem Mods.alloc {al : Nat → Prop} {w w' : World} (h : Mods al w w') (o : Obj) : Mods al w (w'.alloc o) := h.below ((Below.refl _ _).alloc (Nat.le_refl _) _)
theorem Mods.setCell {al : Nat → Prop} {w w' : World} (h : Mods al w w') (g k : Nat) (v : Value) (hg : al g) : Mods al w (w'.setCell ⟨g, k, none⟩ v) :=
  h.tr ⟨rfl, rfl, rfl, by simp [World.setCell], fun b _ hn => Below.heap_setCell _ _ _ _ (fun e => hn (by rw [e]; exact hg))⟩
theorem Mods.grown {al : Nat → Prop} {w w' w'' : World} {row : Option Nat} (h : Mods al w w') (hg : w'.grownBy w'' row) (hr : ∀ b, row = some b → al b ∨ w.heap.size ≤ b) : Mods al w w'' :=
  ⟨hg.os.trans h.os, hg.tape.trans h.tape, hg.output.trans h.output, Nat.le_trans h.size hg.size, fun b hb hn =>
    (hg.block b (Nat.lt_of_lt_of_le hb h.size) (fun e => by rcases hr b e.symm with h3 | h3; exact hn h3; omega)).trans (h.block b hb hn)⟩
theorem Mods.of_grown {w w' : World} {row : Option Nat} (hg : w.grownBy w' row) : Mods (fun b => row = some b) w w' := (Mods.refl _ w).grown hg (fun _ e => .inl e)
theorem Mods.cell {al : Nat → Prop} {w w' : World} (h : Mods al w w') {b o : Nat} {v : Value} (hc : w.cell? ⟨b, o, none⟩ = some v) (hn : ¬ al b) : w'.cell? ⟨b, o, none⟩ = some v :=
  (World.cell?_of_block (h.block b (World.block_lt_of_cell? w _ hc) hn)).trans hc
theorem cell_later {w w' : World} (h : Below w.heap.size w w') {b o : Nat} {v : Value} (hc : w.cell? ⟨b, o, none⟩ = some v) : w'.cell? ⟨b, o, none⟩ = some v :=
  (World.cell?_of_block (h.block b (World.block_lt_of_cell? w _ hc))).trans hc
theorem cell_of {w : World} {b : Nat} {cs : Array Value} {t : TypeId} (h : w.heap[b]? = some (.cells cs t (0, 0))) {i : Nat} {v : Value} (hi : cs[i]? = some v) : w.cell? ⟨b, i, none⟩ = some v := by
  simp [World.cell?, h, hi]
theorem froz_of {w : World} {b : Nat} {cs : Array Value} {t : TypeId} (h : w.heap[b]? = some (.cells cs t (0, 0))) (i : Nat) : w.frozen? ⟨b, i, none⟩ = false := by
  simp [World.frozen?, h]
theorem setc {w : World} {b : Nat} {c : Array Value} {t : TypeId} (h : w.heap[b]? = some (.cells c t (0, 0))) (k : Nat) (v : Value) : (w.setCell ⟨b, k, none⟩ v).heap[b]? = some (.cells (c.setIfInBounds k v) t (0, 0)) := by
  have hl : b < w.heap.size := (Array.getElem?_eq_some_iff.1 h).1
  have h' : w.heap[b] = .cells c t (0, 0) := (Array.getElem?_eq_some_iff.1 h).2
  simp [World.setCell, hl, Array.getElem_modify, h']
theorem below_drewN {B : Nat} {w0 w : World} (h : Below B w0 w) (n : Nat) : Below B w0 (w.drewN n) := ⟨h.os, h.tape, h.output, h.size, h.block⟩
theorem add_addr (b off j : Nat) : (⟨b, off, none⟩ : Addr).add j = ⟨b, off + j, none⟩ := by unfold Addr.add; split <;> simp_all
theorem alloc_new (w : World) (o : Obj) : (w.alloc o).heap[w.heap.size]? = some o := (MapKept.heap_alloc w o).1

/-! ### rows -/
theorem owns_lt {w : World} {base s n g : Nat} {e : TypeId} {v : Value} {xs : List Value} (h : w.ownsRow base e s v n xs) (hg : v.ownBlock = some g) : g < w.heap.size ∧ base ≤ g := by
  rcases h.2 with ⟨rfl, _⟩ | ⟨g', cap, cur, rfl, hb, hh, _⟩
  · simp [Value.ownBlock] at hg
  · simp [Value.ownBlock] at hg
    subst hg
    obtain ⟨hlt, _⟩ := Array.getElem?_eq_some_iff.1 hh
    exact ⟨hlt, hb⟩
theorem owns_keep {w w' : World} {base s n : Nat} {e : TypeId} {v : Value} {xs : List Value} (h : w.ownsRow base e s v n xs) (hk : ∀ g, v.ownBlock = some g → w'.heap[g]? = w.heap[g]?) : w'.ownsRow base e s v n xs := by
  refine ⟨h.1, h.2.elim Or.inl (fun ⟨g, cap, cur, hv, hg, hh, r⟩ => Or.inr ⟨g, cap, cur, hv, hg, ?_, r⟩)⟩
  rw [hk g (by rw [hv]; rfl)]
  exact hh
theorem owns_slice {w : World} {base e s : Nat} {v : Value} {n : Nat} {xs : List Value} (h : w.ownsRow base e s v n xs) : ∃ a c, v = .slice a n c := by
  rcases h.2 with ⟨rfl, rfl⟩ | ⟨g', cap, cur, rfl, _⟩
  · exact ⟨_, _, rfl⟩
  · exact ⟨_, _, rfl⟩
theorem owns_base {w : World} {base base' e s : Nat} {v : Value} {n : Nat} {xs : List Value} (h : w.ownsRow base e s v n xs) (hb : ∀ g, v.ownBlock = some g → base' ≤ g) : w.ownsRow base' e s v n xs :=
  ⟨h.1, h.2.imp id (fun ⟨g, cap, cur, e, _, r⟩ => ⟨g, cap, cur, e, hb g (by rw [e]; rfl), r⟩)⟩
theorem owns_zero {w : World} {base e s : Nat} {v : Value} {n : Nat} {xs : List Value} (h : w.ownsRow base e s v n xs) : w.ownsRow 0 e s v n xs := owns_base h (fun _ _ => Nat.zero_le _)
/-- The cells of a row. -/
theorem owns_cells {w : World} {base e s n : Nat} {v : Value} {xs : List Value} (h : w.ownsRow base e s v n xs) (hp : 0 < n) : ∃ g cap, v = .slice (some ⟨g, 0, none⟩) n cap ∧ n ≤ cap ∧ cap ≤ maxLen ∧ base ≤ g ∧ g < w.heap.size ∧ (∀ j u, xs[j]? = some u → w.cell? ⟨g, j, none⟩ = some u) ∧ ∀ j, w.frozen? ⟨g, j, none⟩ = false := by
  rcases h.2 with ⟨_, h0⟩ | ⟨g, cap, cur, rfl, hb, hh, hc1, hc2, hcs, ht⟩
  · omega
  · refine ⟨g, cap, rfl, hc1, hc2, hb, (Array.getElem?_eq_some_iff.1 hh).1, fun j u hj => ?_, fun j => froz_of hh j⟩
    rw [← ht, List.getElem?_take] at hj
    split at hj
    · simp [World.cell?, hh, ← Array.getElem?_toList, hj]
    · cases hj
/-- A cell of a row is set. -/
theorem owns_set {w : World} {base e s n : Nat} {v : Value} {xs : List Value} (h : w.ownsRow base e s v n xs) {g : Nat} (hg : v.ownBlock = some g) (j : Nat) (u : Value) : (w.setCell ⟨g, j, none⟩ u).ownsRow base e s v n (xs.set j u) := by
  rcases h.2 with ⟨rfl, _⟩ | ⟨g', cap, cur, rfl, hb, hh, hc1, hc2, hcs, ht⟩
  · simp [Value.ownBlock] at hg
  · simp [Value.ownBlock] at hg
    subst hg
    refine ⟨by rw [List.length_set]; exact h.1, .inr ⟨g', cap, _, rfl, hb, setc hh j u, hc1, hc2, by simpa using hcs, ?_⟩⟩
    rw [← ht]
    simp [List.take_set]

/-! ### maps -/
def raw (v : Value) : Option (DataW Value × List MemPlace) := some (.held v, [])
theorem intKey : Keyed Tryd.prog 3 := int_keyed Tryd.underlying3
theorem keyI {k : Int} (hk : IsI k) : keyOf Tryd.prog 3 (.int .i64 k) = some (.int .i64 k) := keyOf_int_mk Tryd.underlying3 hk
/-- Block b is a map that holds M. -/
def MapIs (w : World) (b n : Nat) (M : Int → Option Value) : Prop :=
  ∃ D : DataW Value, w.ownsMap Tryd.prog 3 raw b n D ∧ ∀ k, IsI k → ∀ z, D.atKey (.int .i64 k) z = ((M k).map DataW.held).getD z
def upd {α : Type} (M : Int → α) (k : Int) (v : α) : Int → α := fun j => if j = k then v else M j
theorem upd_same {α : Type} (M : Int → α) (k : Int) (v : α) : upd M k v k = v := by simp [upd]
theorem upd_other {α : Type} (M : Int → α) {k j : Int} (v : α) (h : j ≠ k) : upd M k v j = M j := by simp [upd, h]
theorem MapIs.made (w : World) : MapIs (w.alloc (.map #[] 0)) w.heap.size 0 (fun _ => none) :=
  ⟨.map [], World.ownsMap_made w Tryd.prog 3 raw, fun k _ z => by simp [DataW.atKey]⟩
theorem MapIs.mono {w : World} {b n n' : Nat} {M : Int → Option Value} (h : MapIs w b n M) (hn : n ≤ n') : MapIs w b n' M :=
  let ⟨D, h1, h2⟩ := h; ⟨D, h1.mono hn, h2⟩
theorem MapIs.lt {w : World} {b n : Nat} {M : Int → Option Value} (h : MapIs w b n M) : b < w.heap.size := let ⟨_, h1, _⟩ := h; h1.lt
theorem MapIs.keep {w w' : World} {b n : Nat} {M : Int → Option Value} (h : MapIs w b n M) (hb : w'.heap[b]? = w.heap[b]?) : MapIs w' b n M := by
  obtain ⟨D, ⟨es, c, hh, r⟩, h2⟩ := h
  exact ⟨D, ⟨es, c, hb.trans hh, r⟩, h2⟩
theorem MapIs.look {w : World} {b n : Nat} {M : Int → Option Value} (h : MapIs w b n M) {t e : TypeId} (ht : Tryd.prog.underlying t = some (.map 3 e)) {z : Value} (hz : (zeroValue e).run Tryd.prog w = .ok z w)
    {k : Int} (hk : IsI k) : (Instr.lookup t (.map (some b)) (.int .i64 k) false).run Tryd.prog w = .ok ((M k).getD z) w := by
  obtain ⟨D, h1, h2⟩ := h
  obtain ⟨v, ps, hrun, hR⟩ := h1.lookup intKey ht hz (R := raw) (zd := .held z) (zp := []) rfl (keyI hk)
  rw [hrun]
  simp only [raw, Option.some.injEq, Prod.mk.injEq] at hR
  have := hR.1
  rw [h2 k hk] at this
  cases hM : M k with
  | none => rw [hM] at this; simp at this; simp [this]
  | some u => rw [hM] at this; simp at this; simp [this]
theorem MapIs.put {w : World} {b n : Nat} {M : Int → Option Value} (h : MapIs w b n M) {t e : TypeId} (ht : Tryd.prog.underlying t = some (.map 3 e)) (hn : n < maxLen) {k : Int} (hk : IsI k) (v : Value) :
    ∃ w', (Instr.mapUpdate t (.map (some b)) (.int .i64 k) v).run Tryd.prog w = .ok () w' ∧ MapIs w' b (n + 1) (upd M k (some v)) ∧ w.grownBy w' (some b) := by
  obtain ⟨D, h1, h2⟩ := h
  obtain ⟨w', hrun, ho, hg⟩ := h1.update intKey ht hn (keyI hk) (val := v) (d := .held v) (ps := []) rfl
  refine ⟨w', hrun, ⟨_, ho, fun j hj z => ?_⟩, hg⟩
  by_cases e : j = k
  · subst e
    rw [upd_same, atKey_put_same h1.isMap (by simp [WideAt.IsKeyLit])]
    rfl
  · rw [upd_other _ _ e, atKey_put_other (by simpa using e), h2 j hj]
theorem MapIs.del {w : World} {b n : Nat} {M : Int → Option Value} (h : MapIs w b n M) {t e : TypeId} (ht : Tryd.prog.underlying t = some (.map 3 e)) {k : Int} (hk : IsI k) (ty : TypeId) :
    ∃ w', (Builtin.delete_ #[t, 3] ty #[.map (some b), .int .i64 k]).run Tryd.prog w = .ok (.tuple #[]) w' ∧ MapIs w' b n (upd M k none) ∧ w.grownBy w' (some b) := by
  obtain ⟨D, h1, h2⟩ := h
  obtain ⟨w', hrun, ho, hg⟩ := h1.drop intKey ht (keyI hk) ty
  refine ⟨w', hrun, ⟨_, ho, fun j hj z => ?_⟩, hg.grown⟩
  by_cases e : j = k
  · subst e
    rw [upd_same, atKey_del_same]
    rfl
  · rw [upd_other _ _ e, atKey_del_other (by simpa using e), h2 j hj]

theorem MapIs.look_ok {w : World} {b n : Nat} {M : Int → Option Value} (h : MapIs w b n M) {t e : TypeId} (ht : Tryd.prog.underlying t = some (.map 3 e)) {z : Value} (hz : (zeroValue e).run Tryd.prog w = .ok z w)
    {k : Int} (hk : IsI k) : (Instr.lookup t (.map (some b)) (.int .i64 k) true).run Tryd.prog w = .ok (.tuple #[(M k).getD z, .bool (M k).isSome]) w := by
  obtain ⟨D, h1, h2⟩ := h
  obtain ⟨v, ps, hrun, hR⟩ := h1.look_ok intKey ht hz (R := raw) (zd := .held z) (zp := []) rfl (keyI hk)
  rw [hrun]
  simp only [raw, Option.some.injEq, Prod.mk.injEq] at hR
  have := hR.1
  rw [h2 k hk] at this
  cases hM : M k with
  | none =>
    rw [hM] at this
    rw [has_false_of_atKey (D := D) (k := .int .i64 k) (fun z => by rw [h2 k hk z, hM]; rfl)]
    simp at this
    simp [this]
  | some u =>
    rw [hM] at this
    rw [has_true_of_atKey (D := D) (k := .int .i64 k) (y := .held u) (fun z => by rw [h2 k hk z, hM]; rfl)]
    simp at this
    simp [this]

/-! ### owners: a set of blocks -/
/-- Blocks of S alone have turned; S' is S and new ones. -/
def Kp (S : Nat → Prop) (w : World) (S' : Nat → Prop) (w' : World) : Prop := (∀ b, S' b → S b ∨ w.heap.size ≤ b) ∧ Mods S w w'
theorem Kp.refl (S : Nat → Prop) (w : World) : Kp S w S w := ⟨fun _ h => .inl h, Mods.refl _ _⟩
theorem Kp.trans {S S' S'' : Nat → Prop} {w w' w'' : World} (h : Kp S w S' w') (h' : Kp S' w' S'' w'') : Kp S w S'' w'' :=
  ⟨fun b hb => by
    rcases h'.1 b hb with h1 | h1
    · exact h.1 b h1
    · exact .inr (Nat.le_trans h.2.size h1), h.2.trans h'.2 (fun b hb => h.1 b hb)⟩
theorem Kp.below {S : Nat → Prop} {w w' : World} (h : Below w.heap.size w w') : Kp S w S w' := ⟨fun _ h => .inl h, Mods.of_below h⟩
theorem Kp.block {S S' : Nat → Prop} {w w' : World} (h : Kp S w S' w') {b : Nat} (hb : b < w.heap.size) (hn : ¬ S b) : w'.heap[b]? = w.heap[b]? := h.2.block b hb hn
theorem Kp.off {S S' : Nat → Prop} {w w' : World} (h : Kp S w S' w') {b : Nat} (hb : b < w.heap.size) (hn : ¬ S b) : ¬ S' b := fun e => by rcases h.1 b e with h1 | h1; exact hn h1; omega
theorem Kp.cell {S S' : Nat → Prop} {w w' : World} (h : Kp S w S' w') {b o : Nat} {v : Value} (hc : w.cell? ⟨b, o, none⟩ = some v) (hn : ¬ S b) : w'.cell? ⟨b, o, none⟩ = some v := h.2.cell hc hn
theorem Kp.below0 {S S' : Nat → Prop} {w0 w w' : World} (h : Kp S w S' w') (h0 : Below w0.heap.size w0 w) (hS : ∀ b, S b → w0.heap.size ≤ b) : Below w0.heap.size w0 w' ∧ ∀ b, S' b → w0.heap.size ≤ b :=
  ⟨h.2.to_below h0 h0.size hS, fun b hb => by
    rcases h.1 b hb with h1 | h1
    · exact hS b h1
    · exact Nat.le_trans h0.size h1⟩

/-! ### rows of numbers, of bytes -/
abbrev ints (l : List Int) : List Value := l.map fun x => Value.int .i64 x
abbrev u8s (l : List Int) : List Value := l.map fun x => Value.int .u8 x
theorem ints_len (l : List Int) : (ints l).length = l.length := by simp
theorem ints_get {l : List Int} {j : Nat} (h : j < l.length) : (ints l)[j]? = some (.int .i64 (l.getD j 0)) := by simp [List.getD, h]
theorem u8s_get {l : List Int} {j : Nat} (h : j < l.length) : (u8s l)[j]? = some (.int .u8 (l.getD j 0)) := by simp [List.getD, h]
theorem owns_int {w : World} {v : Value} {l : List Int} {base : Nat} (h : w.ownsRow base 3 1 v l.length (ints l)) {j : Nat} (hj : j < l.length) : ∃ g c, v = .slice (some ⟨g, 0, none⟩) l.length c ∧ w.cell? ⟨g, j, none⟩ = some (.int .i64 (l.getD j 0)) ∧ base ≤ g ∧ g < w.heap.size := by
  obtain ⟨g, c, e, _, _, hb, hg, hc, _⟩ := owns_cells h (by omega)
  exact ⟨g, c, e, hc j _ (ints_get hj), hb, hg⟩
theorem owns_kind {w : World} {base s n g : Nat} {e : TypeId} {v : Value} {xs : List Value} (h : w.ownsRow base e s v n xs) (hg : v.ownBlock = some g) : ∃ cur, w.heap[g]? = some (.cells cur e (0, 0)) := by
  rcases h.2 with ⟨rfl, _⟩ | ⟨g', cap, cur, rfl, hb, hh, _⟩
  · simp [Value.ownBlock] at hg
  · simp [Value.ownBlock] at hg
    subst hg
    exact ⟨cur, hh⟩
theorem Mods.of_grown' {w w' : World} {g : Nat} (h : w.grownBy w' (some g)) : Mods (fun b => b = g) w w' :=
  ⟨h.os, h.tape, h.output, h.size, fun b hb hn => h.block b hb (fun e => hn (by simpa using e))⟩
/-- 'append' of some elements of one cell each to a row. -/
theorem app_gen (w : World) (t ty e : TypeId) (z : Value) (by_ : Nat) (hu : Tryd.prog.underlying t = some (.slice e)) (hi : ∃ i, Tryd.prog.info? e = some i ∧ i.zero = some z ∧ i.size = 1 ∧ i.bytes = by_) (hz : z.cells.size = 1) (hby : by_ ≤ 24) (v : Value) (xs : List Value) (n : Nat) (hxs : xs.length = n) (h : w.ownsRow 0 e 1 v n xs) (ad : Addr) (m c : Nat) (news : List Value) (hm : news.length = m)
    (hcell : ∀ j u, news[j]? = some u → w.cell? (ad.add j) = some u) (hone : ∀ u ∈ news, u.oneCell' = true) (hl : n + m ≤ 2199023255552) :
    ∃ v' w', (Builtin.append_ #[t, t] ty #[v, .slice (some ad) m c]).run Tryd.prog w = .ok v' w' ∧ w'.ownsRow 0 e 1 v' (n + m) (xs ++ news) ∧ Mods (fun b => v.ownBlock = some b) w w' ∧ (v'.ownBlock = v.ownBlock ∨ v'.ownBlock = some w.heap.size) := by
  obtain ⟨i0, hi, hz0, hz1, hz2⟩ := hi
  obtain ⟨v', w', hr, ho, hg, _, hob⟩ := run_append_own_at (P := Tryd.prog) w 0 t ty e i0 _ 1 by_ hu hi hz0 hz1 hz2 hz (by decide) v n xs h ad m c news (by simp [hm]) hcell hone (by unfold maxLen; omega) (by have : (n + m) * by_ ≤ 2199023255552 * 24 := Nat.mul_le_mul hl hby; first | omega | (unfold maxLen; omega)) (Nat.zero_le _)
  exact ⟨v', w', hr, ho, Mods.of_grown hg, hob⟩
theorem wpList_append_run {P : Program} {w : World} {ops : Array Oper} {rest : List Oper} {o : Oper} {a : Act} {Q : Exit → Act → World → Prop} (hgd : o.guard = none) (s x : Operand) (t : TypeId)
    (ho : o.op = .call { callee := .builtin .append, args := #[s, x], argTypes := #[t, t] }) {v y v' : Value} {w' : World} (hs : a.eval s = v) (hx : a.eval x = y)
    (hrun : (Builtin.append_ #[t, t] o.type #[v, y]).run P w = .ok v' w') (h : wpList P ops Q rest (a.put o.dst v') w') : wpList P ops Q (o :: rest) a w := by
  refine wpList_plain hgd fun K hK => ?_
  unfold Oper.wp execOp
  simp only [ho, resolve, invoke, builtin, Sem.run_bind, Sem.run_pure, Result.andThen_ok, List.map_toArray, List.map_cons, List.map_nil, hs, hx, hrun]
  exact hK _ _ h
end Go.Proofs.YtbfdkbdjipiliaaDoor
