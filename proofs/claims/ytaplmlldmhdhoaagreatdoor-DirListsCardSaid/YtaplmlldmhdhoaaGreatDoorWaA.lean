/- CcA, WaA in one text. -/
import Derived.Test.YtaplmlldmhdhoaaGreatDoorProg
import Derived.KernelRfl
import Derived.RowKit
import Derived.WalkKit
import Derived.Maps.OwnSet
import Derived.Maps.Views
import Derived.Maps.OwnIn
import Derived.Maps.RangeWalk
import Derived.Maps.AppendAt
import Derived.Laws.CopyOwn
import Derived.Deep.OwnRows
import Derived.WalkSpells
import Derived.WalkLawsBesides
import Derived.Deep.QuietTactic
import Derived.BigQuiet
/- Worlds, rows, maps: what every text here speaks of. -/
namespace Go.Proofs.YtaplmlldmhdhoaaGreatDoor
open Go.RowKit Go.Maps
set_option linter.unusedVariables false

theorem hid {p : Prop} (h : p) : Hid p := h
def IsI (x : Int) : Prop := (Lit.int .i64 x).wf = true
theorem isI_of {x : Int} (h : -9223372036854775808 ≤ x) (h' : x < 9223372036854775808) : IsI x := WalkArith.wf_i64 (by omega)

/-! ### worlds -/
structure Mods (al : Nat → Prop) (w w' : World) : Prop where
  os : w'.os = w.os
  tape : w'.tape = w.tape
  output : w'.output = w.output
  size : w.heap.size ≤ w'.heap.size
  block : ∀ b, b < w.heap.size → ¬ al b → w'.heap[b]? = w.heap[b]?
theorem Mods.of_below {al : Nat → Prop} {w w' : World} (h : Below w.heap.size w w') : Mods al w w' := ⟨h.os, h.tape, h.output, h.size, fun b hb _ => h.block b hb⟩
theorem Mods.refl (al : Nat → Prop) (w : World) : Mods al w w := .of_below (Below.refl _ _)
theorem Mods.trans {al al' : Nat → Prop} {w w' w'' : World} (h : Mods al w w') (h' : Mods al' w' w'') (ha : ∀ b, al' b → al b ∨ w.heap.size ≤ b) : Mods al w w'' :=
  ⟨h'.os.trans h.os, h'.tape.trans h.tape, h'.output.trans h.output, Nat.le_trans h.size h'.size, fun b hb hn =>
    (h'.block b (Nat.lt_of_lt_of_le hb h.size) (fun h2 => by rcases ha b h2 with h3 | h3; exact hn h3; omega)).trans (h.block b hb hn)⟩
theorem Mods.tr {al : Nat → Prop} {w w' w'' : World} (h : Mods al w w') (h' : Mods al w' w'') : Mods al w w'' := h.trans h' (fun _ hb => .inl hb)
theorem Mods.weak {al al' : Nat → Prop} {w w' : World} (h : Mods al w w') (ha : ∀ b, al b → al' b ∨ w.heap.size ≤ b) : Mods al' w w' :=
  ⟨h.os, h.tape, h.output, h.size, fun b hb hn => h.block b hb (fun h2 => by rcases ha b h2 with h3 | h3; exact hn h3; omega)⟩
theorem Mods.to_below {al : Nat → Prop} {B : Nat} {w0 w w' : World} (h : Mods al w w') (h0 : Below B w0 w) (hB : B ≤ w.heap.size) (ha : ∀ b, al b → B ≤ b) : Below B w0 w' :=
  ⟨h.os.trans h0.os, h.tape.trans h0.tape, h.output.trans h0.output, Nat.le_trans h0.size h.size, fun b hb => (h.block b (by omega) (fun h2 => by have := ha b h2; omega)).trans (h0.block b hb)⟩
theorem Mods.below {al : Nat → Prop} {w w' w'' : World} (h : Mods al w w') (h' : Below w'.heap.size w' w'') : Mods al w w'' := h.trans (al' := fun _ => False) (.of_below h') (fun _ hb => hb.elim)
theorem Mods.drew {al : Nat → Prop} {w w' : World} (h : Mods al w w') : Mods al w w'.drew := h.below ((Below.refl _ _).drew)
theorem Mods.alloc {al : Nat → Prop} {w w' : World} (h : Mods al w w') (o : Obj) : Mods al w (w'.alloc o) := h.below ((Below.refl _ _).alloc (Nat.le_refl _) _)
theorem Mods.setCell {al : Nat → Prop} {w w' : World} (h : Mods al w w') (g k : Nat) (v : Value) (hg : al g) : Mods al w (w'.setCell ⟨g, k, none⟩ v) :=
  h.tr ⟨rfl, rfl, rfl, by simp [World.setCell], fun b _ hn => Below.heap_setCell _ _ _ _ (fun e => hn (by rw [e]; exact hg))⟩
theorem Mods.grown {al : Nat → Prop} {w w' w'' : World} {row : Option Nat} (h : Mods al w w') (hg : w'.grownBy w'' row) (hr : ∀ b, row = some b → al b ∨ w.heap.size ≤ b) : Mods al w w'' :=
  ⟨hg.os.trans h.os, hg.tape.trans h.tape, hg.output.trans h.output, Nat.le_trans h.size hg.size, fun b hb hn =>
    (hg.block b (Nat.lt_of_lt_of_le hb h.size) (fun e => by rcases hr b e.symm with h3 | h3; exact hn h3; omega)).trans (h.block b hb hn)⟩
theorem Mods.of_grown {w w' : World} {row : Option Nat} (hg : w.grownBy w' row) : Mods (fun b => row = some b) w w' := (Mods.refl _ w).grown hg (fun _ e => .inl e)
theorem Mods.cell {al : Nat → Prop} {w w' : World} (h : Mods al w w') {b o : Nat} {v : Value} (hc : w.cell? ⟨b, o, none⟩ = some v) (hn : ¬ al b) : w'.cell? ⟨b, o, none⟩ = some v :=
  (World.cell?_of_block (h.block b (World.block_lt_of_cell? w _ hc) hn)).trans hc
theorem cell_later {w w' : World} (h : Below w.heap.size w w') {b o : Nat} {v : Value} (hc : w.cell? ⟨b, o, none⟩ = some v) : w'.cell? ⟨b, o, none⟩ = some v :=
  (World.cell?_of_block (h.block b (World.block_lt_of_cell? w _ hc))).trans hc
theorem cell_of {w : World} {b : Nat} {cs : Array Value} {t : TypeId} (h : w.heap[b]? = some (.cells cs t (0, 0))) {i : Nat} {v : Value} (hi : cs[i]? = some v) : w.cell? ⟨b, i, none⟩ = some v := by
  simp [World.cell?, h, hi]
theorem froz_of {w : World} {b : Nat} {cs : Array Value} {t : TypeId} (h : w.heap[b]? = some (.cells cs t (0, 0))) (i : Nat) : w.frozen? ⟨b, i, none⟩ = false := by
  simp [World.frozen?, h]
theorem setc {w : World} {b : Nat} {c : Array Value} {t : TypeId} (h : w.heap[b]? = some (.cells c t (0, 0))) (k : Nat) (v : Value) : (w.setCell ⟨b, k, none⟩ v).heap[b]? = some (.cells (c.setIfInBounds k v) t (0, 0)) := by
  have hl : b < w.heap.size := (Array.getElem?_eq_some_iff.1 h).1
  have h' : w.heap[b] = .cells c t (0, 0) := (Array.getElem?_eq_some_iff.1 h).2
  simp [World.setCell, hl, Array.getElem_modify, h']
theorem below_drewN {B : Nat} {w0 w : World} (h : Below B w0 w) (n : Nat) : Below B w0 (w.drewN n) := ⟨h.os, h.tape, h.output, h.size, h.block⟩
theorem add_addr (b off j : Nat) : (⟨b, off, none⟩ : Addr).add j = ⟨b, off + j, none⟩ := by unfold Addr.add; split <;> simp_all
theorem alloc_new (w : World) (o : Obj) : (w.alloc o).heap[w.heap.size]? = some o := (MapKept.heap_alloc w o).1

/-! ### rows -/
theorem owns_lt {w : World} {base s n g : Nat} {e : TypeId} {v : Value} {xs : List Value} (h : w.ownsRow base e s v n xs) (hg : v.ownBlock = some g) : g < w.heap.size ∧ base ≤ g := by
  rcases h.2 with ⟨rfl, _⟩ | ⟨g', cap, cur, rfl, hb, hh, _⟩
  · simp [Value.ownBlock] at hg
  · simp [Value.ownBlock] at hg
    subst hg
    obtain ⟨hlt, _⟩ := Array.getElem?_eq_some_iff.1 hh
    exact ⟨hlt, hb⟩
theorem owns_keep {w w' : World} {base s n : Nat} {e : TypeId} {v : Value} {xs : List Value} (h : w.ownsRow base e s v n xs) (hk : ∀ g, v.ownBlock = some g → w'.heap[g]? = w.heap[g]?) : w'.ownsRow base e s v n xs := by
  refine ⟨h.1, h.2.elim Or.inl (fun ⟨g, cap, cur, hv, hg, hh, r⟩ => Or.inr ⟨g, cap, cur, hv, hg, ?_, r⟩)⟩
  rw [hk g (by rw [hv]; rfl)]
  exact hh
theorem owns_slice {w : World} {base e s : Nat} {v : Value} {n : Nat} {xs : List Value} (h : w.ownsRow base e s v n xs) : ∃ a c, v = .slice a n c := by
  rcases h.2 with ⟨rfl, rfl⟩ | ⟨g', cap, cur, rfl, _⟩
  · exact ⟨_, _, rfl⟩
  · exact ⟨_, _, rfl⟩
theorem owns_base {w : World} {base base' e s : Nat} {v : Value} {n : Nat} {xs : List Value} (h : w.ownsRow base e s v n xs) (hb : ∀ g, v.ownBlock = some g → base' ≤ g) : w.ownsRow base' e s v n xs :=
  ⟨h.1, h.2.imp id (fun ⟨g, cap, cur, e, _, r⟩ => ⟨g, cap, cur, e, hb g (by rw [e]; rfl), r⟩)⟩
theorem owns_zero {w : World} {base e s : Nat} {v : Value} {n : Nat} {xs : List Value} (h : w.ownsRow base e s v n xs) : w.ownsRow 0 e s v n xs := owns_base h (fun _ _ => Nat.zero_le _)
/-- The cells of a row. -/
theorem owns_cells {w : World} {base e s n : Nat} {v : Value} {xs : List Value} (h : w.ownsRow base e s v n xs) (hp : 0 < n) : ∃ g cap, v = .slice (some ⟨g, 0, none⟩) n cap ∧ n ≤ cap ∧ cap ≤ maxLen ∧ base ≤ g ∧ g < w.heap.size ∧ (∀ j u, xs[j]? = some u → w.cell? ⟨g, j, none⟩ = some u) ∧ ∀ j, w.frozen? ⟨g, j, none⟩ = false := by
  rcases h.2 with ⟨_, h0⟩ | ⟨g, cap, cur, rfl, hb, hh, hc1, hc2, hcs, ht⟩
  · omega
  · refine ⟨g, cap, rfl, hc1, hc2, hb, (Array.getElem?_eq_some_iff.1 hh).1, fun j u hj => ?_, fun j => froz_of hh j⟩
    rw [← ht, List.getElem?_take] at hj
    split at hj
    · simp [World.cell?, hh, ← Array.getElem?_toList, hj]
    · cases hj
/-- A cell of a row is set. -/
theorem owns_set {w : World} {base e s n : Nat} {v : Value} {xs : List Value} (h : w.ownsRow base e s v n xs) {g : Nat} (hg : v.ownBlock = some g) (j : Nat) (u : Value) : (w.setCell ⟨g, j, none⟩ u).ownsRow base e s v n (xs.set j u) := by
  rcases h.2 with ⟨rfl, _⟩ | ⟨g', cap, cur, rfl, hb, hh, hc1, hc2, hcs, ht⟩
  · simp [Value.ownBlock] at hg
  · simp [Value.ownBlock] at hg
    subst hg
    refine ⟨by rw [List.length_set]; exact h.1, .inr ⟨g', cap, _, rfl, hb, setc hh j u, hc1, hc2, by simpa using hcs, ?_⟩⟩
    rw [← ht]
    simp [List.take_set]

/-! ### maps -/
def raw (v : Value) : Option (DataW Value × List MemPlace) := some (.held v, [])
theorem intKey : Keyed Tryz.prog 3 := int_keyed Tryz.underlying3
theorem keyI {k : Int} (hk : IsI k) : keyOf Tryz.prog 3 (.int .i64 k) = some (.int .i64 k) := keyOf_int_mk Tryz.underlying3 hk
/-- Block b is a map that holds M. -/
def MapIs (w : World) (b n : Nat) (M : Int → Option Value) : Prop :=
  ∃ D : DataW Value, w.ownsMap Tryz.prog 3 raw b n D ∧ ∀ k, IsI k → ∀ z, D.atKey (.int .i64 k) z = ((M k).map DataW.held).getD z
def upd {α : Type} (M : Int → α) (k : Int) (v : α) : Int → α := fun j => if j = k then v else M j
theorem upd_same {α : Type} (M : Int → α) (k : Int) (v : α) : upd M k v k = v := by simp [upd]
theorem upd_other {α : Type} (M : Int → α) {k j : Int} (v : α) (h : j ≠ k) : upd M k v j = M j := by simp [upd, h]
theorem MapIs.made (w : World) : MapIs (w.alloc (.map #[] 0)) w.heap.size 0 (fun _ => none) :=
  ⟨.map [], World.ownsMap_made w Tryz.prog 3 raw, fun k _ z => by simp [DataW.atKey]⟩
theorem MapIs.mono {w : World} {b n n' : Nat} {M : Int → Option Value} (h : MapIs w b n M) (hn : n ≤ n') : MapIs w b n' M :=
  let ⟨D, h1, h2⟩ := h; ⟨D, h1.mono hn, h2⟩
theorem MapIs.lt {w : World} {b n : Nat} {M : Int → Option Value} (h : MapIs w b n M) : b < w.heap.size := let ⟨_, h1, _⟩ := h; h1.lt
theorem MapIs.keep {w w' : World} {b n : Nat} {M : Int → Option Value} (h : MapIs w b n M) (hb : w'.heap[b]? = w.heap[b]?) : MapIs w' b n M := by
  obtain ⟨D, ⟨es, c, hh, r⟩, h2⟩ := h
  exact ⟨D, ⟨es, c, hb.trans hh, r⟩, h2⟩
theorem MapIs.look {w : World} {b n : Nat} {M : Int → Option Value} (h : MapIs w b n M) {t e : TypeId} (ht : Tryz.prog.underlying t = some (.map 3 e)) {z : Value} (hz : (zeroValue e).run Tryz.prog w = .ok z w)
    {k : Int} (hk : IsI k) : (Instr.lookup t (.map (some b)) (.int .i64 k) false).run Tryz.prog w = .ok ((M k).getD z) w := by
  obtain ⟨D, h1, h2⟩ := h
  obtain ⟨v, ps, hrun, hR⟩ := h1.lookup intKey ht hz (R := raw) (zd := .held z) (zp := []) rfl (keyI hk)
  rw [hrun]
  simp only [raw, Option.some.injEq, Prod.mk.injEq] at hR
  have := hR.1
  rw [h2 k hk] at this
  cases hM : M k with
  | none => rw [hM] at this; simp at this; simp [this]
  | some u => rw [hM] at this; simp at this; simp [this]
theorem MapIs.put {w : World} {b n : Nat} {M : Int → Option Value} (h : MapIs w b n M) {t e : TypeId} (ht : Tryz.prog.underlying t = some (.map 3 e)) (hn : n < maxLen) {k : Int} (hk : IsI k) (v : Value) :
    ∃ w', (Instr.mapUpdate t (.map (some b)) (.int .i64 k) v).run Tryz.prog w = .ok () w' ∧ MapIs w' b (n + 1) (upd M k (some v)) ∧ w.grownBy w' (some b) := by
  obtain ⟨D, h1, h2⟩ := h
  obtain ⟨w', hrun, ho, hg⟩ := h1.update intKey ht hn (keyI hk) (val := v) (d := .held v) (ps := []) rfl
  refine ⟨w', hrun, ⟨_, ho, fun j hj z => ?_⟩, hg⟩
  by_cases e : j = k
  · subst e
    rw [upd_same, atKey_put_same h1.isMap (by simp [WideAt.IsKeyLit])]
    rfl
  · rw [upd_other _ _ e, atKey_put_other (by simpa using e), h2 j hj]
theorem MapIs.del {w : World} {b n : Nat} {M : Int → Option Value} (h : MapIs w b n M) {t e : TypeId} (ht : Tryz.prog.underlying t = some (.map 3 e)) {k : Int} (hk : IsI k) (ty : TypeId) :
    ∃ w', (Builtin.delete_ #[t, 3] ty #[.map (some b), .int .i64 k]).run Tryz.prog w = .ok (.tuple #[]) w' ∧ MapIs w' b n (upd M k none) ∧ w.grownBy w' (some b) := by
  obtain ⟨D, h1, h2⟩ := h
  obtain ⟨w', hrun, ho, hg⟩ := h1.drop intKey ht (keyI hk) ty
  refine ⟨w', hrun, ⟨_, ho, fun j hj z => ?_⟩, hg.grown⟩
  by_cases e : j = k
  · subst e
    rw [upd_same, atKey_del_same]
    rfl
  · rw [upd_other _ _ e, atKey_del_other (by simpa using e), h2 j hj]

theorem MapIs.look_ok {w : World} {b n : Nat} {M : Int → Option Value} (h : MapIs w b n M) {t e : TypeId} (ht : Tryz.prog.underlying t = some (.map 3 e)) {z : Value} (hz : (zeroValue e).run Tryz.prog w = .ok z w)
    {k : Int} (hk : IsI k) : (Instr.lookup t (.map (some b)) (.int .i64 k) true).run Tryz.prog w = .ok (.tuple #[(M k).getD z, .bool (M k).isSome]) w := by
  obtain ⟨D, h1, h2⟩ := h
  obtain ⟨v, ps, hrun, hR⟩ := h1.look_ok intKey ht hz (R := raw) (zd := .held z) (zp := []) rfl (keyI hk)
  rw [hrun]
  simp only [raw, Option.some.injEq, Prod.mk.injEq] at hR
  have := hR.1
  rw [h2 k hk] at this
  cases hM : M k with
  | none =>
    rw [hM] at this
    rw [has_false_of_atKey (D := D) (k := .int .i64 k) (fun z => by rw [h2 k hk z, hM]; rfl)]
    simp at this
    simp [this]
  | some u =>
    rw [hM] at this
    rw [has_true_of_atKey (D := D) (k := .int .i64 k) (y := .held u) (fun z => by rw [h2 k hk z, hM]; rfl)]
    simp at this
    simp [this]

/-! ### owners: a set of blocks -/
/-- Blocks of S alone have turned; S' is S and new ones. -/
def Kp (S : Nat → Prop) (w : World) (S' : Nat → Prop) (w' : World) : Prop := (∀ b, S' b → S b ∨ w.heap.size ≤ b) ∧ Mods S w w'
theorem Kp.refl (S : Nat → Prop) (w : World) : Kp S w S w := ⟨fun _ h => .inl h, Mods.refl _ _⟩
theorem Kp.trans {S S' S'' : Nat → Prop} {w w' w'' : World} (h : Kp S w S' w') (h' : Kp S' w' S'' w'') : Kp S w S'' w'' :=
  ⟨fun b hb => by
    rcases h'.1 b hb with h1 | h1
    · exact h.1 b h1
    · exact .inr (Nat.le_trans h.2.size h1), h.2.trans h'.2 (fun b hb => h.1 b hb)⟩
theorem Kp.below {S : Nat → Prop} {w w' : World} (h : Below w.heap.size w w') : Kp S w S w' := ⟨fun _ h => .inl h, Mods.of_below h⟩
theorem Kp.block {S S' : Nat → Prop} {w w' : World} (h : Kp S w S' w') {b : Nat} (hb : b < w.heap.size) (hn : ¬ S b) : w'.heap[b]? = w.heap[b]? := h.2.block b hb hn
theorem Kp.off {S S' : Nat → Prop} {w w' : World} (h : Kp S w S' w') {b : Nat} (hb : b < w.heap.size) (hn : ¬ S b) : ¬ S' b := fun e => by rcases h.1 b e with h1 | h1; exact hn h1; omega
theorem Kp.cell {S S' : Nat → Prop} {w w' : World} (h : Kp S w S' w') {b o : Nat} {v : Value} (hc : w.cell? ⟨b, o, none⟩ = some v) (hn : ¬ S b) : w'.cell? ⟨b, o, none⟩ = some v := h.2.cell hc hn
theorem Kp.below0 {S S' : Nat → Prop} {w0 w w' : World} (h : Kp S w S' w') (h0 : Below w0.heap.size w0 w) (hS : ∀ b, S b → w0.heap.size ≤ b) : Below w0.heap.size w0 w' ∧ ∀ b, S' b → w0.heap.size ≤ b :=
  ⟨h.2.to_below h0 h0.size hS, fun b hb => by
    rcases h.1 b hb with h1 | h1
    · exact hS b h1
    · exact Nat.le_trans h0.size h1⟩

/-! ### rows of numbers, of bytes -/
abbrev ints (l : List Int) : List Value := l.map fun x => Value.int .i64 x
abbrev u8s (l : List Int) : List Value := l.map fun x => Value.int .u8 x
theorem ints_len (l : List Int) : (ints l).length = l.length := by simp
theorem ints_get {l : List Int} {j : Nat} (h : j < l.length) : (ints l)[j]? = some (.int .i64 (l.getD j 0)) := by simp [List.getD, h]
theorem u8s_get {l : List Int} {j : Nat} (h : j < l.length) : (u8s l)[j]? = some (.int .u8 (l.getD j 0)) := by simp [List.getD, h]
theorem owns_int {w : World} {v : Value} {l : List Int} {base : Nat} (h : w.ownsRow base 3 1 v l.length (ints l)) {j : Nat} (hj : j < l.length) : ∃ g c, v = .slice (some ⟨g, 0, none⟩) l.length c ∧ w.cell? ⟨g, j, none⟩ = some (.int .i64 (l.getD j 0)) ∧ base ≤ g ∧ g < w.heap.size := by
  obtain ⟨g, c, e, _, _, hb, hg, hc, _⟩ := owns_cells h (by omega)
  exact ⟨g, c, e, hc j _ (ints_get hj), hb, hg⟩
theorem owns_kind {w : World} {base s n g : Nat} {e : TypeId} {v : Value} {xs : List Value} (h : w.ownsRow base e s v n xs) (hg : v.ownBlock = some g) : ∃ cur, w.heap[g]? = some (.cells cur e (0, 0)) := by
  rcases h.2 with ⟨rfl, _⟩ | ⟨g', cap, cur, rfl, hb, hh, _⟩
  · simp [Value.ownBlock] at hg
  · simp [Value.ownBlock] at hg
    subst hg
    exact ⟨cur, hh⟩
theorem Mods.of_grown' {w w' : World} {g : Nat} (h : w.grownBy w' (some g)) : Mods (fun b => b = g) w w' :=
  ⟨h.os, h.tape, h.output, h.size, fun b hb hn => h.block b hb (fun e => hn (by simpa using e))⟩
/-- 'append' of some elements of one cell each to a row. -/
theorem app_gen (w : World) (t ty e : TypeId) (z : Value) (by_ : Nat) (hu : Tryz.prog.underlying t = some (.slice e)) (hi : ∃ i, Tryz.prog.info? e = some i ∧ i.zero = some z ∧ i.size = 1 ∧ i.bytes = by_) (hz : z.cells.size = 1) (hby : by_ ≤ 24) (v : Value) (xs : List Value) (n : Nat) (hxs : xs.length = n) (h : w.ownsRow 0 e 1 v n xs) (ad : Addr) (m c : Nat) (news : List Value) (hm : news.length = m)
    (hcell : ∀ j u, news[j]? = some u → w.cell? (ad.add j) = some u) (hone : ∀ u ∈ news, u.oneCell' = true) (hl : n + m ≤ 2199023255552) :
    ∃ v' w', (Builtin.append_ #[t, t] ty #[v, .slice (some ad) m c]).run Tryz.prog w = .ok v' w' ∧ w'.ownsRow 0 e 1 v' (n + m) (xs ++ news) ∧ Mods (fun b => v.ownBlock = some b) w w' ∧ (v'.ownBlock = v.ownBlock ∨ v'.ownBlock = some w.heap.size) := by
  obtain ⟨i0, hi, hz0, hz1, hz2⟩ := hi
  obtain ⟨v', w', hr, ho, hg, _, hob⟩ := run_append_own_at (P := Tryz.prog) w 0 t ty e i0 _ 1 by_ hu hi hz0 hz1 hz2 hz (by decide) v n xs h ad m c news (by simp [hm]) hcell hone (by unfold maxLen; omega) (by have : (n + m) * by_ ≤ 2199023255552 * 24 := Nat.mul_le_mul hl hby; first | omega | (unfold maxLen; omega)) (Nat.zero_le _)
  exact ⟨v', w', hr, ho, Mods.of_grown hg, hob⟩
theorem wpList_append_run {P : Program} {w : World} {ops : Array Oper} {rest : List Oper} {o : Oper} {a : Act} {Q : Exit → Act → World → Prop} (hgd : o.guard = none) (s x : Operand) (t : TypeId)
    (ho : o.op = .call { callee := .builtin .append, args := #[s, x], argTypes := #[t, t] }) {v y v' : Value} {w' : World} (hs : a.eval s = v) (hx : a.eval x = y)
    (hrun : (Builtin.append_ #[t, t] o.type #[v, y]).run P w = .ok v' w') (h : wpList P ops Q rest (a.put o.dst v') w') : wpList P ops Q (o :: rest) a w := by
  refine wpList_plain hgd fun K hK => ?_
  unfold Oper.wp execOp
  simp only [ho, resolve, invoke, builtin, Sem.run_bind, Sem.run_pure, Result.andThen_ok, List.map_toArray, List.map_cons, List.map_nil, hs, hx, hrun]
  exact hK _ _ h
end Go.Proofs.YtaplmlldmhdhoaaGreatDoor

/- The readers and writers of package num at this program: a number of 1, 2, 4 or 8 bytes is read and written, the lowest byte first. -/
namespace Go.Proofs.YtaplmlldmhdhoaaGreatDoor
open Go.RowKit
set_option linter.unusedVariables false
/-- A row of bytes as a number, the lowest byte first. -/
def leOf : List Int → Int
  | [] => 0
  | x :: l => x + 256 * leOf l
/-- The highest byte first, onto what there is. -/
def beOn (v : Int) : List Int → Int
  | [] => v
  | x :: l => beOn (v * 256 + x) l
def beOf (l : List Int) : Int := beOn 0 l
def widB (n : Int) : Bool := n == 1 || n == 2 || n == 4 || n == 8
theorem widB_cases {n : Int} (h : widB n = true) : n = 1 ∨ n = 2 ∨ n = 4 ∨ n = 8 := by
  simp [widB] at h; omega
def insB (len : Int) (at_ n : Int) : Bool := decide (0 ≤ at_) && decide (at_ + n ≤ len)
/-- What a reading answers beside the number. -/
def rdErr (len : Nat) (at_ n : Int) : Int := if widB n then (if insB len at_ n then 0 else 11) else 1
def cutOf (l : List Int) (at_ n : Int) : List Int := (l.drop at_.toNat).take n.toNat
def rdLe (l : List Int) (at_ n : Int) : Int := if widB n && insB l.length at_ n then leOf (cutOf l at_ n) else 0
def rdBe (l : List Int) (at_ n : Int) : Int := if widB n && insB l.length at_ n then beOf (cutOf l at_ n) else 0
def IsB (x : Int) : Prop := 0 ≤ x ∧ x < 256
theorem beOn_append (v : Int) (l : List Int) (x : Int) : beOn v (l ++ [x]) = beOn v l * 256 + x := by
  induction l generalizing v with
  | nil => rfl
  | cons y l ih => simp [beOn, ih]
theorem beOn_bd (v : Int) (l : List Int) (k : Nat) (h0 : 0 ≤ v) (h1 : v < 256 ^ k) (hl : ∀ x ∈ l, IsB x) : 0 ≤ beOn v l ∧ beOn v l < 256 ^ (k + l.length) := by
  induction l generalizing v k with
  | nil => exact ⟨h0, by simpa [beOn] using h1⟩
  | cons x l ih =>
    have hx := hl x (by simp)
    unfold IsB at hx
    have h2 : v * 256 + x < 256 ^ (k + 1) := by rw [Int.pow_succ]; omega
    have := ih (v * 256 + x) (k + 1) (by omega) h2 (fun y hy => hl y (by simp [hy]))
    simp only [beOn, List.length_cons]
    rw [show k + (l.length + 1) = k + 1 + l.length by omega]
    exact this
theorem beOf_bd (l : List Int) (hl : ∀ x ∈ l, IsB x) : 0 ≤ beOf l ∧ beOf l < 256 ^ l.length := by
  have := beOn_bd 0 l 0 (by omega) (by simp) hl
  simpa [beOf] using this
theorem take_snoc (l : List Int) (k : Nat) (h : k < l.length) : l.take (k + 1) = l.take k ++ [l.getD k 0] := by
  rw [List.take_succ_eq_append_getElem h]; simp [List.getD, h]
theorem beOf_snoc (l : List Int) (k : Nat) (h : k < l.length) : beOf (l.take (k + 1)) = beOf (l.take k) * 256 + l.getD k 0 := by
  rw [take_snoc l k h]; exact beOn_append _ _ _
theorem mem_getD (l : List Int) (P : Int → Prop) (h : ∀ x ∈ l, P x) (k : Nat) (hk : k < l.length) : P (l.getD k 0) := by
  have : l.getD k 0 = l[k] := by simp [List.getD, hk]
  rw [this]; exact h _ (List.getElem_mem hk)
/-- The one order is the other turned about: 'beOf' of a row of at most n bytes, its lowest byte taken off again and again. -/
def turnAbout (v u : Int) : Nat → Int
  | 0 => u
  | n + 1 => turnAbout (v / 256) (u * 256 + v % 256) n
theorem turnAbout_snoc (v u : Int) (n : Nat) : turnAbout v u (n + 1) = turnAbout v u n * 256 + v / 256 ^ n % 256 := by
  induction n generalizing v u with
  | zero => simp [turnAbout]
  | succ n ih =>
    rw [turnAbout, ih]
    rw [turnAbout]
    congr 2
    rw [Int.ediv_ediv_of_nonneg (by decide)]
    rw [Int.pow_succ, Int.mul_comm]
theorem leOf_append (l : List Int) (x : Int) : leOf (l ++ [x]) = leOf l + 256 ^ l.length * x := by
  induction l with
  | nil => simp [leOf]
  | cons y l ih =>
    simp only [List.cons_append, leOf, ih, List.length_cons, Int.pow_succ]
    rw [Int.mul_add, ← Int.mul_assoc, Int.add_assoc, Int.mul_comm 256 (256 ^ l.length)]
theorem turnAbout_be (l : List Int) (hl : ∀ x ∈ l, IsB x) (u : Int) : turnAbout (beOf l) u l.length = u * 256 ^ l.length + leOf l := by
  obtain ⟨n, hn⟩ : ∃ n, l.length = n := ⟨_, rfl⟩
  induction n generalizing l u with
  | zero => obtain rfl := List.eq_nil_of_length_eq_zero hn; simp [turnAbout, leOf]
  | succ n ih =>
    have hne : l ≠ [] := by intro e; simp [e] at hn
    obtain ⟨m, x, rfl⟩ : ∃ m x, l = m ++ [x] := ⟨l.dropLast, l.getLast hne, (List.dropLast_concat_getLast hne).symm⟩
    have hm : m.length = n := by simpa using hn
    have hx := hl x (by simp)
    unfold IsB at hx
    have hb : beOf (m ++ [x]) = beOf m * 256 + x := beOn_append _ _ _
    have e1 : (beOf m * 256 + x) / 256 = beOf m := by omega
    have e2 : (beOf m * 256 + x) % 256 = x := by omega
    rw [hn, turnAbout, hb, e1, e2, ← hm, ih m (fun y hy => hl y (by simp [hy])) _ hm, leOf_append, hm, Int.pow_succ, Int.add_mul, Int.mul_assoc, Int.mul_comm 256 (256 ^ n), Int.mul_comm x]
    omega
theorem ret_int {k : IntKind} {a b : Int} (h : a = b) : Ending.returned (.int k a) = .returned (.int k b) := by rw [h]
theorem ret_bool {a b : Bool} (h : a = b) : Ending.returned (.bool a) = .returned (.bool b) := by rw [h]
theorem ret_int2 {k k' : IntKind} {a b c d : Int} (h : a = b) (h' : c = d) : Ending.returned (.tuple #[.int k a, .int k' c]) = .returned (.tuple #[.int k b, .int k' d]) := by rw [h, h']
/-- A row of bytes in memory: what a slice of 'l.length' bytes with address 'a' holds. -/
def Bytes (w : World) (a : Option Addr) (l : List Int) : Prop :=
  ∀ i, i < l.length → ∃ b off, a = some ⟨b, off, none⟩ ∧ w.cell? ⟨b, off + i, none⟩ = some (.int .u8 (l.getD i 0)) ∧ IsB (l.getD i 0)
theorem Bytes.open_ {w : World} {a : Option Addr} {l : List Int} (h : Bytes w a l) (hp : 0 < l.length) :
    ∃ b off, a = some ⟨b, off, none⟩ ∧ ∀ i, i < l.length → w.cell? ⟨b, off + i, none⟩ = some (.int .u8 (l.getD i 0)) := by
  obtain ⟨b, off, ha, _, _⟩ := h 0 hp
  refine ⟨b, off, ha, fun i hi => ?_⟩
  obtain ⟨b', off', ha', hc, _⟩ := h i hi
  rw [ha] at ha'
  simp at ha'
  obtain ⟨rfl, rfl⟩ := ha'
  exact hc
theorem Bytes.isB {w : World} {a : Option Addr} {l : List Int} (h : Bytes w a l) : ∀ x ∈ l, IsB x := by
  intro x hx
  obtain ⟨i, hi, rfl⟩ := List.getElem_of_mem hx
  obtain ⟨_, _, _, _, hb⟩ := h i hi
  simpa [List.getD, hi] using hb
theorem Bytes.mk_ {w : World} {b off : Nat} {l : List Int} (hl : ∀ x ∈ l, IsB x) (h : ∀ i, i < l.length → w.cell? ⟨b, off + i, none⟩ = some (.int .u8 (l.getD i 0))) : Bytes w (some ⟨b, off, none⟩) l :=
  fun i hi => ⟨b, off, rfl, h i hi, mem_getD l IsB hl i hi⟩
theorem Bytes.later {w w' : World} {a : Option Addr} {l : List Int} (h : Bytes w a l) (hb : Below w.heap.size w w') : Bytes w' a l := by
  intro i hi
  obtain ⟨b, off, ha, hc, hx⟩ := h i hi
  exact ⟨b, off, ha, cell_later hb hc, hx⟩
theorem Bytes.drewN {w : World} {a : Option Addr} {l : List Int} (h : Bytes w a l) (n : Nat) : Bytes (w.drewN n) a l := h
theorem getD_cut (l : List Int) (k n i : Nat) (hi : i < n) : ((l.drop k).take n).getD i 0 = l.getD (k + i) 0 := by
  simp [List.getD, hi]
theorem Bytes.cut {w : World} {b off : Nat} {l : List Int} (h : Bytes w (some ⟨b, off, none⟩) l) (k n : Nat) : Bytes w (some ⟨b, off + k, none⟩) ((l.drop k).take n) := by
  intro i hi
  simp at hi
  obtain ⟨b', off', ha, hc, hx⟩ := h (k + i) (by omega)
  simp at ha
  obtain ⟨rfl, rfl⟩ := ha
  rw [getD_cut l k n i (by omega)]
  exact ⟨b, off + k, rfl, by rw [Nat.add_assoc]; exact hc, hx⟩
theorem Bytes.take {w : World} {a : Option Addr} {l : List Int} (h : Bytes w a l) (n : Nat) : Bytes w a (l.take n) := by
  intro i hi
  simp at hi
  obtain ⟨b, off, ha, hc, hx⟩ := h i (by omega)
  have e : (l.take n).getD i 0 = l.getD i 0 := by
    have h1 : i < n := by omega
    have h2 : i < l.length := by omega
    simp [List.getD, h1, h2]
  rw [e]
  exact ⟨b, off, ha, hc, hx⟩
theorem Bytes.nil_ (w : World) (a : Option Addr) : Bytes w a [] := fun i hi => by simp at hi
theorem or_u64 (i : Nat) (x y : Int) (hi : i ≤ 64) (hx0 : 0 ≤ x) (hx : x % 2 ^ i = 0) (hx1 : x < 2 ^ 64) (hy0 : 0 ≤ y) (hy : y < 2 ^ i) : bits .or .u64 x y = x + y :=
  bits_join .u64 64 (by decide) (fun n h0 h1 => by rw [IntKind.wrap_u64]; omega) i x y hx0 hx hx1 hy0 hy (by
    have h2 : (2 : Int) ^ i ≤ 2 ^ 64 := by exact_mod_cast Nat.pow_le_pow_right (by decide) hi
    exact Int.lt_of_lt_of_le hy h2)
theorem or_zero_u64 (y : Int) (hy0 : 0 ≤ y) (hy : y < 18446744073709551616) : bits .or .u64 0 y = y := by
  have := or_u64 64 0 y (by decide) (by decide) (by decide) (by decide) hy0 hy
  simpa using this
set_option maxHeartbeats 400000 in
theorem isWidth_any (n : Int) (w : World) : Calls Tryz.prog 86 #[.int .i64 n] w fun e w' => e = .returned (.bool (widB n)) ∧ w' = w := by
  cases hw : widB n
  · have g1 : (n == 1) = false := by simp [widB] at hw; simp [hw]
    have g2 : (n == 2) = false := by simp [widB] at hw; simp [hw]
    have g4 : (n == 4) = false := by simp [widB] at hw; simp [hw]
    have g8 : (n == 8) = false := by simp [widB] at hw; simp [hw]
    clear hw
    go_enter Tryz.func86, Tryz.ntmps86
    go_wp2
    go_ret
    exact ⟨rfl, rfl⟩
  · rcases widB_cases hw with rfl | rfl | rfl | rfl
    all_goals
      clear hw
      go_enter Tryz.func86, Tryz.ntmps86
      go_wp2
      go_ret
      exact ⟨rfl, rfl⟩
theorem ret_sl2 {a : Option Addr} {n m c : Nat} {k : IntKind} {x : Int} (h : n = m) : Ending.returned (.tuple #[.slice a n c, .int k x]) = .returned (.tuple #[.slice a m c, .int k x]) := by rw [h]
theorem Bytes.at_ {w : World} {b off : Nat} {l : List Int} (h : Bytes w (some ⟨b, off, none⟩) l) (i : Nat) (hi : i < l.length) : w.cell? ⟨b, off + i, none⟩ = some (.int .u8 (l.getD i 0)) := by
  obtain ⟨b', off', ha, hc, _⟩ := h i hi
  simp at ha
  obtain ⟨rfl, rfl⟩ := ha
  exact hc
theorem low4 (x0 x1 x2 x3 : Int) (h0 : IsB x0) (h1 : IsB x1) (h2 : IsB x2) (h3 : IsB x3) :
    bits .or .u64 (bits .or .u64 (bits .or .u64 0 (bits .or .u64 (x3 * 16777216) (x2 * 65536))) (x1 * 256)) x0 = leOf [x0, x1, x2, x3] := by
  unfold IsB at *
  rw [or_u64 24 (x3 * 16777216) (x2 * 65536) (by decide) (by omega) (by omega) (by omega) (by omega) (by omega), or_zero_u64 _ (by omega) (by omega), or_u64 16 _ (x1 * 256) (by decide) (by omega) (by omega) (by omega) (by omega) (by omega), or_u64 8 _ x0 (by decide) (by omega) (by omega) (by omega) (by omega) (by omega)]
  simp only [leOf]; omega
theorem low8 (x0 x1 x2 x3 x4 x5 x6 x7 : Int) (h0 : IsB x0) (h1 : IsB x1) (h2 : IsB x2) (h3 : IsB x3) (h4 : IsB x4) (h5 : IsB x5) (h6 : IsB x6) (h7 : IsB x7) :
    bits .or .u64 (bits .or .u64 (bits .or .u64 (bits .or .u64 (bits .or .u64 (bits .or .u64 (x7 * 72057594037927936) (x6 * 281474976710656)) (x5 * 1099511627776)) (x4 * 4294967296)) (bits .or .u64 (x3 * 16777216) (x2 * 65536))) (x1 * 256)) x0 = leOf [x0, x1, x2, x3, x4, x5, x6, x7] := by
  unfold IsB at *
  rw [or_u64 24 (x3 * 16777216) (x2 * 65536) (by decide) (by omega) (by omega) (by omega) (by omega) (by omega)]
  rw [or_u64 56 (x7 * 72057594037927936) _ (by decide) (by omega) (by omega) (by omega) (by omega) (by omega)]
  rw [or_u64 48 _ (x5 * 1099511627776) (by decide) (by omega) (by omega) (by omega) (by omega) (by omega)]
  rw [or_u64 40 _ (x4 * 4294967296) (by decide) (by omega) (by omega) (by omega) (by omega) (by omega)]
  rw [or_u64 32 _ (x3 * 16777216 + x2 * 65536) (by decide) (by omega) (by omega) (by omega) (by omega) (by omega)]
  rw [or_u64 16 _ (x1 * 256) (by decide) (by omega) (by omega) (by omega) (by omega) (by omega)]
  rw [or_u64 8 _ x0 (by decide) (by omega) (by omega) (by omega) (by omega) (by omega)]
  simp only [leOf]; omega
set_option maxHeartbeats 400000 in
theorem readLow_any (b off cap n : Nat) (l : List Int) (w : World) (h : Bytes w (some ⟨b, off, none⟩) l) (hn : widB n = true) (hl : l.length = n) :
    Calls Tryz.prog 81 #[.slice (some ⟨b, off, none⟩) n cap] w fun e w' => e = .returned (.int .u64 (leOf l)) ∧ ∃ q, w' = w.drewN q := by
  have hI := h.isB
  rcases widB_cases hn with e | e | e | e
  · obtain rfl : n = 1 := by omega
    match l, hl with
    | [x0], _ =>
      have c0 : w.cell? ⟨b, off, none⟩ = some (.int .u8 x0) := by simpa using h.at_ 0 (by simp)
      have h0 := hI x0 (by simp)
      clear h hI hn e
      unfold IsB at *
      go_enter Tryz.func81, Tryz.ntmps81
      go_wp2
      go_ret
      refine ⟨ret_int ?_, 0, rfl⟩
      rw [or_zero_u64 _ (by omega) (by omega)]
      simp [leOf]
  · obtain rfl : n = 2 := by omega
    match l, hl with
    | [x0, x1], _ =>
      have c0 : w.cell? ⟨b, off, none⟩ = some (.int .u8 x0) := by simpa using h.at_ 0 (by simp)
      have c1 : w.cell? ⟨b, off + 1, none⟩ = some (.int .u8 x1) := by simpa using h.at_ 1 (by simp)
      have h0 := hI x0 (by simp)
      have h1 := hI x1 (by simp)
      clear h hI hn e
      unfold IsB at *
      go_enter Tryz.func81, Tryz.ntmps81
      go_wp2
      go_ret
      refine ⟨ret_int ?_, 0, rfl⟩
      rw [or_zero_u64 _ (by omega) (by omega), or_u64 8 _ x0 (by decide) (by omega) (by omega) (by omega) (by omega) (by omega)]
      simp only [leOf]; omega
  · obtain rfl : n = 4 := by omega
    match l, hl with
    | [x0, x1, x2, x3], _ =>
      have c0 : w.cell? ⟨b, off, none⟩ = some (.int .u8 x0) := by simpa using h.at_ 0 (by simp)
      have c1 : w.cell? ⟨b, off + 1, none⟩ = some (.int .u8 x1) := by simpa using h.at_ 1 (by simp)
      have c2 : w.cell? ⟨b, off + 2, none⟩ = some (.int .u8 x2) := by simpa using h.at_ 2 (by simp)
      have c3 : w.cell? ⟨b, off + 3, none⟩ = some (.int .u8 x3) := by simpa using h.at_ 3 (by simp)
      have h0 := hI x0 (by simp)
      have h1 := hI x1 (by simp)
      have h2 := hI x2 (by simp)
      have h3 := hI x3 (by simp)
      clear h hI hn e
      have hz := low4 x0 x1 x2 x3 h0 h1 h2 h3
      have HZ : Hid _ := hz
      clear hz
      unfold IsB at *
      go_enter Tryz.func81, Tryz.ntmps81
      go_wp2
      go_quiet (fail)
      go_wp2
      go_ret
      exact ⟨ret_int HZ.out, _, rfl⟩
  · obtain rfl : n = 8 := by omega
    match l, hl with
    | [x0, x1, x2, x3, x4, x5, x6, x7], _ =>
      have c0 : w.cell? ⟨b, off, none⟩ = some (.int .u8 x0) := by simpa using h.at_ 0 (by simp)
      have c1 : w.cell? ⟨b, off + 1, none⟩ = some (.int .u8 x1) := by simpa using h.at_ 1 (by simp)
      have c2 : w.cell? ⟨b, off + 2, none⟩ = some (.int .u8 x2) := by simpa using h.at_ 2 (by simp)
      have c3 : w.cell? ⟨b, off + 3, none⟩ = some (.int .u8 x3) := by simpa using h.at_ 3 (by simp)
      have c4 : w.cell? ⟨b, off + 4, none⟩ = some (.int .u8 x4) := by simpa using h.at_ 4 (by simp)
      have c5 : w.cell? ⟨b, off + 5, none⟩ = some (.int .u8 x5) := by simpa using h.at_ 5 (by simp)
      have c6 : w.cell? ⟨b, off + 6, none⟩ = some (.int .u8 x6) := by simpa using h.at_ 6 (by simp)
      have c7 : w.cell? ⟨b, off + 7, none⟩ = some (.int .u8 x7) := by simpa using h.at_ 7 (by simp)
      have h0 := hI x0 (by simp)
      have h1 := hI x1 (by simp)
      have h2 := hI x2 (by simp)
      have h3 := hI x3 (by simp)
      have h4 := hI x4 (by simp)
      have h5 := hI x5 (by simp)
      have h6 := hI x6 (by simp)
      have h7 := hI x7 (by simp)
      clear h hI hn e
      have hz := low8 x0 x1 x2 x3 x4 x5 x6 x7 h0 h1 h2 h3 h4 h5 h6 h7
      have HZ : Hid _ := hz
      clear hz
      unfold IsB at *
      go_enter Tryz.func81, Tryz.ntmps81
      go_wp2
      go_quiet (fail)
      go_wp2
      go_quiet (fail)
      go_wp2
      go_ret
      exact ⟨ret_int HZ.out, _, rfl⟩
set_option maxHeartbeats 400000 in
theorem piece_width (a : Option Addr) (len cap : Nat) (at_ n : Int) (w : World) (hn : widB n = false) :
    Calls Tryz.prog 80 #[.slice a len cap, .int .i64 at_, .int .i64 n] w fun e w' => e = .returned (.tuple #[.slice none 0 0, .int .i64 1]) ∧ w' = w := by
  have HN : Hid _ := hn
  clear hn
  go_enter Tryz.func80, Tryz.ntmps80
  go_wp2_with fail
  refine (isWidth_any _ _).mono ?_
  rintro e w' ⟨rfl, rfl⟩
  rw [HN.out]
  go_wp2
  go_ret2
  exact ⟨rfl, rfl⟩
set_option maxHeartbeats 400000 in
theorem piece_out (a : Option Addr) (len cap : Nat) (at_ n : Int) (w : World) (hl : len ≤ maxLen) (hn : widB n = true) (hi : insB len at_ n = false) :
    Calls Tryz.prog 80 #[.slice a len cap, .int .i64 at_, .int .i64 n] w fun e w' => e = .returned (.tuple #[.slice none 0 0, .int .i64 11]) ∧ w' = w := by
  have HN : Hid _ := hn
  unfold maxLen at hl
  have hb : 1 ≤ n ∧ n ≤ 8 := by rcases widB_cases hn with e | e | e | e <;> omega
  simp [insB] at hi
  clear hn
  by_cases h0 : at_ < 0
  · clear hi
    go_enter Tryz.func80, Tryz.ntmps80
    go_wp2_with fail
    refine (isWidth_any _ _).mono ?_
    rintro e w' ⟨rfl, rfl⟩
    rw [HN.out]
    go_wp2
    go_ret2
    exact ⟨rfl, rfl⟩
  · have h1 : 0 ≤ at_ := by omega
    have h2 : (len : Int) - n < at_ := by have := hi h1; omega
    clear hi h0
    go_enter Tryz.func80, Tryz.ntmps80
    go_wp2_with fail
    refine (isWidth_any _ _).mono ?_
    rintro e w' ⟨rfl, rfl⟩
    rw [HN.out]
    go_wp2
    go_ret2
    exact ⟨rfl, rfl⟩
set_option maxHeartbeats 400000 in
theorem piece_yes (b off len cap : Nat) (at_ n : Nat) (w : World) (hl : len ≤ maxLen) (hc : len ≤ cap) (hn : widB n = true) (hi : at_ + n ≤ len) :
    Calls Tryz.prog 80 #[.slice (some ⟨b, off, none⟩) len cap, .int .i64 at_, .int .i64 n] w fun e w' => e = .returned (.tuple #[.slice (some ⟨b, off + at_, none⟩) n (cap - at_), .int .i64 0]) ∧ w' = w := by
  have HN : Hid _ := hn
  unfold maxLen at hl
  have hb : 1 ≤ n ∧ n ≤ 8 := by rcases widB_cases hn with e | e | e | e <;> omega
  clear hn
  have h2 : ¬ ((len : Int) - n < at_) := by omega
  go_enter Tryz.func80, Tryz.ntmps80
  go_wp2_with fail
  refine (isWidth_any _ _).mono ?_
  rintro e w' ⟨rfl, rfl⟩
  rw [HN.out]
  go_wp2
  go_ret2
  exact ⟨ret_sl2 (by omega), rfl⟩
theorem rd_no (l : List Int) (at_ n : Int) (h : widB n = false) : rdErr l.length at_ n = 1 ∧ rdLe l at_ n = 0 ∧ rdBe l at_ n = 0 := by
  simp [rdErr, rdLe, rdBe, h]
theorem rd_out (l : List Int) (at_ n : Int) (h : widB n = true) (h' : insB l.length at_ n = false) : rdErr l.length at_ n = 11 ∧ rdLe l at_ n = 0 ∧ rdBe l at_ n = 0 := by
  simp [rdErr, rdLe, rdBe, h, h']
theorem rd_yes (l : List Int) (at_ n : Int) (h : widB n = true) (h' : insB l.length at_ n = true) : rdErr l.length at_ n = 0 ∧ rdLe l at_ n = leOf (cutOf l at_ n) ∧ rdBe l at_ n = beOf (cutOf l at_ n) := by
  simp [rdErr, rdLe, rdBe, h, h']
set_option maxHeartbeats 400000 in
theorem numLe_any (a : Option Addr) (cap : Nat) (l : List Int) (at_ n : Int) (w : World) (hl : l.length ≤ maxLen) (hc : l.length ≤ cap) (h : Bytes w a l) :
    Calls Tryz.prog 62 #[.slice a l.length cap, .int .i64 at_, .int .i64 n] w fun e w' => e = .returned (.tuple #[.int .u64 (rdLe l at_ n), .int .i64 (rdErr l.length at_ n)]) ∧ ∃ q, w' = w.drewN q := by
  cases hn : widB n
  · obtain ⟨e1, e2, _⟩ := rd_no l at_ n hn
    rw [e1, e2]
    clear e1 e2
    go_enter Tryz.func62, Tryz.ntmps62
    go_wp2_with fail
    refine (piece_width _ _ _ _ _ _ hn).mono ?_
    rintro e w' ⟨rfl, rfl⟩
    go_wp2
    go_ret2
    exact ⟨rfl, 0, rfl⟩
  cases hi : insB l.length at_ n
  · obtain ⟨e1, e2, _⟩ := rd_out l at_ n hn hi
    rw [e1, e2]
    clear e1 e2
    go_enter Tryz.func62, Tryz.ntmps62
    go_wp2_with fail
    refine (piece_out _ _ _ _ _ _ hl hn hi).mono ?_
    rintro e w' ⟨rfl, rfl⟩
    go_wp2
    go_ret2
    exact ⟨rfl, 0, rfl⟩
  · obtain ⟨e1, e2, _⟩ := rd_yes l at_ n hn hi
    rw [e1, e2]
    clear e1 e2
    have hb : 1 ≤ n ∧ n ≤ 8 := by rcases widB_cases hn with e | e | e | e <;> omega
    simp [insB] at hi
    obtain ⟨p, rfl⟩ := Int.eq_ofNat_of_zero_le hi.1
    obtain ⟨m, rfl⟩ := Int.eq_ofNat_of_zero_le (show 0 ≤ n by omega)
    obtain ⟨b, off, rfl, _⟩ := h.open_ (by omega)
    have hcut := h.cut p m
    have hlen : ((l.drop p).take m).length = m := by simp; omega
    have HL : Hid _ := hlen
    have HN : Hid _ := hn
    obtain ⟨len, hlen2⟩ : ∃ len, l.length = len := ⟨_, rfl⟩
    rw [hlen2] at hl hc hi ⊢
    simp only [cutOf, Int.toNat_natCast]
    generalize (l.drop p).take m = c at *
    clear hlen hn h hlen2
    go_enter Tryz.func62, Tryz.ntmps62
    go_wp2_with fail
    refine (piece_yes b off len cap p m _ hl hc HN.out (by omega)).mono ?_
    rintro e w' ⟨rfl, rfl⟩
    go_wp2_with fail
    refine (readLow_any _ _ _ _ c _ hcut HN.out HL.out).mono ?_
    rintro e w' ⟨rfl, q, rfl⟩
    go_wp2
    go_ret2
    exact ⟨rfl, _, rfl⟩
theorem info5 : (Tryz.prog.info? 5).map (fun i => (i.zero, i.size, i.bytes)) = some (some (.int .u8 0), 1, 1) := by kernel_rfl
theorem size5 : (Tryz.prog.info? 5).map (·.size) = some 1 := by kernel_rfl
/-- 'copy' into a row of the call's own, from its head on. -/
theorem wpList_copy_rowIs {P : Program} {w : World} {ops : Array Oper} {rest : List Oper} {o : Oper} {a : Act} {Q : Exit → Act → World → Prop} (hgd : o.guard = none) (d s : Operand) (dT sT : TypeId)
    (ho : o.op = .call { callee := .builtin .copy, args := #[d, s], argTypes := #[dT, sT] }) (elem : TypeId) (hu : P.underlying dT = some (.slice elem)) (hsz : (P.info? elem).map (·.size) = some 1)
    (dp sp : Option Addr) (dLen dCap sLen sCap : Nat) (hd : a.eval d = .slice dp dLen dCap) (hs : a.eval s = .slice sp sLen sCap)
    (g n : Nat) (f : Nat → Value) (t : TypeId) (hr : w.rowIs g t n f) (cs : List Value) (hn : cs.length = Nat.min sLen dLen)
    (hpos : 0 < cs.length → dp = some ⟨g, 0, none⟩ ∧ ∃ b off, sp = some ⟨b, off, none⟩ ∧ ∀ j v, cs[j]? = some v → w.cell? ⟨b, off + j, none⟩ = some v)
    (hfit : cs.length ≤ n) (h1 : ∀ v ∈ cs, v.oneCell' = true)
    (B : Nat) (w0 : World) (hB : B ≤ g) (hbel : Below B w0 w)
    (h : ∀ w', Hid (w'.rowIs g t n (fun i => (cs[i]?).getD (f i))) → Below B w0 w' → Hid (w'.heap.size = w.heap.size) → wpList P ops Q rest (a.put o.dst (goInt cs.length)) w') :
    wpList P ops Q (o :: rest) a w := by
  by_cases h0 : cs.length = 0
  · obtain rfl : cs = [] := List.eq_nil_of_length_eq_zero h0
    refine wpList_copy_nothing hgd d s dT sT ho elem hu hsz dp sp dLen dCap sLen sCap hd hs (by simpa using hn.symm) ?_
    exact h w (show World.rowIs _ _ _ _ _ by simpa using hr) hbel (show _ = _ from rfl)
  · obtain ⟨rfl, b, off, rfl, hsrc⟩ := hpos (by omega)
    obtain ⟨cur, hg, hcn, hcur⟩ := hr
    refine wpList_copy_own hgd d s dT sT ho elem hu hsz g 0 dLen dCap ⟨b, off, none⟩ sLen sCap hd hs cur t hg cs hn (fun j v hj => by
      have := hsrc j v hj
      have e : (⟨b, off, none⟩ : Addr).add j = ⟨b, off + j, none⟩ := by unfold Addr.add; split <;> simp_all
      rw [e]; exact this) (by omega) h1 ?_
    refine h _ (show World.rowIs _ _ _ _ _ from ⟨_, setRow_heap w g _ _ t _ hg, by simp; omega, fun i hi => ?_⟩) (below_setRow hbel hB _) (show _ = _ by simp [World.setRow])
    by_cases hi2 : i < cs.length
    · simp [hi2, List.getElem?_append]
    · have h3 := hcur i hi
      have e : cs[i]? = none := List.getElem?_eq_none (by omega)
      simp only [e, Option.getD_none]
      rw [← h3]
      have e2 : cs.length + (i - cs.length) = i := by omega
      simp [List.getElem?_append, hi2, e2]
/-- A row of numbers of eight bytes in memory. -/
def IsW (x : Int) : Prop := 0 ≤ x ∧ x < 18446744073709551616
def Words (w : World) (a : Option Addr) (l : List Int) : Prop :=
  ∀ i, i < l.length → ∃ b off, a = some ⟨b, off, none⟩ ∧ w.cell? ⟨b, off + i, none⟩ = some (.int .u64 (l.getD i 0)) ∧ IsW (l.getD i 0)
theorem Words.open_ {w : World} {a : Option Addr} {l : List Int} (h : Words w a l) (hp : 0 < l.length) :
    ∃ b off, a = some ⟨b, off, none⟩ ∧ ∀ i, i < l.length → w.cell? ⟨b, off + i, none⟩ = some (.int .u64 (l.getD i 0)) := by
  obtain ⟨b, off, ha, _, _⟩ := h 0 hp
  refine ⟨b, off, ha, fun i hi => ?_⟩
  obtain ⟨b', off', ha', hc, _⟩ := h i hi
  rw [ha] at ha'
  simp at ha'
  obtain ⟨rfl, rfl⟩ := ha'
  exact hc
theorem Words.isW {w : World} {a : Option Addr} {l : List Int} (h : Words w a l) : ∀ x ∈ l, IsW x := by
  intro x hx
  obtain ⟨i, hi, rfl⟩ := List.getElem_of_mem hx
  obtain ⟨_, _, _, _, hb⟩ := h i hi
  simpa [List.getD, hi] using hb
theorem Words.later {w w' : World} {a : Option Addr} {l : List Int} (h : Words w a l) (hb : Below w.heap.size w w') : Words w' a l := by
  intro i hi
  obtain ⟨b, off, ha, hc, hx⟩ := h i hi
  exact ⟨b, off, ha, cell_later hb hc, hx⟩
def fitB (n v : Int) : Bool := v / 256 ^ n.toNat == 0
def fitsB (n : Int) (l : List Int) : Bool := l.all (fitB n)
theorem fits_snoc (n : Int) (l : List Int) (k : Nat) (hk : k < l.length) : fitsB n (l.take (k + 1)) = (fitsB n (l.take k) && fitB n (l.getD k 0)) := by
  rw [take_snoc l k hk]; simp [fitsB]
theorem fits_not (n : Int) (l : List Int) (k : Nat) (hk : k < l.length) (h : fitB n (l.getD k 0) = false) : fitsB n l = false := by
  unfold fitsB
  rw [List.all_eq_false]
  refine ⟨l.getD k 0, by simp [List.getD, hk], ?_⟩
  rw [h]; decide
set_option maxHeartbeats 400000 in
theorem allFit_1 (a : Option Addr) (cap : Nat) (l : List Int) (w : World) (hl : l.length ≤ 140737488355328) (h : Words w a l) :
    Calls Tryz.prog 87 #[.int .i64 1, .slice a l.length cap] w fun e w' => e = .returned (.bool (fitsB 1 l)) ∧ w' = w := by
  have HW := hid h
  clear h
  obtain ⟨len, hlen⟩ : ∃ len, l.length = len := ⟨_, rfl⟩
  have HL := hid hlen
  rw [hlen] at hl ⊢
  clear hlen
  go_enter Tryz.func87, Tryz.ntmps87
  go_wp2
  go_loop [9] (fun i => ∃ k : Nat, k ≤ len ∧ i = .int .i64 k ∧ Hid (fitsB 1 (l.take k) = true)) (fun i => len - (intOf i).toNat)
  case atStart => exact ⟨0, Nat.zero_le _, rfl, hid rfl⟩
  case round =>
    obtain ⟨k, hk, rfl, hf⟩ := hrel
    by_cases hlt : k < len
    · have hkl : k < l.length := by rw [HL.out]; exact hlt
      obtain ⟨b, off, rfl, hcs⟩ := HW.out.open_ (by omega)
      have hc := hcs k hkl
      have hx := mem_getD l IsW HW.out.isW k hkl
      obtain ⟨x, hxe⟩ : ∃ x, l.getD k 0 = x := ⟨_, rfl⟩
      rw [hxe] at hc hx
      unfold IsW at hx
      clear hcs
      cases hb : fitB 1 x
      · have H1 := hid (fits_not 1 l k hkl (by rw [hxe]; exact hb))
        have ht : (x / 256 != 0) = true := by simp [fitB] at hb; simp [hb]
        clear hxe hb
        go_wp2
        go_ret
        exact ⟨ret_bool H1.out.symm, rfl⟩
      · have H1 := hid (show fitsB 1 (l.take (k + 1)) = true by rw [fits_snoc 1 l k hkl, hf.out, hxe, hb]; rfl)
        have ht : (x / 256 != 0) = false := by simp [fitB] at hb; simp [hb]
        clear hxe hb
        go_wp2
        go_round
        case rel => exact ⟨k + 1, by omega, by go_num, H1.out⟩
        case measure => simp [intOf]; omega
    · go_wp2
      go_ret
      have e : l.take k = l := List.take_of_length_le (by rw [HL.out]; omega)
      rw [e] at hf
      exact ⟨ret_bool hf.out.symm, rfl⟩
set_option maxHeartbeats 400000 in
theorem allFit_2 (a : Option Addr) (cap : Nat) (l : List Int) (w : World) (hl : l.length ≤ 140737488355328) (h : Words w a l) :
    Calls Tryz.prog 87 #[.int .i64 2, .slice a l.length cap] w fun e w' => e = .returned (.bool (fitsB 2 l)) ∧ w' = w := by
  have HW := hid h
  clear h
  obtain ⟨len, hlen⟩ : ∃ len, l.length = len := ⟨_, rfl⟩
  have HL := hid hlen
  rw [hlen] at hl ⊢
  clear hlen
  go_enter Tryz.func87, Tryz.ntmps87
  go_wp2
  go_loop [9] (fun i => ∃ k : Nat, k ≤ len ∧ i = .int .i64 k ∧ Hid (fitsB 2 (l.take k) = true)) (fun i => len - (intOf i).toNat)
  case atStart => exact ⟨0, Nat.zero_le _, rfl, hid rfl⟩
  case round =>
    obtain ⟨k, hk, rfl, hf⟩ := hrel
    by_cases hlt : k < len
    · have hkl : k < l.length := by rw [HL.out]; exact hlt
      obtain ⟨b, off, rfl, hcs⟩ := HW.out.open_ (by omega)
      have hc := hcs k hkl
      have hx := mem_getD l IsW HW.out.isW k hkl
      obtain ⟨x, hxe⟩ : ∃ x, l.getD k 0 = x := ⟨_, rfl⟩
      rw [hxe] at hc hx
      unfold IsW at hx
      clear hcs
      cases hb : fitB 2 x
      · have H1 := hid (fits_not 2 l k hkl (by rw [hxe]; exact hb))
        have ht : (x / 65536 != 0) = true := by simp [fitB] at hb; simp [hb]
        clear hxe hb
        go_wp2
        go_ret
        exact ⟨ret_bool H1.out.symm, rfl⟩
      · have H1 := hid (show fitsB 2 (l.take (k + 1)) = true by rw [fits_snoc 2 l k hkl, hf.out, hxe, hb]; rfl)
        have ht : (x / 65536 != 0) = false := by simp [fitB] at hb; simp [hb]
        clear hxe hb
        go_wp2
        go_round
        case rel => exact ⟨k + 1, by omega, by go_num, H1.out⟩
        case measure => simp [intOf]; omega
    · go_wp2
      go_ret
      have e : l.take k = l := List.take_of_length_le (by rw [HL.out]; omega)
      rw [e] at hf
      exact ⟨ret_bool hf.out.symm, rfl⟩
set_option maxHeartbeats 400000 in
theorem allFit_4 (a : Option Addr) (cap : Nat) (l : List Int) (w : World) (hl : l.length ≤ 140737488355328) (h : Words w a l) :
    Calls Tryz.prog 87 #[.int .i64 4, .slice a l.length cap] w fun e w' => e = .returned (.bool (fitsB 4 l)) ∧ w' = w := by
  have HW := hid h
  clear h
  obtain ⟨len, hlen⟩ : ∃ len, l.length = len := ⟨_, rfl⟩
  have HL := hid hlen
  rw [hlen] at hl ⊢
  clear hlen
  go_enter Tryz.func87, Tryz.ntmps87
  go_wp2
  go_loop [9] (fun i => ∃ k : Nat, k ≤ len ∧ i = .int .i64 k ∧ Hid (fitsB 4 (l.take k) = true)) (fun i => len - (intOf i).toNat)
  case atStart => exact ⟨0, Nat.zero_le _, rfl, hid rfl⟩
  case round =>
    obtain ⟨k, hk, rfl, hf⟩ := hrel
    by_cases hlt : k < len
    · have hkl : k < l.length := by rw [HL.out]; exact hlt
      obtain ⟨b, off, rfl, hcs⟩ := HW.out.open_ (by omega)
      have hc := hcs k hkl
      have hx := mem_getD l IsW HW.out.isW k hkl
      obtain ⟨x, hxe⟩ : ∃ x, l.getD k 0 = x := ⟨_, rfl⟩
      rw [hxe] at hc hx
      unfold IsW at hx
      clear hcs
      cases hb : fitB 4 x
      · have H1 := hid (fits_not 4 l k hkl (by rw [hxe]; exact hb))
        have ht : (x / 4294967296 != 0) = true := by simp [fitB] at hb; simp [hb]
        clear hxe hb
        go_wp2
        go_ret
        exact ⟨ret_bool H1.out.symm, rfl⟩
      · have H1 := hid (show fitsB 4 (l.take (k + 1)) = true by rw [fits_snoc 4 l k hkl, hf.out, hxe, hb]; rfl)
        have ht : (x / 4294967296 != 0) = false := by simp [fitB] at hb; simp [hb]
        clear hxe hb
        go_wp2
        go_round
        case rel => exact ⟨k + 1, by omega, by go_num, H1.out⟩
        case measure => simp [intOf]; omega
    · go_wp2
      go_ret
      have e : l.take k = l := List.take_of_length_le (by rw [HL.out]; omega)
      rw [e] at hf
      exact ⟨ret_bool hf.out.symm, rfl⟩
set_option maxHeartbeats 400000 in
theorem allFit_8 (a : Option Addr) (cap : Nat) (l : List Int) (w : World) (hl : l.length ≤ 140737488355328) (h : Words w a l) :
    Calls Tryz.prog 87 #[.int .i64 8, .slice a l.length cap] w fun e w' => e = .returned (.bool (fitsB 8 l)) ∧ w' = w := by
  have HW := hid h
  clear h
  obtain ⟨len, hlen⟩ : ∃ len, l.length = len := ⟨_, rfl⟩
  have HL := hid hlen
  rw [hlen] at hl ⊢
  clear hlen
  go_enter Tryz.func87, Tryz.ntmps87
  go_wp2
  go_loop [9] (fun i => ∃ k : Nat, k ≤ len ∧ i = .int .i64 k ∧ Hid (fitsB 8 (l.take k) = true)) (fun i => len - (intOf i).toNat)
  case atStart => exact ⟨0, Nat.zero_le _, rfl, hid rfl⟩
  case round =>
    obtain ⟨k, hk, rfl, hf⟩ := hrel
    by_cases hlt : k < len
    · have hkl : k < l.length := by rw [HL.out]; exact hlt
      obtain ⟨b, off, rfl, hcs⟩ := HW.out.open_ (by omega)
      have hc := hcs k hkl
      have hx := mem_getD l IsW HW.out.isW k hkl
      obtain ⟨x, hxe⟩ : ∃ x, l.getD k 0 = x := ⟨_, rfl⟩
      rw [hxe] at hc hx
      unfold IsW at hx
      clear hcs
      have hb : fitB 8 x = true := by
        have h0 : x / 18446744073709551616 = 0 := by omega
        simp [fitB, h0]
      have H1 := hid (show fitsB 8 (l.take (k + 1)) = true by rw [fits_snoc 8 l k hkl, hf.out, hxe, hb]; rfl)
      clear hxe hb
      go_wp2
      go_round
      case rel => exact ⟨k + 1, by omega, by go_num, H1.out⟩
      case measure => simp [intOf]; omega
    · go_wp2
      go_ret
      have e : l.take k = l := List.take_of_length_le (by rw [HL.out]; omega)
      rw [e] at hf
      exact ⟨ret_bool hf.out.symm, rfl⟩
theorem allFit_any (a : Option Addr) (cap : Nat) (n : Int) (l : List Int) (w : World) (hl : l.length ≤ 140737488355328) (hn : widB n = true) (h : Words w a l) :
    Calls Tryz.prog 87 #[.int .i64 n, .slice a l.length cap] w fun e w' => e = .returned (.bool (fitsB n l)) ∧ w' = w := by
  rcases widB_cases hn with rfl | rfl | rfl | rfl
  · exact allFit_1 a cap l w hl h
  · exact allFit_2 a cap l w hl h
  · exact allFit_4 a cap l w hl h
  · exact allFit_8 a cap l w hl h
set_option maxRecDepth 100000 in
set_option maxHeartbeats 400000 in
theorem grown_any (a : Option Addr) (cap : Nat) (l : List Int) (more : Nat) (w : World) (hl : l.length ≤ 140737488355328) (hm : more ≤ 140737488355328) (h : Bytes w a l) :
    Calls Tryz.prog 88 #[.slice a l.length cap, .int .i64 more] w fun e w' => e = .returned (.slice (some ⟨w.heap.size, 0, none⟩) (l.length + more) (l.length + more)) ∧ Below w.heap.size w w' ∧ w'.heap.size = w.heap.size + 1 ∧
      w'.rowIs w.heap.size 5 (l.length + more) (fun i => .int .u8 (l.getD i 0)) := by
  have hmk := run_make_row' (P := Tryz.prog) 59 5 (.int .u8 0) 1 Tryz.underlying59 info5 rfl .i64 .i64 (l.length + more) (by omega) (by omega)
  have ec : ((l.length + more : Nat) : Int) = (l.length : Int) + more := by omega
  rw [ec] at hmk
  clear ec
  have hcs : ∀ i, i < l.length + more → ((l.map (fun x => Value.int .u8 x))[i]?).getD (.int .u8 0) = .int .u8 (l.getD i 0) := by
    intro i hi
    by_cases h2 : i < l.length
    · simp [h2, List.getD]
    · simp [h2]
  obtain ⟨cs, hcs0⟩ : ∃ cs, cs = l.map (fun x => Value.int .u8 x) := ⟨_, rfl⟩
  rw [← hcs0] at hcs
  have hcl : cs.length = l.length := by rw [hcs0]; simp
  have hco : ∀ v ∈ cs, v.oneCell' = true := by rw [hcs0]; intro v hv; simp at hv; obtain ⟨x, _, rfl⟩ := hv; rfl
  have hsrc : 0 < cs.length → ∃ b off, a = some ⟨b, off, none⟩ ∧ ∀ j v, cs[j]? = some v → w.cell? ⟨b, off + j, none⟩ = some v := by
    intro hp
    obtain ⟨b, off, ha, hc⟩ := h.open_ (by omega)
    refine ⟨b, off, ha, fun j v hj => ?_⟩
    rw [hcs0] at hj
    simp at hj
    obtain ⟨x, hx, rfl⟩ := hj
    have hj2 : j < l.length := (List.getElem?_eq_some_iff.1 hx).1
    rw [hc j hj2]
    simp [List.getD, hx]
  have HS := hid hcs
  have HC := hid hcl
  have HO := hid hco
  have HR := hid hsrc
  clear hcs hcs0 hcl hco hsrc
  go_enter Tryz.func88, Tryz.ntmps88
  go_wp2_with (show wpList _ _ _ ({ dst := _, op := .call { callee := .builtin .copy, args := #[.tmp 11, .tmp 12], argTypes := #[59, 59] }, type := _, pos := _, after := _, guard := none } :: _) _ _; refine wpList_copy_rowIs rfl (.tmp 11) (.tmp 12) 59 59 rfl 5 Tryz.underlying59 size5 _ _ _ _ _ _ rfl rfl w.heap.size (l.length + more) _ 5 (World.rowIs_made _ _ _ _) cs ?c1 ?c2 ?c3 HO.out w.heap.size w (Nat.le_refl _) ((Below.refl _ _).alloc (Nat.le_refl _) _) ?_; rotate_left 3; intro w1 hr1 hb1 hs1)
  case c1 => rw [HC.out]; exact (Nat.min_eq_left (by omega)).symm
  case c2 =>
    intro hp
    obtain ⟨b, off, ha, hc⟩ := HR.out hp
    exact ⟨b, off, ha, fun j v hj => cell_later ((Below.refl _ _).alloc (Nat.le_refl _) _) (hc j v hj)⟩
  case c3 => rw [HC.out]; omega
  go_ret
  exact ⟨rfl, hb1, hs1.out.trans (by simp), hr1.out.congr HS.out⟩
/-- A number's bytes, n of them, the lowest first, the highest first. -/
def bytesLe (n : Nat) (v : Int) : List Int := (List.range n).map fun i => v / 256 ^ i % 256
theorem len_le (n : Nat) (v : Int) : (bytesLe n v).length = n := by simp [bytesLe]
theorem below_set {g p : Nat} {a w : World} (h : Below g a w) (v : Value) : Below g a (w.setCell ⟨g, p, none⟩ v) := h.setCell (Nat.le_refl g) v
theorem getD_le (n : Nat) (v : Int) (j : Nat) (h : j < n) : (bytesLe n v).getD j 0 = v / 256 ^ j % 256 := by simp [bytesLe, List.getD, h]
theorem getD_out (l : List Int) (j : Nat) (h : l.length ≤ j) : l.getD j 0 = 0 := by simp [List.getD, h]
theorem getD_app (L M : List Int) (i : Nat) : (L ++ M).getD i 0 = if i < L.length then L.getD i 0 else M.getD (i - L.length) 0 := by
  by_cases h : i < L.length
  · rw [if_pos h]; simp [List.getD, h, List.getElem?_append]
  · rw [if_neg h]; simp [List.getD, List.getElem?_append, h]
set_option maxHeartbeats 400000 in
theorem writeLow_1 (g N cap : Nat) (L : List Int) (v : Int) (hv : IsW v) (w : World) (hr : w.rowIs g 5 N (fun i => .int .u8 (L.getD i 0))) (hN : L.length + 1 ≤ N) :
    Calls Tryz.prog 89 #[.slice (some ⟨g, L.length, none⟩) 1 cap, .int .u64 v] w fun e w' => e = .returned (.tuple #[]) ∧ Below g w w' ∧ w'.heap.size = w.heap.size ∧
      w'.rowIs g 5 N (fun i => .int .u8 ((L ++ bytesLe 1 v).getD i 0)) := by
  unfold IsW at hv
  have HR := hid hr
  obtain ⟨p, hp⟩ : ∃ p, L.length = p := ⟨_, rfl⟩
  rw [hp] at hN ⊢
  obtain ⟨x0, c0⟩ : ∃ x, w.cell? ⟨g, p, none⟩ = some x := ⟨_, hr.cell (i := p) (by omega)⟩
  have f0 := hr.frozen (p)
  have HP := hid hp
  clear hp hr
  go_enter Tryz.func89, Tryz.ntmps89
  go_wp2
  go_end0
  refine ⟨rfl, (below_set (Below.refl _ _) _), by simp [World.setCell], (HR.out.set (p) _).congr fun i hi => ?_⟩
  rw [getD_app, HP.out]
  by_cases h1 : i < p
  · rw [if_pos h1]
    simp only [show ¬ i = p by omega, if_false]
  · rw [if_neg h1]
    obtain ⟨j, rfl⟩ : ∃ j, i = p + j := ⟨i - p, by omega⟩
    rw [Nat.add_sub_cancel_left]
    by_cases h2 : j < 1
    · rw [getD_le 1 v j h2]
      rcases (show j = 0 by omega) with rfl <;> first | (simp; done) | (simp; omega)
    · rw [getD_out (bytesLe 1 v) j (by rw [len_le]; omega), getD_out L (p + j) (by rw [HP.out]; omega)]
      simp only [show ¬ p + j = p by omega, if_false]
set_option maxHeartbeats 400000 in
theorem writeLow_2 (g N cap : Nat) (L : List Int) (v : Int) (hv : IsW v) (w : World) (hr : w.rowIs g 5 N (fun i => .int .u8 (L.getD i 0))) (hN : L.length + 2 ≤ N) :
    Calls Tryz.prog 89 #[.slice (some ⟨g, L.length, none⟩) 2 cap, .int .u64 v] w fun e w' => e = .returned (.tuple #[]) ∧ Below g w w' ∧ w'.heap.size = w.heap.size ∧
      w'.rowIs g 5 N (fun i => .int .u8 ((L ++ bytesLe 2 v).getD i 0)) := by
  unfold IsW at hv
  have HR := hid hr
  obtain ⟨p, hp⟩ : ∃ p, L.length = p := ⟨_, rfl⟩
  rw [hp] at hN ⊢
  obtain ⟨x0, c0⟩ : ∃ x, w.cell? ⟨g, p, none⟩ = some x := ⟨_, hr.cell (i := p) (by omega)⟩
  have f0 := hr.frozen (p)
  obtain ⟨x1, c1⟩ : ∃ x, w.cell? ⟨g, p + 1, none⟩ = some x := ⟨_, hr.cell (i := p + 1) (by omega)⟩
  have f1 := hr.frozen (p + 1)
  have HP := hid hp
  clear hp hr
  go_enter Tryz.func89, Tryz.ntmps89
  go_wp2
  go_end0
  refine ⟨rfl, (below_set (below_set (Below.refl _ _) _) _), by simp [World.setCell], ((HR.out.set (p + 1) _).set (p) _).congr fun i hi => ?_⟩
  rw [getD_app, HP.out]
  by_cases h1 : i < p
  · rw [if_pos h1]
    simp only [show ¬ i = p by omega, show ¬ i = p + 1 by omega, if_false]
  · rw [if_neg h1]
    obtain ⟨j, rfl⟩ : ∃ j, i = p + j := ⟨i - p, by omega⟩
    rw [Nat.add_sub_cancel_left]
    by_cases h2 : j < 2
    · rw [getD_le 2 v j h2]
      rcases (show j = 0 ∨ j = 1 by omega) with rfl | rfl <;> first | (simp; done) | (simp; omega)
    · rw [getD_out (bytesLe 2 v) j (by rw [len_le]; omega), getD_out L (p + j) (by rw [HP.out]; omega)]
      simp only [show ¬ p + j = p by omega, show ¬ p + j = p + 1 by omega, if_false]
set_option maxHeartbeats 400000 in
theorem writeLow_4 (g N cap : Nat) (L : List Int) (v : Int) (hv : IsW v) (w : World) (hr : w.rowIs g 5 N (fun i => .int .u8 (L.getD i 0))) (hN : L.length + 4 ≤ N) :
    Calls Tryz.prog 89 #[.slice (some ⟨g, L.length, none⟩) 4 cap, .int .u64 v] w fun e w' => e = .returned (.tuple #[]) ∧ Below g w w' ∧ w'.heap.size = w.heap.size ∧
      w'.rowIs g 5 N (fun i => .int .u8 ((L ++ bytesLe 4 v).getD i 0)) := by
  unfold IsW at hv
  have HR := hid hr
  obtain ⟨p, hp⟩ : ∃ p, L.length = p := ⟨_, rfl⟩
  rw [hp] at hN ⊢
  obtain ⟨x0, c0⟩ : ∃ x, w.cell? ⟨g, p, none⟩ = some x := ⟨_, hr.cell (i := p) (by omega)⟩
  have f0 := hr.frozen (p)
  obtain ⟨x1, c1⟩ : ∃ x, w.cell? ⟨g, p + 1, none⟩ = some x := ⟨_, hr.cell (i := p + 1) (by omega)⟩
  have f1 := hr.frozen (p + 1)
  obtain ⟨x2, c2⟩ : ∃ x, w.cell? ⟨g, p + 2, none⟩ = some x := ⟨_, hr.cell (i := p + 2) (by omega)⟩
  have f2 := hr.frozen (p + 2)
  obtain ⟨x3, c3⟩ : ∃ x, w.cell? ⟨g, p + 3, none⟩ = some x := ⟨_, hr.cell (i := p + 3) (by omega)⟩
  have f3 := hr.frozen (p + 3)
  have HP := hid hp
  clear hp hr
  go_enter Tryz.func89, Tryz.ntmps89
  go_wp2
  go_end0
  refine ⟨rfl, (below_set (below_set (below_set (below_set (Below.refl _ _) _) _) _) _), by simp [World.setCell], ((((HR.out.set (p + 3) _).set (p + 2) _).set (p + 1) _).set (p) _).congr fun i hi => ?_⟩
  rw [getD_app, HP.out]
  by_cases h1 : i < p
  · rw [if_pos h1]
    simp only [show ¬ i = p by omega, show ¬ i = p + 1 by omega, show ¬ i = p + 2 by omega, show ¬ i = p + 3 by omega, if_false]
  · rw [if_neg h1]
    obtain ⟨j, rfl⟩ : ∃ j, i = p + j := ⟨i - p, by omega⟩
    rw [Nat.add_sub_cancel_left]
    by_cases h2 : j < 4
    · rw [getD_le 4 v j h2]
      rcases (show j = 0 ∨ j = 1 ∨ j = 2 ∨ j = 3 by omega) with rfl | rfl | rfl | rfl <;> first | (simp; done) | (simp; omega)
    · rw [getD_out (bytesLe 4 v) j (by rw [len_le]; omega), getD_out L (p + j) (by rw [HP.out]; omega)]
      simp only [show ¬ p + j = p by omega, show ¬ p + j = p + 1 by omega, show ¬ p + j = p + 2 by omega, show ¬ p + j = p + 3 by omega, if_false]
set_option maxHeartbeats 400000 in
theorem writeLow_8 (g N cap : Nat) (L : List Int) (v : Int) (hv : IsW v) (w : World) (hr : w.rowIs g 5 N (fun i => .int .u8 (L.getD i 0))) (hN : L.length + 8 ≤ N) :
    Calls Tryz.prog 89 #[.slice (some ⟨g, L.length, none⟩) 8 cap, .int .u64 v] w fun e w' => e = .returned (.tuple #[]) ∧ Below g w w' ∧ w'.heap.size = w.heap.size ∧
      w'.rowIs g 5 N (fun i => .int .u8 ((L ++ bytesLe 8 v).getD i 0)) := by
  unfold IsW at hv
  have HR := hid hr
  obtain ⟨p, hp⟩ : ∃ p, L.length = p := ⟨_, rfl⟩
  rw [hp] at hN ⊢
  obtain ⟨x0, c0⟩ : ∃ x, w.cell? ⟨g, p, none⟩ = some x := ⟨_, hr.cell (i := p) (by omega)⟩
  have f0 := hr.frozen (p)
  obtain ⟨x1, c1⟩ : ∃ x, w.cell? ⟨g, p + 1, none⟩ = some x := ⟨_, hr.cell (i := p + 1) (by omega)⟩
  have f1 := hr.frozen (p + 1)
  obtain ⟨x2, c2⟩ : ∃ x, w.cell? ⟨g, p + 2, none⟩ = some x := ⟨_, hr.cell (i := p + 2) (by omega)⟩
  have f2 := hr.frozen (p + 2)
  obtain ⟨x3, c3⟩ : ∃ x, w.cell? ⟨g, p + 3, none⟩ = some x := ⟨_, hr.cell (i := p + 3) (by omega)⟩
  have f3 := hr.frozen (p + 3)
  obtain ⟨x4, c4⟩ : ∃ x, w.cell? ⟨g, p + 4, none⟩ = some x := ⟨_, hr.cell (i := p + 4) (by omega)⟩
  have f4 := hr.frozen (p + 4)
  obtain ⟨x5, c5⟩ : ∃ x, w.cell? ⟨g, p + 5, none⟩ = some x := ⟨_, hr.cell (i := p + 5) (by omega)⟩
  have f5 := hr.frozen (p + 5)
  obtain ⟨x6, c6⟩ : ∃ x, w.cell? ⟨g, p + 6, none⟩ = some x := ⟨_, hr.cell (i := p + 6) (by omega)⟩
  have f6 := hr.frozen (p + 6)
  obtain ⟨x7, c7⟩ : ∃ x, w.cell? ⟨g, p + 7, none⟩ = some x := ⟨_, hr.cell (i := p + 7) (by omega)⟩
  have f7 := hr.frozen (p + 7)
  have HP := hid hp
  clear hp hr
  go_enter Tryz.func89, Tryz.ntmps89
  go_wp2
  go_end0
  refine ⟨rfl, (below_set (below_set (below_set (below_set (below_set (below_set (below_set (below_set (Below.refl _ _) _) _) _) _) _) _) _) _), by simp [World.setCell], ((((((((HR.out.set (p + 7) _).set (p + 6) _).set (p + 5) _).set (p + 4) _).set (p + 3) _).set (p + 2) _).set (p + 1) _).set (p) _).congr fun i hi => ?_⟩
  rw [getD_app, HP.out]
  by_cases h1 : i < p
  · rw [if_pos h1]
    simp only [show ¬ i = p by omega, show ¬ i = p + 1 by omega, show ¬ i = p + 2 by omega, show ¬ i = p + 3 by omega, show ¬ i = p + 4 by omega, show ¬ i = p + 5 by omega, show ¬ i = p + 6 by omega, show ¬ i = p + 7 by omega, if_false]
  · rw [if_neg h1]
    obtain ⟨j, rfl⟩ : ∃ j, i = p + j := ⟨i - p, by omega⟩
    rw [Nat.add_sub_cancel_left]
    by_cases h2 : j < 8
    · rw [getD_le 8 v j h2]
      rcases (show j = 0 ∨ j = 1 ∨ j = 2 ∨ j = 3 ∨ j = 4 ∨ j = 5 ∨ j = 6 ∨ j = 7 by omega) with rfl | rfl | rfl | rfl | rfl | rfl | rfl | rfl <;> first | (simp; done) | (simp; omega)
    · rw [getD_out (bytesLe 8 v) j (by rw [len_le]; omega), getD_out L (p + j) (by rw [HP.out]; omega)]
      simp only [show ¬ p + j = p by omega, show ¬ p + j = p + 1 by omega, show ¬ p + j = p + 2 by omega, show ¬ p + j = p + 3 by omega, show ¬ p + j = p + 4 by omega, show ¬ p + j = p + 5 by omega, show ¬ p + j = p + 6 by omega, show ¬ p + j = p + 7 by omega, if_false]
theorem grown_int (a : Option Addr) (cap : Nat) (l : List Int) (x : Int) (more : Nat) (w : World) (e : x = more) (hl : l.length ≤ 140737488355328) (hm : more ≤ 140737488355328) (h : Bytes w a l) :
    Calls Tryz.prog 88 #[.slice a l.length cap, .int .i64 x] w fun e w' => e = .returned (.slice (some ⟨w.heap.size, 0, none⟩) (l.length + more) (l.length + more)) ∧ Below w.heap.size w w' ∧ w'.heap.size = w.heap.size + 1 ∧
      w'.rowIs w.heap.size 5 (l.length + more) (fun i => .int .u8 (l.getD i 0)) := by
  subst e; exact grown_any a cap l more w hl hm h
def outLe (b : List Int) (n : Nat) (l : List Int) : List Int := b ++ l.flatMap (bytesLe n)
theorem outLe_snoc (b : List Int) (n : Nat) (l : List Int) (k : Nat) (h : k < l.length) : outLe b n (l.take (k + 1)) = outLe b n (l.take k) ++ bytesLe n (l.getD k 0) := by
  rw [take_snoc l k h]; simp [outLe]
theorem outLe_len (b : List Int) (n : Nat) (l : List Int) : (outLe b n l).length = b.length + n * l.length := by
  unfold outLe
  induction l with
  | nil => simp
  | cons x l ih =>
    simp only [List.length_append, List.flatMap_cons, len_le, List.length_cons, Nat.mul_add] at *
    omega
theorem writeLow_at2 (g N cap p : Nat) (L : List Int) (v : Int) (hv : IsW v) (w : World) (hr : w.rowIs g 5 N (fun i => .int .u8 (L.getD i 0))) (hp : L.length = p) (hN : p + 2 ≤ N) :
    Calls Tryz.prog 89 #[.slice (some ⟨g, p, none⟩) 2 cap, .int .u64 v] w fun e w' => e = .returned (.tuple #[]) ∧ Below g w w' ∧ w'.heap.size = w.heap.size ∧
      w'.rowIs g 5 N (fun i => .int .u8 ((L ++ bytesLe 2 v).getD i 0)) := by
  subst hp; exact writeLow_2 g N cap L v hv w hr hN
set_option maxHeartbeats 400000 in
theorem putLe_2 (a a2 : Option Addr) (cap cap2 : Nat) (b l : List Int) (w : World) (hb : b.length ≤ 140737488351232) (hl : l.length ≤ 1099511627776) (h : Bytes w a b) (h2 : Words w a2 l) (hf : fitsB 2 l = true) :
    Calls Tryz.prog 70 #[.slice a b.length cap, .int .i64 2, .slice a2 l.length cap2] w fun e w' => e = .returned (.tuple #[.slice (some ⟨w.heap.size, 0, none⟩) (b.length + 2 * l.length) (b.length + 2 * l.length), .int .i64 0]) ∧
      Below w.heap.size w w' ∧ w'.heap.size = w.heap.size + 1 ∧ w'.rowIs w.heap.size 5 (b.length + 2 * l.length) (fun i => .int .u8 ((outLe b 2 l).getD i 0)) := by
  have HF := hid hf
  have HB := hid h
  have HW := hid h2
  clear hf h h2
  obtain ⟨ll, hll⟩ : ∃ ll, l.length = ll := ⟨_, rfl⟩
  have HL := hid hll
  go_enter Tryz.func70, Tryz.ntmps70
  go_wp2_with fail
  refine (isWidth_any _ _).mono ?_
  rintro e w' ⟨rfl, rfl⟩
  rw [show widB 2 = true from rfl]
  go_wp2_with fail
  rw [← hll]
  clear hll
  refine (allFit_2 _ _ _ _ (by omega) HW.out).mono ?_
  rintro e w' ⟨rfl, rfl⟩
  rw [HF.out, HL.out]
  rw [HL.out] at hl
  go_wp2_with fail
  refine (grown_int _ _ _ _ (2 * ll) _ (by omega) (by omega) (by omega) HB.out).mono ?_
  rintro e w1 ⟨rfl, hb1, hs1, hr1⟩
  have HB1 := hid hb1
  have HS1 := hid hs1
  have HR1 := hid hr1
  clear hb1 hs1 hr1
  go_wp2
  go_loopw [29] (fun i wr => ∃ k : Nat, k ≤ ll ∧ i = .int .i64 k ∧ Below w'.heap.size w' wr ∧ wr.heap.size = w'.heap.size + 1 ∧ wr.rowIs w'.heap.size 5 (b.length + 2 * ll) (fun i => .int .u8 ((outLe b 2 (l.take k)).getD i 0))) (fun i _ => ll - (intOf i).toNat)
  case atStart => exact ⟨0, Nat.zero_le _, rfl, HB1.out, HS1.out, HR1.out.congr fun i _ => by simp [outLe]⟩
  case round =>
    obtain ⟨k, hk, rfl, hb2, hs2, hr2⟩ := hrel
    have HB2 := hid hb2
    have HZ := hid hs2
    have HR2 := hid hr2
    clear HB1 HS1 HR1 hs2 hr2
    by_cases hlt : k < ll
    · have hkl : k < l.length := by rw [HL.out]; exact hlt
      obtain ⟨b2, off2, rfl, hcs⟩ := (HW.out.later hb2).open_ (by omega)
      have hc := hcs k hkl
      have hx := mem_getD l IsW HW.out.isW k hkl
      have HO := hid (outLe_snoc b 2 l k hkl)
      have HLL := hid (show (outLe b 2 (l.take k)).length = b.length + 2 * k by rw [outLe_len, List.length_take, Nat.min_eq_left (by omega)])
      generalize l.getD k 0 = x at *
      clear hcs hb2
      go_wp2_with fail
      refine (writeLow_at2 _ _ _ _ _ _ hx _ HR2.out (by rw [HLL.out]; omega) (by omega)).mono ?_
      rintro e w2 ⟨rfl, hb3, hs3, hr3⟩
      have HB3 := hid hb3
      have HS3 := hid hs3
      have HR3 := hid hr3
      clear hb3 hs3 hr3
      go_wp2
      go_roundw
      case rel => exact ⟨k + 1, by omega, by go_num, HB2.out.trans HB3.out, HS3.out.trans HZ.out, by rw [HO.out]; exact HR3.out⟩
      case measure => simp [intOf]; omega
    · go_wp2
      go_ret2
      have e : l.take k = l := List.take_of_length_le (by rw [HL.out]; omega)
      rw [e] at HR2
      rw [HL.out]
      exact ⟨rfl, HB2.out, HZ.out, HR2.out⟩
theorem writeLow_at4 (g N cap p : Nat) (L : List Int) (v : Int) (hv : IsW v) (w : World) (hr : w.rowIs g 5 N (fun i => .int .u8 (L.getD i 0))) (hp : L.length = p) (hN : p + 4 ≤ N) :
    Calls Tryz.prog 89 #[.slice (some ⟨g, p, none⟩) 4 cap, .int .u64 v] w fun e w' => e = .returned (.tuple #[]) ∧ Below g w w' ∧ w'.heap.size = w.heap.size ∧
      w'.rowIs g 5 N (fun i => .int .u8 ((L ++ bytesLe 4 v).getD i 0)) := by
  subst hp; exact writeLow_4 g N cap L v hv w hr hN
set_option maxHeartbeats 400000 in
theorem putLe_4 (a a2 : Option Addr) (cap cap2 : Nat) (b l : List Int) (w : World) (hb : b.length ≤ 140737488351232) (hl : l.length ≤ 1099511627776) (h : Bytes w a b) (h2 : Words w a2 l) (hf : fitsB 4 l = true) :
    Calls Tryz.prog 70 #[.slice a b.length cap, .int .i64 4, .slice a2 l.length cap2] w fun e w' => e = .returned (.tuple #[.slice (some ⟨w.heap.size, 0, none⟩) (b.length + 4 * l.length) (b.length + 4 * l.length), .int .i64 0]) ∧
      Below w.heap.size w w' ∧ w'.heap.size = w.heap.size + 1 ∧ w'.rowIs w.heap.size 5 (b.length + 4 * l.length) (fun i => .int .u8 ((outLe b 4 l).getD i 0)) := by
  have HF := hid hf
  have HB := hid h
  have HW := hid h2
  clear hf h h2
  obtain ⟨ll, hll⟩ : ∃ ll, l.length = ll := ⟨_, rfl⟩
  have HL := hid hll
  go_enter Tryz.func70, Tryz.ntmps70
  go_wp2_with fail
  refine (isWidth_any _ _).mono ?_
  rintro e w' ⟨rfl, rfl⟩
  rw [show widB 4 = true from rfl]
  go_wp2_with fail
  rw [← hll]
  clear hll
  refine (allFit_4 _ _ _ _ (by omega) HW.out).mono ?_
  rintro e w' ⟨rfl, rfl⟩
  rw [HF.out, HL.out]
  rw [HL.out] at hl
  go_wp2_with fail
  refine (grown_int _ _ _ _ (4 * ll) _ (by omega) (by omega) (by omega) HB.out).mono ?_
  rintro e w1 ⟨rfl, hb1, hs1, hr1⟩
  have HB1 := hid hb1
  have HS1 := hid hs1
  have HR1 := hid hr1
  clear hb1 hs1 hr1
  go_wp2
  go_loopw [29] (fun i wr => ∃ k : Nat, k ≤ ll ∧ i = .int .i64 k ∧ Below w'.heap.size w' wr ∧ wr.heap.size = w'.heap.size + 1 ∧ wr.rowIs w'.heap.size 5 (b.length + 4 * ll) (fun i => .int .u8 ((outLe b 4 (l.take k)).getD i 0))) (fun i _ => ll - (intOf i).toNat)
  case atStart => exact ⟨0, Nat.zero_le _, rfl, HB1.out, HS1.out, HR1.out.congr fun i _ => by simp [outLe]⟩
  case round =>
    obtain ⟨k, hk, rfl, hb2, hs2, hr2⟩ := hrel
    have HB2 := hid hb2
    have HZ := hid hs2
    have HR2 := hid hr2
    clear HB1 HS1 HR1 hs2 hr2
    by_cases hlt : k < ll
    · have hkl : k < l.length := by rw [HL.out]; exact hlt
      obtain ⟨b2, off2, rfl, hcs⟩ := (HW.out.later hb2).open_ (by omega)
      have hc := hcs k hkl
      have hx := mem_getD l IsW HW.out.isW k hkl
      have HO := hid (outLe_snoc b 4 l k hkl)
      have HLL := hid (show (outLe b 4 (l.take k)).length = b.length + 4 * k by rw [outLe_len, List.length_take, Nat.min_eq_left (by omega)])
      generalize l.getD k 0 = x at *
      clear hcs hb2
      go_wp2_with fail
      refine (writeLow_at4 _ _ _ _ _ _ hx _ HR2.out (by rw [HLL.out]; omega) (by omega)).mono ?_
      rintro e w2 ⟨rfl, hb3, hs3, hr3⟩
      have HB3 := hid hb3
      have HS3 := hid hs3
      have HR3 := hid hr3
      clear hb3 hs3 hr3
      go_wp2
      go_roundw
      case rel => exact ⟨k + 1, by omega, by go_num, HB2.out.trans HB3.out, HS3.out.trans HZ.out, by rw [HO.out]; exact HR3.out⟩
      case measure => simp [intOf]; omega
    · go_wp2
      go_ret2
      have e : l.take k = l := List.take_of_length_le (by rw [HL.out]; omega)
      rw [e] at HR2
      rw [HL.out]
      exact ⟨rfl, HB2.out, HZ.out, HR2.out⟩
theorem writeLow_at8 (g N cap p : Nat) (L : List Int) (v : Int) (hv : IsW v) (w : World) (hr : w.rowIs g 5 N (fun i => .int .u8 (L.getD i 0))) (hp : L.length = p) (hN : p + 8 ≤ N) :
    Calls Tryz.prog 89 #[.slice (some ⟨g, p, none⟩) 8 cap, .int .u64 v] w fun e w' => e = .returned (.tuple #[]) ∧ Below g w w' ∧ w'.heap.size = w.heap.size ∧
      w'.rowIs g 5 N (fun i => .int .u8 ((L ++ bytesLe 8 v).getD i 0)) := by
  subst hp; exact writeLow_8 g N cap L v hv w hr hN
set_option maxHeartbeats 400000 in
theorem putLe_8 (a a2 : Option Addr) (cap cap2 : Nat) (b l : List Int) (w : World) (hb : b.length ≤ 140737488351232) (hl : l.length ≤ 1099511627776) (h : Bytes w a b) (h2 : Words w a2 l) (hf : fitsB 8 l = true) :
    Calls Tryz.prog 70 #[.slice a b.length cap, .int .i64 8, .slice a2 l.length cap2] w fun e w' => e = .returned (.tuple #[.slice (some ⟨w.heap.size, 0, none⟩) (b.length + 8 * l.length) (b.length + 8 * l.length), .int .i64 0]) ∧
      Below w.heap.size w w' ∧ w'.heap.size = w.heap.size + 1 ∧ w'.rowIs w.heap.size 5 (b.length + 8 * l.length) (fun i => .int .u8 ((outLe b 8 l).getD i 0)) := by
  have HF := hid hf
  have HB := hid h
  have HW := hid h2
  clear hf h h2
  obtain ⟨ll, hll⟩ : ∃ ll, l.length = ll := ⟨_, rfl⟩
  have HL := hid hll
  go_enter Tryz.func70, Tryz.ntmps70
  go_wp2_with fail
  refine (isWidth_any _ _).mono ?_
  rintro e w' ⟨rfl, rfl⟩
  rw [show widB 8 = true from rfl]
  go_wp2_with fail
  rw [← hll]
  clear hll
  refine (allFit_8 _ _ _ _ (by omega) HW.out).mono ?_
  rintro e w' ⟨rfl, rfl⟩
  rw [HF.out, HL.out]
  rw [HL.out] at hl
  go_wp2_with fail
  refine (grown_int _ _ _ _ (8 * ll) _ (by omega) (by omega) (by omega) HB.out).mono ?_
  rintro e w1 ⟨rfl, hb1, hs1, hr1⟩
  have HB1 := hid hb1
  have HS1 := hid hs1
  have HR1 := hid hr1
  clear hb1 hs1 hr1
  go_wp2
  go_loopw [29] (fun i wr => ∃ k : Nat, k ≤ ll ∧ i = .int .i64 k ∧ Below w'.heap.size w' wr ∧ wr.heap.size = w'.heap.size + 1 ∧ wr.rowIs w'.heap.size 5 (b.length + 8 * ll) (fun i => .int .u8 ((outLe b 8 (l.take k)).getD i 0))) (fun i _ => ll - (intOf i).toNat)
  case atStart => exact ⟨0, Nat.zero_le _, rfl, HB1.out, HS1.out, HR1.out.congr fun i _ => by simp [outLe]⟩
  case round =>
    obtain ⟨k, hk, rfl, hb2, hs2, hr2⟩ := hrel
    have HB2 := hid hb2
    have HZ := hid hs2
    have HR2 := hid hr2
    clear HB1 HS1 HR1 hs2 hr2
    by_cases hlt : k < ll
    · have hkl : k < l.length := by rw [HL.out]; exact hlt
      obtain ⟨b2, off2, rfl, hcs⟩ := (HW.out.later hb2).open_ (by omega)
      have hc := hcs k hkl
      have hx := mem_getD l IsW HW.out.isW k hkl
      have HO := hid (outLe_snoc b 8 l k hkl)
      have HLL := hid (show (outLe b 8 (l.take k)).length = b.length + 8 * k by rw [outLe_len, List.length_take, Nat.min_eq_left (by omega)])
      generalize l.getD k 0 = x at *
      clear hcs hb2
      go_wp2_with fail
      refine (writeLow_at8 _ _ _ _ _ _ hx _ HR2.out (by rw [HLL.out]; omega) (by omega)).mono ?_
      rintro e w2 ⟨rfl, hb3, hs3, hr3⟩
      have HB3 := hid hb3
      have HS3 := hid hs3
      have HR3 := hid hr3
      clear hb3 hs3 hr3
      go_wp2
      go_roundw
      case rel => exact ⟨k + 1, by omega, by go_num, HB2.out.trans HB3.out, HS3.out.trans HZ.out, by rw [HO.out]; exact HR3.out⟩
      case measure => simp [intOf]; omega
    · go_wp2
      go_ret2
      have e : l.take k = l := List.take_of_length_le (by rw [HL.out]; omega)
      rw [e] at HR2
      rw [HL.out]
      exact ⟨rfl, HB2.out, HZ.out, HR2.out⟩
theorem putLe_yes (a a2 : Option Addr) (cap cap2 n : Nat) (b l : List Int) (w : World) (hb : b.length ≤ 140737488351232) (hl : l.length ≤ 1099511627776) (h : Bytes w a b) (h2 : Words w a2 l) (hn : widB n = true) (hn1 : n ≠ 1) (hf : fitsB n l = true) :
    Calls Tryz.prog 70 #[.slice a b.length cap, .int .i64 n, .slice a2 l.length cap2] w fun e w' => e = .returned (.tuple #[.slice (some ⟨w.heap.size, 0, none⟩) (b.length + n * l.length) (b.length + n * l.length), .int .i64 0]) ∧
      Below w.heap.size w w' ∧ w'.heap.size = w.heap.size + 1 ∧ w'.rowIs w.heap.size 5 (b.length + n * l.length) (fun i => .int .u8 ((outLe b n l).getD i 0)) := by
  have := widB_cases hn
  rcases (show n = 1 ∨ n = 2 ∨ n = 4 ∨ n = 8 by omega) with rfl | rfl | rfl | rfl
  · omega
  · exact putLe_2 a a2 cap cap2 b l w hb hl h h2 hf
  · exact putLe_4 a a2 cap cap2 b l w hb hl h h2 hf
  · exact putLe_8 a a2 cap cap2 b l w hb hl h h2 hf
theorem leOf_bytes (n : Nat) (v : Int) : leOf (bytesLe n v) = v % 256 ^ n := by
  induction n with
  | zero => simp [bytesLe, leOf, Int.emod_one]
  | succ n ih =>
    have e : bytesLe (n + 1) v = bytesLe n v ++ [v / 256 ^ n % 256] := by simp [bytesLe, List.range_succ]
    rw [e, leOf_append, ih, len_le, Int.pow_succ, Int.emod_def v (256 ^ n * 256), Int.emod_def v (256 ^ n), Int.emod_def (v / 256 ^ n) 256, ← Int.ediv_ediv_of_nonneg (Int.pow_nonneg (by decide)), Int.mul_sub, ← Int.mul_assoc]
    generalize 256 ^ n * (v / 256 ^ n) = x
    generalize 256 ^ n * 256 * (v / 256 ^ n / 256) = y
    omega
theorem leOf_bd (l : List Int) (hl : ∀ x ∈ l, IsB x) : 0 ≤ leOf l ∧ leOf l < 256 ^ l.length := by
  induction l with
  | nil => simp [leOf]
  | cons x l ih =>
    have := ih (fun y hy => hl y (by simp [hy]))
    have hx := hl x (by simp)
    unfold IsB at hx
    simp only [leOf, List.length_cons, Int.pow_succ]
    omega
theorem new_cell (w : World) (c : Array Value) (t : TypeId) (fr : Nat × Nat) (i : Nat) (h : i < c.size) : (w.alloc (.cells c t fr)).cell? ⟨w.heap.size, i, none⟩ = some c[i] := by
  have := (MapKept.heap_alloc w (.cells c t fr)).1
  unfold World.cell?
  simp only [this]
  exact Array.getElem?_eq_getElem h
theorem pow8 (k : Nat) (h : k ≤ 8) : (256 : Int) ^ k ≤ 18446744073709551616 := by
  rcases (show k = 0 ∨ k = 1 ∨ k = 2 ∨ k = 3 ∨ k = 4 ∨ k = 5 ∨ k = 6 ∨ k = 7 ∨ k = 8 by omega) with rfl | rfl | rfl | rfl | rfl | rfl | rfl | rfl | rfl <;> decide
set_option maxRecDepth 100000 in
theorem cut_run (g off len cap lo hi : Nat) (h : lo < hi) (hh : hi ≤ len) (hc : len ≤ cap) (W : World) : (Instr.slice 59 (.slice (some ⟨g, off, none⟩) len cap) (some (.int .i64 lo)) (some (.int .i64 hi)) none).run Tryz.prog W = .ok (.slice (some ⟨g, off + lo, none⟩) (hi - lo) (cap - lo)) W := by
  have hz : (sizeOf 5).run Tryz.prog W = .ok 1 W := by kernel_rfl
  rw [run_slice_lh (P := Tryz.prog) W 59 (some ⟨g, off, none⟩) len cap Tryz.underlying59 .i64 .i64 lo hi (by omega) (by omega) (by omega)]
  have e : Tryz.prog.elem 59 = 5 := by kernel_rfl
  rw [e, hz]
  have h2 : ¬ (cap = lo) := by omega
  simp [sliced, Addr.add, h2]

end Go.Proofs.YtaplmlldmhdhoaaGreatDoor
