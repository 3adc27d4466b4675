/- What a disk is in memory: two maps behind a pointer, rows of bytes that no one turns, rows of rows that are appended to. -/
import Derived.Test.YtdbpjdaaggenpaaRows
import Derived.WalkKit
import Derived.Maps.OwnSet
import Derived.Maps.Views
import Derived.Lib.SlKeysI
import Derived.Maps.OwnIn
import Derived.Maps.RangeWalk
namespace Go.Proofs.Ytdbpjdaaggenpaa
open Go.RowKit Go.Maps

theorem hid {p : Prop} (h : p) : Hid p := h

def IsB (x : Int) : Prop := 0 ≤ x ∧ x < 256
def IsI (x : Int) : Prop := (Lit.int .i64 x).wf = true
theorem isI_of {x : Int} (h : -9223372036854775808 ≤ x) (h' : x < 9223372036854775808) : IsI x := WalkArith.wf_i64 (by omega)

/-- Each element as it is. -/
def raw (v : Value) : Option (DataW Value × List MemPlace) := some (.held v, [])
theorem intKey : Keyed Try.prog 3 := int_keyed Try.underlying3
theorem keyI {k : Int} (hk : IsI k) : keyOf Try.prog 3 (.int .i64 k) = some (.int .i64 k) := keyOf_int_mk Try.underlying3 hk

/-- Block b is a map that holds M. -/
def MapIs (w : World) (b n : Nat) (M : Int → Option Value) : Prop :=
  ∃ D : DataW Value, w.ownsMap Try.prog 3 raw b n D ∧ ∀ k, IsI k → ∀ z, D.atKey (.int .i64 k) z = ((M k).map DataW.held).getD z

def upd {α : Type} (M : Int → α) (k : Int) (v : α) : Int → α := fun j => if j = k then v else M j
theorem upd_same {α : Type} (M : Int → α) (k : Int) (v : α) : upd M k v k = v := by simp [upd]
theorem upd_other {α : Type} (M : Int → α) {k j : Int} (v : α) (h : j ≠ k) : upd M k v j = M j := by simp [upd, h]

theorem MapIs.made (w : World) : MapIs (w.alloc (.map #[] 0)) w.heap.size 0 (fun _ => none) :=
  ⟨.map [], World.ownsMap_made w Try.prog 3 raw, fun k _ z => by simp [DataW.atKey]⟩
theorem MapIs.mono {w : World} {b n n' : Nat} {M : Int → Option Value} (h : MapIs w b n M) (hn : n ≤ n') : MapIs w b n' M :=
  let ⟨D, h1, h2⟩ := h; ⟨D, h1.mono hn, h2⟩
theorem MapIs.block {w : World} {b n : Nat} {M : Int → Option Value} (h : MapIs w b n M) : ∃ es c, w.heap[b]? = some (.map es c) := by
  obtain ⟨D, ⟨es, c, hb, _⟩, _⟩ := h
  exact ⟨es, c, hb⟩
theorem MapIs.keep {w w' : World} {b n : Nat} {M : Int → Option Value} (h : MapIs w b n M) (hb : w'.heap[b]? = w.heap[b]?) : MapIs w' b n M := by
  obtain ⟨D, ⟨es, c, hh, r⟩, h2⟩ := h
  exact ⟨D, ⟨es, c, hb.trans hh, r⟩, h2⟩
theorem MapIs.look {w : World} {b n : Nat} {M : Int → Option Value} (h : MapIs w b n M) {t e : TypeId} (ht : Try.prog.underlying t = some (.map 3 e)) {z : Value} (hz : (zeroValue e).run Try.prog w = .ok z w)
    {k : Int} (hk : IsI k) : (Instr.lookup t (.map (some b)) (.int .i64 k) false).run Try.prog w = .ok ((M k).getD z) w := by
  obtain ⟨D, h1, h2⟩ := h
  obtain ⟨v, ps, hrun, hR⟩ := h1.lookup intKey ht hz (R := raw) (zd := .held z) (zp := []) rfl (keyI hk)
  rw [hrun]
  simp only [raw, Option.some.injEq, Prod.mk.injEq] at hR
  have := hR.1
  rw [h2 k hk] at this
  cases hM : M k with
  | none => rw [hM] at this; simp at this; simp [this]
  | some u => rw [hM] at this; simp at this; simp [this]
theorem MapIs.put {w : World} {b n : Nat} {M : Int → Option Value} (h : MapIs w b n M) {t e : TypeId} (ht : Try.prog.underlying t = some (.map 3 e)) (hn : n < maxLen) {k : Int} (hk : IsI k) (v : Value) :
    ∃ w', (Instr.mapUpdate t (.map (some b)) (.int .i64 k) v).run Try.prog w = .ok () w' ∧ MapIs w' b (n + 1) (upd M k (some v)) ∧ w.grownBy w' (some b) := by
  obtain ⟨D, h1, h2⟩ := h
  obtain ⟨w', hrun, ho, hg⟩ := h1.update intKey ht hn (keyI hk) (val := v) (d := .held v) (ps := []) rfl
  refine ⟨w', hrun, ⟨_, ho, fun j hj z => ?_⟩, hg⟩
  by_cases e : j = k
  · subst e
    rw [upd_same, atKey_put_same h1.isMap (by simp [WideAt.IsKeyLit])]
    rfl
  · rw [upd_other _ _ e, atKey_put_other (by simpa using e), h2 j hj]

/-! ### the keys -/
theorem keys_of {w : World} {b n : Nat} {M : Int → Option Value} {D : DataW Value} (h1 : w.ownsMap Try.prog 3 raw b n D) (h2 : ∀ k, IsI k → ∀ z, D.atKey (.int .i64 k) z = ((M k).map DataW.held).getD z) :
    (intKeys D).Nodup ∧ ∀ k, k ∈ intKeys D ↔ IsI k ∧ (M k).isSome = true := by
  obtain ⟨es, hD, hpw, _⟩ := h1.entries intKey
  obtain ⟨es', hD', hko⟩ := h1.keysOf
  obtain rfl : es = es' := by rw [hD] at hD'; simpa using hD'
  subst hD
  have hk : ∀ p ∈ es, ∃ x, p.1 = .int .i64 x ∧ IsI x := fun p hp => by
    obtain ⟨v, hv⟩ := hko p hp
    obtain ⟨x, _, hx, hw⟩ := Maps.keyOf_int_inv Try.underlying3 hv
    exact ⟨x, hx, hw⟩
  refine ⟨?_, fun k => ?_⟩
  · show (es.map fun p => intOf p.1).Nodup
    refine List.pairwise_map.2 (hpw.imp_of_mem fun {p q} hp' hq' hne e => hne ?_)
    obtain ⟨a, ha, _⟩ := hk p hp'
    obtain ⟨b, hb, _⟩ := hk q hq'
    rw [ha, hb] at e ⊢
    exact congrArg _ e
  · have hh : ∀ (hI : IsI k), (Maps.has (.map es) (.int .i64 k) = true ↔ (M k).isSome = true) := by
      intro hI
      cases hM : M k with
      | none =>
        rw [has_false_of_atKey (D := .map es) (k := .int .i64 k) (fun z => by rw [h2 k hI z, hM]; rfl)]
        simp
      | some v =>
        rw [has_true_of_atKey (D := .map es) (k := .int .i64 k) (y := .held v) (fun z => by rw [h2 k hI z, hM]; rfl)]
        simp
    show k ∈ es.map (fun p => intOf p.1) ↔ _
    rw [List.mem_map]
    constructor
    · rintro ⟨p, hp', e⟩
      obtain ⟨a, ha, hI⟩ := hk p hp'
      rw [ha] at e
      obtain rfl : a = k := e
      refine ⟨hI, (hh hI).1 ?_⟩
      rw [has_eq, List.any_eq_true]
      exact ⟨p, hp', by rw [ha]; simp [Lit.sameKey]⟩
    · rintro ⟨hI, hs⟩
      have := (hh hI).2 hs
      rw [has_eq, List.any_eq_true] at this
      obtain ⟨p, hp', hs'⟩ := this
      obtain ⟨a, ha, _⟩ := hk p hp'
      rw [ha] at hs'
      exact ⟨p, hp', by rw [ha]; simpa [Lit.sameKey, intOf] using hs'⟩

/-! ### rows -/
theorem owns_lt {w : World} {base s n g : Nat} {e : TypeId} {v : Value} {xs : List Value} (h : w.ownsRow base e s v n xs) (hg : v.ownBlock = some g) : g < w.heap.size ∧ base ≤ g := by
  rcases h.2 with ⟨rfl, _⟩ | ⟨g', cap, cur, rfl, hb, hh, _⟩
  · simp [Value.ownBlock] at hg
  · simp [Value.ownBlock] at hg
    subst hg
    obtain ⟨hlt, _⟩ := Array.getElem?_eq_some_iff.1 hh
    exact ⟨hlt, hb⟩
theorem owns_keep {w w' : World} {base s n : Nat} {e : TypeId} {v : Value} {xs : List Value} (h : w.ownsRow base e s v n xs) (hk : ∀ g, v.ownBlock = some g → w'.heap[g]? = w.heap[g]?) : w'.ownsRow base e s v n xs := by
  refine ⟨h.1, h.2.elim Or.inl (fun ⟨g, cap, cur, hv, hg, hh, r⟩ => Or.inr ⟨g, cap, cur, hv, hg, ?_, r⟩)⟩
  rw [hk g (by rw [hv]; rfl)]
  exact hh
theorem owns_kind {w : World} {base s n g : Nat} {e : TypeId} {v : Value} {xs : List Value} (h : w.ownsRow base e s v n xs) (hg : v.ownBlock = some g) : ∃ cur, w.heap[g]? = some (.cells cur e (0, 0)) := by
  rcases h.2 with ⟨rfl, _⟩ | ⟨g', cap, cur, rfl, hb, hh, _⟩
  · simp [Value.ownBlock] at hg
  · simp [Value.ownBlock] at hg
    subst hg
    exact ⟨cur, hh⟩

/-- v is a slice of the bytes l, in a row that belongs to 'al'. -/
def Row (w : World) (al : Nat → Prop) (v : Value) (l : List Int) : Prop :=
  w.ownsRow 0 5 1 v l.length (l.map fun x => Value.int .u8 x) ∧ l.length = 512 ∧ (∀ x ∈ l, IsB x) ∧ ∀ g, v.ownBlock = some g → al g
/-- v is a slice of the rows ls. -/
def Rows2 (w : World) (al : Nat → Prop) (v : Value) (ls : List (List Int)) : Prop :=
  ∃ vs : List Value, vs.length = ls.length ∧ w.ownsRow 0 42 1 v ls.length vs ∧ (∀ i, (h : i < ls.length) → ∃ u, vs[i]? = some u ∧ Row w al u ls[i]) ∧ ∀ g, v.ownBlock = some g → al g

theorem Row.keep {w w' : World} {al al' : Nat → Prop} {v : Value} {l : List Int} (h : Row w al v l) (hk : ∀ g cur, al g → w.heap[g]? = some (.cells cur 5 (0, 0)) → w'.heap[g]? = w.heap[g]?) (ha : ∀ g, al g → al' g) : Row w' al' v l :=
  ⟨owns_keep h.1 (fun g hg => by obtain ⟨cur, hc⟩ := owns_kind h.1 hg; exact hk g cur (h.2.2.2 g hg) hc), h.2.1, h.2.2.1, fun g hg => ha g (h.2.2.2 g hg)⟩
theorem Rows2.keep {w w' : World} {al al' : Nat → Prop} {v : Value} {ls : List (List Int)} (h : Rows2 w al v ls) (hk : ∀ g cur, al g → w.heap[g]? = some (.cells cur 5 (0, 0)) → w'.heap[g]? = w.heap[g]?)
    (hv : ∀ g, v.ownBlock = some g → w'.heap[g]? = w.heap[g]?) (ha : ∀ g, al g → al' g) : Rows2 w' al' v ls := by
  obtain ⟨vs, h1, h2, h3, h4⟩ := h
  refine ⟨vs, h1, owns_keep h2 hv, fun i hi => ?_, fun g hg => ha g (h4 g hg)⟩
  obtain ⟨u, hu, hr⟩ := h3 i hi
  exact ⟨u, hu, hr.keep hk ha⟩

/-- What a disk holds: blocks, platters (none: noughts), versions. -/
structure Abs where
  N : Int
  P : Int → Option (List Int)
  V : Int → List (List Int)

structure DiskAt (w : World) (pd bp bv : Nat) (MP MV : Int → Option Value) (A : Abs) (n : Nat) (al : Nat → Prop) : Prop where
  lt : ∀ b, al b → b < w.heap.size
  box : w.heap[pd]? = some (.cells #[.int .i64 A.N, .map (some bp), .map (some bv)] 60 (0, 0))
  apd : al pd
  abp : al bp
  abv : al bv
  ne : bp ≠ bv
  mp : MapIs w bp n MP
  mv : MapIs w bv n MV
  rp : ∀ k, IsI k → (MP k = none ∧ A.P k = none) ∨ ∃ v l, MP k = some v ∧ A.P k = some l ∧ Row w al v l
  rv : ∀ k, IsI k → (MV k = none ∧ A.V k = []) ∨ ∃ v, MV k = some v ∧ A.V k ≠ [] ∧ Rows2 w al v (A.V k)
  ap : ∀ k k' v v' g, IsI k → IsI k' → MV k = some v → MV k' = some v' → v.ownBlock = some g → v'.ownBlock = some g → k = k'
  hN : 1 ≤ A.N ∧ A.N ≤ 65536
  vN : ∀ k, A.V k ≠ [] → 0 ≤ k ∧ k < A.N
  vL : ∀ k, (A.V k).length ≤ n

def Disk (w : World) (pd : Nat) (A : Abs) (n : Nat) (al : Nat → Prop) : Prop := ∃ bp bv MP MV, DiskAt w pd bp bv MP MV A n al

/-- Nothing but 'al' and new blocks has turned. -/
structure Mods (al : Nat → Prop) (w w' : World) : Prop where
  os : w'.os = w.os
  tape : w'.tape = w.tape
  output : w'.output = w.output
  size : w.heap.size ≤ w'.heap.size
  block : ∀ b, b < w.heap.size → ¬ al b → w'.heap[b]? = w.heap[b]?
theorem Mods.of_below {al : Nat → Prop} {w w' : World} (h : Below w.heap.size w w') : Mods al w w' := ⟨h.os, h.tape, h.output, h.size, fun b hb _ => h.block b hb⟩
theorem Mods.refl (al : Nat → Prop) (w : World) : Mods al w w := .of_below (Below.refl _ _)
theorem Mods.trans {al al' : Nat → Prop} {w w' w'' : World} (h : Mods al w w') (h' : Mods al' w' w'') (ha : ∀ b, al' b → al b ∨ w.heap.size ≤ b) : Mods al w w'' :=
  ⟨h'.os.trans h.os, h'.tape.trans h.tape, h'.output.trans h.output, Nat.le_trans h.size h'.size, fun b hb hn =>
    (h'.block b (Nat.lt_of_lt_of_le hb h.size) (fun h2 => by rcases ha b h2 with h3 | h3; exact hn h3; omega)).trans (h.block b hb hn)⟩
theorem Mods.grown {al : Nat → Prop} {w w' w'' : World} {row : Option Nat} (h : Mods al w w') (hg : w'.grownBy w'' row) (hr : ∀ b, row = some b → al b ∨ w.heap.size ≤ b) : Mods al w w'' :=
  ⟨hg.os.trans h.os, hg.tape.trans h.tape, hg.output.trans h.output, Nat.le_trans h.size hg.size, fun b hb hn =>
    (hg.block b (Nat.lt_of_lt_of_le hb h.size) (fun e => by rcases hr b e.symm with h3 | h3; exact hn h3; omega)).trans (h.block b hb hn)⟩
theorem Mods.below {al : Nat → Prop} {B : Nat} {w0 w w' : World} (h : Mods al w w') (h0 : Below B w0 w) (hB : B ≤ w.heap.size) (ha : ∀ b, al b → B ≤ b) : Below B w0 w' :=
  ⟨h.os.trans h0.os, h.tape.trans h0.tape, h.output.trans h0.output, Nat.le_trans h0.size h.size, fun b hb => (h.block b (by omega) (fun h2 => by have := ha b h2; omega)).trans (h0.block b hb)⟩
theorem Mods.owns {al : Nat → Prop} {w w' : World} (h : Mods al w w') {base s n : Nat} {e : TypeId} {v : Value} {xs : List Value} (ho : w.ownsRow base e s v n xs) (hn : ∀ g, v.ownBlock = some g → ¬ al g) : w'.ownsRow base e s v n xs :=
  owns_keep ho (fun g hg => h.block g (owns_lt ho hg).1 (hn g hg))

theorem DiskAt.keep {w w' : World} {pd bp bv : Nat} {MP MV : Int → Option Value} {A : Abs} {n : Nat} {al : Nat → Prop} (h : DiskAt w pd bp bv MP MV A n al) (hs : w.heap.size ≤ w'.heap.size)
    (hk : ∀ b, al b → w'.heap[b]? = w.heap[b]?) : DiskAt w' pd bp bv MP MV A n al where
  lt := fun b hb => Nat.lt_of_lt_of_le (h.lt b hb) hs
  box := (hk _ h.apd).trans h.box
  apd := h.apd
  abp := h.abp
  abv := h.abv
  ne := h.ne
  mp := h.mp.keep (hk _ h.abp)
  mv := h.mv.keep (hk _ h.abv)
  rp := fun k hI => (h.rp k hI).imp id (fun ⟨v, l, h1, h2, h3⟩ => ⟨v, l, h1, h2, h3.keep (fun g _ hg _ => hk g hg) (fun _ hg => hg)⟩)
  rv := fun k hI => (h.rv k hI).imp id (fun ⟨v, h1, h2, h3⟩ => ⟨v, h1, h2, h3.keep (fun g _ hg _ => hk g hg) (fun g hg => hk g (let ⟨_, _, _, _, h4⟩ := h3; h4 g hg)) (fun _ hg => hg)⟩)
  ap := h.ap
  hN := h.hN
  vN := h.vN
  vL := h.vL
theorem Disk.keep {w w' : World} {pd : Nat} {A : Abs} {n : Nat} {al : Nat → Prop} (h : Disk w pd A n al) (hs : w.heap.size ≤ w'.heap.size) (hk : ∀ b, al b → w'.heap[b]? = w.heap[b]?) : Disk w' pd A n al :=
  let ⟨bp, bv, MP, MV, d⟩ := h; ⟨bp, bv, MP, MV, d.keep hs hk⟩
theorem Disk.lt {w : World} {pd : Nat} {A : Abs} {n : Nat} {al : Nat → Prop} (h : Disk w pd A n al) : ∀ b, al b → b < w.heap.size := let ⟨_, _, _, _, d⟩ := h; d.lt
theorem Disk.below {w w' : World} {pd : Nat} {A : Abs} {n : Nat} {al : Nat → Prop} (h : Disk w pd A n al) (hb : Below w.heap.size w w') : Disk w' pd A n al :=
  h.keep hb.size (fun b ha => hb.block b (h.lt b ha))
theorem Disk.apart {w w' : World} {pd : Nat} {A : Abs} {n : Nat} {al al' : Nat → Prop} (h : Disk w pd A n al) (hb : Mods al' w w') (ha : ∀ b, al b → ¬ al' b) : Disk w' pd A n al :=
  h.keep hb.size (fun b hb' => hb.block b (h.lt b hb') (ha b hb'))

/-- What became of a disk. -/
def Step (w w' : World) (pd : Nat) (A : Abs) (n : Nat) (al : Nat → Prop) : Prop := ∃ al', Disk w' pd A n al' ∧ (∀ b, al' b → al b ∨ w.heap.size ≤ b) ∧ Mods al w w'
end Go.Proofs.Ytdbpjdaaggenpaa
