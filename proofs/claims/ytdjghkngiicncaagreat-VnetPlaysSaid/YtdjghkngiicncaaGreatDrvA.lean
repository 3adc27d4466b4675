/- What a driver is in memory: its own row of free numbers, a map of chains behind a pointer. -/
import Derived.Test.YtdjghkngiicncaaGreatDevB
import Derived.Test.YtdjghkngiicncaaGreatShelf
import Derived.Maps.OwnSet
import Derived.Maps.Views
import Derived.Lib.SlKeysI
import Derived.Maps.OwnIn
import Derived.Maps.RangeWalk
namespace Go.Proofs.YtdjghkngiicncaaGreat
open Go.RowKit Go.Maps

def IsI (x : Int) : Prop := (Lit.int .i64 x).wf = true
theorem isI_of {x : Int} (h : -9223372036854775808 ≤ x) (h' : x < 9223372036854775808) : IsI x := WalkArith.wf_i64 (by omega)

/-- Each element as it is. -/
def raw (v : Value) : Option (DataW Value × List MemPlace) := some (.held v, [])
theorem intKey : Keyed Tryz.prog 3 := int_keyed Tryz.underlying3
theorem keyI {k : Int} (hk : IsI k) : keyOf Tryz.prog 3 (.int .i64 k) = some (.int .i64 k) := keyOf_int_mk Tryz.underlying3 hk

/-- Block b is a map that holds M. -/
def MapIs (w : World) (b n : Nat) (M : Int → Option Value) : Prop :=
  ∃ D : DataW Value, w.ownsMap Tryz.prog 3 raw b n D ∧ ∀ k, IsI k → ∀ z, D.atKey (.int .i64 k) z = ((M k).map DataW.held).getD z

def upd {α : Type} (M : Int → α) (k : Int) (v : α) : Int → α := fun j => if j = k then v else M j
theorem upd_same {α : Type} (M : Int → α) (k : Int) (v : α) : upd M k v k = v := by simp [upd]
theorem upd_other {α : Type} (M : Int → α) {k j : Int} (v : α) (h : j ≠ k) : upd M k v j = M j := by simp [upd, h]

theorem MapIs.made (w : World) : MapIs (w.alloc (.map #[] 0)) w.heap.size 0 (fun _ => none) :=
  ⟨.map [], World.ownsMap_made w Tryz.prog 3 raw, fun k _ z => by simp [DataW.atKey]⟩
theorem MapIs.mono {w : World} {b n n' : Nat} {M : Int → Option Value} (h : MapIs w b n M) (hn : n ≤ n') : MapIs w b n' M :=
  let ⟨D, h1, h2⟩ := h; ⟨D, h1.mono hn, h2⟩
theorem MapIs.block {w : World} {b n : Nat} {M : Int → Option Value} (h : MapIs w b n M) : ∃ es c, w.heap[b]? = some (.map es c) := by
  obtain ⟨D, ⟨es, c, hb, _⟩, _⟩ := h
  exact ⟨es, c, hb⟩
theorem MapIs.keep {w w' : World} {b n : Nat} {M : Int → Option Value} (h : MapIs w b n M) (hb : w'.heap[b]? = w.heap[b]?) : MapIs w' b n M := by
  obtain ⟨D, ⟨es, c, hh, r⟩, h2⟩ := h
  exact ⟨D, ⟨es, c, hb.trans hh, r⟩, h2⟩
theorem MapIs.look {w : World} {b n : Nat} {M : Int → Option Value} (h : MapIs w b n M) {t e : TypeId} (ht : Tryz.prog.underlying t = some (.map 3 e)) {z : Value} (hz : (zeroValue e).run Tryz.prog w = .ok z w)
    {k : Int} (hk : IsI k) : (Instr.lookup t (.map (some b)) (.int .i64 k) false).run Tryz.prog w = .ok ((M k).getD z) w := by
  obtain ⟨D, h1, h2⟩ := h
  obtain ⟨v, ps, hrun, hR⟩ := h1.lookup intKey ht hz (R := raw) (zd := .held z) (zp := []) rfl (keyI hk)
  rw [hrun]
  simp only [raw, Option.some.injEq, Prod.mk.injEq] at hR
  have := hR.1
  rw [h2 k hk] at this
  cases hM : M k with
  | none => rw [hM] at this; simp at this; simp [this]
  | some u => rw [hM] at this; simp at this; simp [this]
theorem MapIs.put {w : World} {b n : Nat} {M : Int → Option Value} (h : MapIs w b n M) {t e : TypeId} (ht : Tryz.prog.underlying t = some (.map 3 e)) (hn : n < maxLen) {k : Int} (hk : IsI k) (v : Value) :
    ∃ w', (Instr.mapUpdate t (.map (some b)) (.int .i64 k) v).run Tryz.prog w = .ok () w' ∧ MapIs w' b (n + 1) (upd M k (some v)) ∧ w.grownBy w' (some b) := by
  obtain ⟨D, h1, h2⟩ := h
  obtain ⟨w', hrun, ho, hg⟩ := h1.update intKey ht hn (keyI hk) (val := v) (d := .held v) (ps := []) rfl
  refine ⟨w', hrun, ⟨_, ho, fun j hj z => ?_⟩, hg⟩
  by_cases e : j = k
  · subst e
    rw [upd_same, atKey_put_same h1.isMap (by simp [WideAt.IsKeyLit])]
    rfl
  · rw [upd_other _ _ e, atKey_put_other (by simpa using e), h2 j hj]

/-! ### the keys -/
theorem keys_of {w : World} {b n : Nat} {M : Int → Option Value} {D : DataW Value} (h1 : w.ownsMap Tryz.prog 3 raw b n D) (h2 : ∀ k, IsI k → ∀ z, D.atKey (.int .i64 k) z = ((M k).map DataW.held).getD z) :
    (intKeys D).Nodup ∧ ∀ k, k ∈ intKeys D ↔ IsI k ∧ (M k).isSome = true := by
  obtain ⟨es, hD, hpw, _⟩ := h1.entries intKey
  obtain ⟨es', hD', hko⟩ := h1.keysOf
  obtain rfl : es = es' := by rw [hD] at hD'; simpa using hD'
  subst hD
  have hk : ∀ p ∈ es, ∃ x, p.1 = .int .i64 x ∧ IsI x := fun p hp => by
    obtain ⟨v, hv⟩ := hko p hp
    obtain ⟨x, _, hx, hw⟩ := Maps.keyOf_int_inv Tryz.underlying3 hv
    exact ⟨x, hx, hw⟩
  refine ⟨?_, fun k => ?_⟩
  · show (es.map fun p => _root_.Go.intOf p.1).Nodup
    refine List.pairwise_map.2 (hpw.imp_of_mem fun {p q} hp' hq' hne e => hne ?_)
    obtain ⟨a, ha, _⟩ := hk p hp'
    obtain ⟨b, hb, _⟩ := hk q hq'
    rw [ha, hb] at e ⊢
    exact congrArg _ e
  · have hh : ∀ (hI : IsI k), (Maps.has (.map es) (.int .i64 k) = true ↔ (M k).isSome = true) := by
      intro hI
      cases hM : M k with
      | none =>
        rw [has_false_of_atKey (D := .map es) (k := .int .i64 k) (fun z => by rw [h2 k hI z, hM]; rfl)]
        simp
      | some v =>
        rw [has_true_of_atKey (D := .map es) (k := .int .i64 k) (y := .held v) (fun z => by rw [h2 k hI z, hM]; rfl)]
        simp
    show k ∈ es.map (fun p => _root_.Go.intOf p.1) ↔ _
    rw [List.mem_map]
    constructor
    · rintro ⟨p, hp', e⟩
      obtain ⟨a, ha, hI⟩ := hk p hp'
      rw [ha] at e
      obtain rfl : a = k := e
      refine ⟨hI, (hh hI).1 ?_⟩
      rw [has_eq, List.any_eq_true]
      exact ⟨p, hp', by rw [ha]; simp [Lit.sameKey]⟩
    · rintro ⟨hI, hs⟩
      have := (hh hI).2 hs
      rw [has_eq, List.any_eq_true] at this
      obtain ⟨p, hp', hs'⟩ := this
      obtain ⟨a, ha, _⟩ := hk p hp'
      rw [ha] at hs'
      exact ⟨p, hp', by rw [ha]; simpa [Lit.sameKey, _root_.Go.intOf] using hs'⟩

/-! ### rows -/
theorem owns_keep {w w' : World} {base s n : Nat} {e : TypeId} {v : Value} {xs : List Value} (h : w.ownsRow base e s v n xs) (hk : ∀ g, v.ownBlock = some g → w'.heap[g]? = w.heap[g]?) : w'.ownsRow base e s v n xs := by
  refine ⟨h.1, h.2.elim Or.inl (fun ⟨g, cap, cur, hv, hg, hh, r⟩ => Or.inr ⟨g, cap, cur, hv, hg, ?_, r⟩)⟩
  rw [hk g (by rw [hv]; rfl)]
  exact hh
theorem owns_kind {w : World} {base s n g : Nat} {e : TypeId} {v : Value} {xs : List Value} (h : w.ownsRow base e s v n xs) (hg : v.ownBlock = some g) : ∃ cur, w.heap[g]? = some (.cells cur e (0, 0)) := by
  rcases h.2 with ⟨rfl, _⟩ | ⟨g', cap, cur, rfl, hb, hh, _⟩
  · simp [Value.ownBlock] at hg
  · simp [Value.ownBlock] at hg
    subst hg
    exact ⟨cur, hh⟩


theorem MapIs.look_ok {w : World} {b n : Nat} {M : Int → Option Value} (h : MapIs w b n M) {t e : TypeId} (ht : Tryz.prog.underlying t = some (.map 3 e)) {z : Value} (hz : (zeroValue e).run Tryz.prog w = .ok z w)
    {k : Int} (hk : IsI k) : (Instr.lookup t (.map (some b)) (.int .i64 k) true).run Tryz.prog w = .ok (.tuple #[(M k).getD z, .bool (M k).isSome]) w := by
  obtain ⟨D, h1, h2⟩ := h
  obtain ⟨v, ps, hrun, hR⟩ := h1.look_ok intKey ht hz (R := raw) (zd := .held z) (zp := []) rfl (keyI hk)
  rw [hrun]
  simp only [raw, Option.some.injEq, Prod.mk.injEq] at hR
  have := hR.1
  rw [h2 k hk] at this
  cases hM : M k with
  | none =>
    rw [hM] at this
    rw [has_false_of_atKey (D := D) (k := .int .i64 k) (fun z => by rw [h2 k hk z, hM]; rfl)]
    simp at this
    simp [this]
  | some u =>
    rw [hM] at this
    rw [has_true_of_atKey (D := D) (k := .int .i64 k) (y := .held u) (fun z => by rw [h2 k hk z, hM]; rfl)]
    simp at this
    simp [this]
theorem MapIs.del {w : World} {b n : Nat} {M : Int → Option Value} (h : MapIs w b n M) {t e : TypeId} (ht : Tryz.prog.underlying t = some (.map 3 e)) {k : Int} (hk : IsI k) (ty : TypeId) :
    ∃ w', (Builtin.delete_ #[t, 3] ty #[.map (some b), .int .i64 k]).run Tryz.prog w = .ok (.tuple #[]) w' ∧ MapIs w' b n (upd M k none) ∧ w.grownBy w' (some b) := by
  obtain ⟨D, h1, h2⟩ := h
  obtain ⟨w', hrun, ho, hg⟩ := h1.drop intKey ht (keyI hk) ty
  refine ⟨w', hrun, ⟨_, ho, fun j hj z => ?_⟩, hg.grown⟩
  by_cases e : j = k
  · subst e
    rw [upd_same, atKey_del_same]
    rfl
  · rw [upd_other _ _ e, atKey_del_other (by simpa using e), h2 j hj]
theorem Mods.grown {al : Nat → Prop} {w w' w'' : World} {row : Option Nat} (h : Mods al w w') (hg : w'.grownBy w'' row) (hr : ∀ b, row = some b → al b ∨ w.heap.size ≤ b) : Mods al w w'' :=
  ⟨hg.os.trans h.os, hg.tape.trans h.tape, hg.output.trans h.output, Nat.le_trans h.size hg.size, fun b hb hn =>
    (hg.block b (Nat.lt_of_lt_of_le hb h.size) (fun e => by rcases hr b e.symm with h3 | h3; exact hn h3; omega)).trans (h.block b hb hn)⟩

/-- v is a slice of the numbers l. -/
def IRow (w : World) (v : Value) (l : List Nat) : Prop := w.ownsRow 0 3 1 v l.length (l.map fun (k : Nat) => Value.int .i64 (k : Int))
theorem IRow.keep {w w' : World} {v : Value} {l : List Nat} (h : IRow w v l) (hk : ∀ g, v.ownBlock = some g → w'.heap[g]? = w.heap[g]?) : IRow w' v l := owns_keep h hk
theorem IRow.shape {w : World} {v : Value} {l : List Nat} (h : IRow w v l) : ∃ a c, v = .slice a l.length c := owns_slice h
theorem IRow.lt {w : World} {v : Value} {l : List Nat} (h : IRow w v l) {g : Nat} (hg : v.ownBlock = some g) : g < w.heap.size := (owns_lt h hg).1
theorem IRow.kind {w : World} {v : Value} {l : List Nat} (h : IRow w v l) {g : Nat} (hg : v.ownBlock = some g) : ∃ cur, w.heap[g]? = some (.cells cur 3 (0, 0)) := owns_kind h hg
theorem IRow.open_ {w : World} {v : Value} {l : List Nat} (h : IRow w v l) (hp : 0 < l.length) : ∃ g cap, v = .slice (some ⟨g, 0, none⟩) l.length cap ∧ v.ownBlock = some g ∧ l.length ≤ cap ∧ cap ≤ maxLen ∧ ∀ i, i < l.length → w.cell? ⟨g, i, none⟩ = some (.int .i64 (l.getD i 0 : Nat)) ∧ w.frozen? ⟨g, i, none⟩ = false := by
  rcases h.2 with ⟨_, h0⟩ | ⟨g, cap, cur, rfl, _, hh, hc1, hc2, hcs, ht⟩
  · omega
  · refine ⟨g, cap, rfl, rfl, hc1, hc2, fun i hi => ⟨?_, by simp [World.frozen?, hh]⟩⟩
    have e : (cur.toList.take (l.length * 1))[i]? = (l.map fun (k : Nat) => Value.int .i64 (k : Int))[i]? := by rw [ht]
    rw [List.getElem?_take] at e
    simp [hi] at e
    simp [World.cell?, hh, e, List.getD, hi]

/-- What a driver knows. -/
structure Abs where
  free : List Nat
  fl : List (Nat × List Nat)
  offers : Nat
  uses : Nat
def look (fl : List (Nat × List Nat)) (k : Int) : Option (List Nat) := (fl.find? (fun p => decide ((p.1 : Int) = k))).map (·.2)
structure Wf (n : Nat) (A : Abs) : Prop where
  srt : A.free.Pairwise (· < ·)
  perm : (A.free ++ A.fl.flatMap (·.2)).Perm (List.range n)
  hd : ∀ p ∈ A.fl, p.2.head? = some p.1
  o : A.offers < 65536
  u : A.uses < 65536

structure DrvAt (w : World) (pd : Nat) (vf : Value) (bm : Nat) (M : Int → Option Value) (q : Qu) (A : Abs) (c : Nat) (al : Nat → Prop) : Prop where
  lt : ∀ b, al b → b < w.heap.size
  box : w.heap[pd]? = some (.cells (q.cs ++ [Value.int .u16 A.offers, Value.int .u16 A.uses, vf, Value.map (some bm)]).toArray 123 (0, 0))
  apd : al pd
  abm : al bm
  fr : IRow w vf A.free
  afr : ∀ g, vf.ownBlock = some g → al g
  mp : MapIs w bm c M
  ch : ∀ k, IsI k → (M k = none ∧ look A.fl k = none) ∨ ∃ v l, M k = some v ∧ look A.fl k = some l ∧ IRow w v l ∧ ∀ g, v.ownBlock = some g → al g ∧ vf.ownBlock ≠ some g
  ng : ¬ al q.g
  wf : Wf q.n A
def Drv (w : World) (pd : Nat) (q : Qu) (A : Abs) (c : Nat) (al : Nat → Prop) : Prop := ∃ vf bm M, DrvAt w pd vf bm M q A c al

theorem DrvAt.keep {w w' : World} {pd bm : Nat} {vf : Value} {M : Int → Option Value} {q : Qu} {A : Abs} {c : Nat} {al : Nat → Prop} (h : DrvAt w pd vf bm M q A c al) (hs : w.heap.size ≤ w'.heap.size) (hk : ∀ b, al b → w'.heap[b]? = w.heap[b]?) : DrvAt w' pd vf bm M q A c al where
  lt := fun b hb => Nat.lt_of_lt_of_le (h.lt b hb) hs
  box := (hk _ h.apd).trans h.box
  apd := h.apd
  abm := h.abm
  fr := h.fr.keep (fun g hg => hk g (h.afr g hg))
  afr := h.afr
  mp := h.mp.keep (hk _ h.abm)
  ch := fun k hI => (h.ch k hI).imp id (fun ⟨v, l, h1, h2, h3, h4⟩ => ⟨v, l, h1, h2, h3.keep (fun g hg => hk g (h4 g hg).1), h4⟩)
  ng := h.ng
  wf := h.wf
theorem Drv.keep {w w' : World} {pd : Nat} {q : Qu} {A : Abs} {c : Nat} {al : Nat → Prop} (h : Drv w pd q A c al) (hs : w.heap.size ≤ w'.heap.size) (hk : ∀ b, al b → w'.heap[b]? = w.heap[b]?) : Drv w' pd q A c al :=
  let ⟨vf, bm, M, d⟩ := h; ⟨vf, bm, M, d.keep hs hk⟩
theorem Drv.lt {w : World} {pd : Nat} {q : Qu} {A : Abs} {c : Nat} {al : Nat → Prop} (h : Drv w pd q A c al) : ∀ b, al b → b < w.heap.size := let ⟨_, _, _, d⟩ := h; d.lt
theorem Drv.mods {w w' : World} {pd : Nat} {q : Qu} {A : Abs} {c : Nat} {al al' : Nat → Prop} (h : Drv w pd q A c al) (hm : Mods al' w w') (hn : ∀ b, al b → ¬ al' b) : Drv w' pd q A c al :=
  h.keep hm.size (fun b hb => hm.block b (h.lt b hb) (hn b hb))
theorem Drv.below {w w' : World} {pd : Nat} {q : Qu} {A : Abs} {c : Nat} {al : Nat → Prop} (h : Drv w pd q A c al) (hm : Below w.heap.size w w') : Drv w' pd q A c al :=
  h.keep hm.size (fun b hb => hm.block b (h.lt b hb))
theorem DrvAt.cells {w : World} {pd g base n N po pu Ld Lo Lu bm : Nat} {vf : Value} {M : Int → Option Value} {geo : Geo base n N po pu Ld Lo Lu} {A : Abs} {c : Nat} {al : Nat → Prop} (h : DrvAt w pd vf bm M ⟨g, base, n, N, po, pu, Ld, Lo, Lu, geo⟩ A c al) :
    w.cell? ⟨pd, 0, none⟩ = some (.int .i64 n) ∧ w.cell? ⟨pd, 1, none⟩ = some (.slice (some ⟨g, base, none⟩) Ld Ld) ∧ w.cell? ⟨pd, 2, none⟩ = some (.slice (some ⟨g, po, none⟩) Lo Lo) ∧ w.cell? ⟨pd, 3, none⟩ = some (.int .i64 n) ∧ w.cell? ⟨pd, 4, none⟩ = some (.int .i64 2) ∧
    w.cell? ⟨pd, 5, none⟩ = some (.slice (some ⟨g, pu, none⟩) Lu Lu) ∧ w.cell? ⟨pd, 6, none⟩ = some (.int .i64 n) ∧ w.cell? ⟨pd, 7, none⟩ = some (.int .i64 8) ∧ w.cell? ⟨pd, 8, none⟩ = some (.int .u16 A.offers) ∧ w.cell? ⟨pd, 9, none⟩ = some (.int .u16 A.uses) ∧
    w.cell? ⟨pd, 10, none⟩ = some vf ∧ w.cell? ⟨pd, 11, none⟩ = some (.map (some bm)) ∧ ∀ k, w.frozen? ⟨pd, k, none⟩ = false := by
  have h1 := h.box
  unfold World.cell? World.frozen?
  simp [h1, Qu.cs, memC]
/-- What became of a driver. -/
def Step (w w' : World) (pd : Nat) (q : Qu) (A : Abs) (c : Nat) (al : Nat → Prop) : Prop := ∃ al', Drv w' pd q A c al' ∧ (∀ b, al' b → al b ∨ w.heap.size ≤ b) ∧ Mods (fun b => al b ∨ b = q.g) w w'
end Go.Proofs.YtdjghkngiicncaaGreat
