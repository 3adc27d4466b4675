/- Maps with keys of 32 bits. -/
import Derived.Test.YthgmghfegaemkaaVwA
namespace Go.Proofs.Ythgmghfegaemkaa
open Go.RowKit Go.Maps Go.WideAt
set_option linter.unusedVariables false
theorem u32Key : Keyed Try.prog 31 := int_keyed Try.underlying31
theorem wfU {k : Int} (hk : IsU k) : (Lit.int .u32 k).wf = true := WalkArith.wf_u32 (by unfold IsU at hk; omega)
theorem keyU {k : Int} (hk : IsU k) : keyOf Try.prog 31 (.int .u32 k) = some (.int .u32 k) := keyOf_int_mk Try.underlying31 (wfU hk)
/-- Block b is a map that holds M. -/
def MapU (w : World) (b n : Nat) (M : Int → Option Value) : Prop :=
  ∃ D : DataW Value, w.ownsMap Try.prog 31 raw b n D ∧ ∀ k, IsU k → ∀ z, D.atKey (.int .u32 k) z = ((M k).map DataW.held).getD z
theorem MapU.made (w : World) : MapU (w.alloc (.map #[] 0)) w.heap.size 0 (fun _ => none) :=
  ⟨.map [], World.ownsMap_made w Try.prog 31 raw, fun k _ z => by simp [DataW.atKey]⟩
theorem MapU.mono {w : World} {b n n' : Nat} {M : Int → Option Value} (h : MapU w b n M) (hn : n ≤ n') : MapU w b n' M :=
  let ⟨D, h1, h2⟩ := h; ⟨D, h1.mono hn, h2⟩
theorem MapU.lt {w : World} {b n : Nat} {M : Int → Option Value} (h : MapU w b n M) : b < w.heap.size := let ⟨_, h1, _⟩ := h; h1.lt
theorem MapU.keep {w w' : World} {b n : Nat} {M : Int → Option Value} (h : MapU w b n M) (hb : w'.heap[b]? = w.heap[b]?) : MapU w' b n M := by
  obtain ⟨D, ⟨es, c, hh, r⟩, h2⟩ := h
  exact ⟨D, ⟨es, c, hb.trans hh, r⟩, h2⟩
theorem MapU.look {w : World} {b n : Nat} {M : Int → Option Value} (h : MapU w b n M) {t e : TypeId} (ht : Try.prog.underlying t = some (.map 31 e)) {z : Value} (hz : (zeroValue e).run Try.prog w = .ok z w)
    {k : Int} (hk : IsU k) : (Instr.lookup t (.map (some b)) (.int .u32 k) false).run Try.prog w = .ok ((M k).getD z) w := by
  obtain ⟨D, h1, h2⟩ := h
  obtain ⟨v, ps, hrun, hR⟩ := h1.lookup u32Key ht hz (R := raw) (zd := .held z) (zp := []) rfl (keyU hk)
  rw [hrun]
  simp only [raw, Option.some.injEq, Prod.mk.injEq] at hR
  have := hR.1
  rw [h2 k hk] at this
  cases hM : M k with
  | none => rw [hM] at this; simp at this; simp [this]
  | some u => rw [hM] at this; simp at this; simp [this]
theorem MapU.put {w : World} {b n : Nat} {M : Int → Option Value} (h : MapU w b n M) {t e : TypeId} (ht : Try.prog.underlying t = some (.map 31 e)) (hn : n < maxLen) {k : Int} (hk : IsU k) (v : Value) :
    ∃ w', (Instr.mapUpdate t (.map (some b)) (.int .u32 k) v).run Try.prog w = .ok () w' ∧ MapU w' b (n + 1) (upd M k (some v)) ∧ w.grownBy w' (some b) := by
  obtain ⟨D, h1, h2⟩ := h
  obtain ⟨w', hrun, ho, hg⟩ := h1.update u32Key ht hn (keyU hk) (val := v) (d := .held v) (ps := []) rfl
  refine ⟨w', hrun, ⟨_, ho, fun j hj z => ?_⟩, hg⟩
  by_cases e : j = k
  · subst e
    rw [upd_same, atKey_put_same h1.isMap (by simp [WideAt.IsKeyLit])]
    rfl
  · rw [upd_other _ _ e, atKey_put_other (by simpa using e), h2 j hj]
theorem MapU.del {w : World} {b n : Nat} {M : Int → Option Value} (h : MapU w b n M) {t e : TypeId} (ht : Try.prog.underlying t = some (.map 31 e)) {k : Int} (hk : IsU k) (ty : TypeId) :
    ∃ w', (Builtin.delete_ #[t, 31] ty #[.map (some b), .int .u32 k]).run Try.prog w = .ok (.tuple #[]) w' ∧ MapU w' b n (upd M k none) ∧ w.grownBy w' (some b) := by
  obtain ⟨D, h1, h2⟩ := h
  obtain ⟨w', hrun, ho, hg⟩ := h1.drop u32Key ht (keyU hk) ty
  refine ⟨w', hrun, ⟨_, ho, fun j hj z => ?_⟩, hg.grown⟩
  by_cases e : j = k
  · subst e
    rw [upd_same, atKey_del_same]
    rfl
  · rw [upd_other _ _ e, atKey_del_other (by simpa using e), h2 j hj]

theorem MapU.look_ok {w : World} {b n : Nat} {M : Int → Option Value} (h : MapU w b n M) {t e : TypeId} (ht : Try.prog.underlying t = some (.map 31 e)) {z : Value} (hz : (zeroValue e).run Try.prog w = .ok z w)
    {k : Int} (hk : IsU k) : (Instr.lookup t (.map (some b)) (.int .u32 k) true).run Try.prog w = .ok (.tuple #[(M k).getD z, .bool (M k).isSome]) w := by
  obtain ⟨D, h1, h2⟩ := h
  obtain ⟨v, ps, hrun, hR⟩ := h1.look_ok u32Key ht hz (R := raw) (zd := .held z) (zp := []) rfl (keyU hk)
  rw [hrun]
  simp only [raw, Option.some.injEq, Prod.mk.injEq] at hR
  have := hR.1
  rw [h2 k hk] at this
  cases hM : M k with
  | none =>
    rw [hM] at this
    rw [has_false_of_atKey (D := D) (k := .int .u32 k) (fun z => by rw [h2 k hk z, hM]; rfl)]
    simp at this
    simp [this]
  | some u =>
    rw [hM] at this
    rw [has_true_of_atKey (D := D) (k := .int .u32 k) (y := .held u) (fun z => by rw [h2 k hk z, hM]; rfl)]
    simp at this
    simp [this]

end Go.Proofs.Ythgmghfegaemkaa
