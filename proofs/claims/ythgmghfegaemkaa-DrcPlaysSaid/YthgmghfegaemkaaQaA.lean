/- Keys of calls: five numbers compared as a whole; maps with such keys. -/
import Derived.Test.YthgmghfegaemkaaCcB
import Derived.DeepKeys4
namespace Go.Proofs.Ythgmghfegaemkaa
open Go.RowKit Go.Maps Go.WideAt
set_option linter.unusedVariables false

def InU (x : Int) : Prop := 0 ≤ x ∧ x < 4294967296
structure Ky where
  ip : Int
  port : Int
  xid : Int
  proc : Int
  sum : Int
deriving DecidableEq, Inhabited
structure Ky.Ok (K : Ky) : Prop where
  ip : InU K.ip
  port : IsI K.port
  xid : InU K.xid
  proc : InU K.proc
  sum : InU K.sum
abbrev kL (K : Ky) : List Value := [.int .u32 K.ip, .int .i64 K.port, .int .u32 K.xid, .int .u32 K.proc, .int .u32 K.sum]
abbrev kV (K : Ky) : Value := .agg #[.int .u32 K.ip, .int .i64 K.port, .int .u32 K.xid, .int .u32 K.proc, .int .u32 K.sum]
theorem kV_inj {K J : Ky} (h : kV K = kV J) : K = J := by
  cases K; cases J
  simp at h
  simp [h]
theorem kyLaid : laidOutB Try.prog = true := by kernel_rfl
theorem kyKey : Keyed Try.prog 33 := Keyed.of_law (deep_law_laid (m := 3) kyLaid (by decide) (by decide +kernel) (by kernel_rfl) (by kernel_rfl))
def kLits (K : Ky) : List Lit := [.int .u32 K.ip, .int .i64 K.port, .int .u32 K.xid, .int .u32 K.proc, .int .u32 K.sum]
def kLit (K : Ky) : Lit := .string (keyBytes (kLits K))
theorem inU_wf {k : Int} (hk : InU k) : (Lit.int .u32 k).wf = true := WalkArith.wf_u32 (by unfold InU at hk; omega)
theorem kyLits (d : Nat) (K : Ky) (h : K.Ok) : Try.prog.keyLits (d + 2) 33 (kL K) = some (kLits K) := by
  have e1 : Try.prog.cellsOf 31 = 1 := by kernel_rfl
  have e2 : Try.prog.cellsOf 3 = 1 := by kernel_rfl
  have e3 : Try.prog.cellsOf 33 = 5 := by kernel_rfl
  have u (x : Int) (hx : InU x) : Try.prog.keyLits (d + 1) 31 [.int .u32 x] = some [.int .u32 x] := by
    simp only [Program.keyLits, Try.underlying31]
    exact if_pos ⟨trivial, inU_wf hx⟩
  have i (x : Int) (hx : IsI x) : Try.prog.keyLits (d + 1) 3 [.int .i64 x] = some [.int .i64 x] := by
    simp only [Program.keyLits, Try.underlying3]
    exact if_pos ⟨trivial, hx⟩
  have hu := Try.underlying33
  unfold Program.keyLits
  rw [hu]
  simp only [e3]
  rw [if_pos ⟨rfl, by decide +kernel⟩]
  simp only [List.mapM_cons, List.mapM_nil, e1, e2, kL, List.drop, List.take, u _ h.ip, i _ h.port, u _ h.xid, u _ h.proc, u _ h.sum]
  rfl
theorem kyType : Try.prog.keyType 33 = true := by kernel_rfl
theorem keyKy {K : Ky} (h : K.Ok) : keyOf Try.prog 33 (kV K) = some (kLit K) := by
  have hu := Try.underlying33
  have h1 : 1 ≤ Try.prog.types.size := by decide +kernel
  obtain ⟨d, hd⟩ : ∃ d, Try.prog.types.size + 1 = d + 2 := ⟨Try.prog.types.size - 1, by omega⟩
  have hf : (kV K).formed Try.prog 33 = true := by
    have e3 : Try.prog.cellsOf 33 = 5 := by kernel_rfl
    simp only [Value.formed, hu, e3]
    rfl
  have hc : (kV K).cells.toList = kL K := rfl
  unfold keyOf
  rw [hu]
  simp only []
  rw [kyType, hf, hc, hd, kyLits d K h]
  rfl
theorem kLit_inj {K J : Ky} (h : K.Ok) (h' : J.Ok) (e : kLit K = kLit J) : K = J := by
  have h1 := keyKy h
  rw [e] at h1
  exact kV_inj (kyKey.inj h1 (keyKy h'))
theorem kLit_is (K : Ky) : IsKeyLit (kLit K) := trivial
/-- Block b is a map that holds M. -/
def MapK (w : World) (b n : Nat) (M : Ky → Option Value) : Prop :=
  ∃ D : DataW Value, w.ownsMap Try.prog 33 raw b n D ∧ ∀ k : Ky, k.Ok → ∀ z, D.atKey (kLit k) z = ((M k).map DataW.held).getD z
def updK {α : Type} (M : Ky → α) (k : Ky) (v : α) : Ky → α := fun j => if j = k then v else M j
theorem updK_same {α : Type} (M : Ky → α) (k : Ky) (v : α) : updK M k v k = v := by simp [updK]
theorem updK_other {α : Type} (M : Ky → α) {k j : Ky} (v : α) (h : j ≠ k) : updK M k v j = M j := by simp [updK, h]
theorem MapK.made (w : World) : MapK (w.alloc (.map #[] 0)) w.heap.size 0 (fun _ => none) :=
  ⟨.map [], World.ownsMap_made w Try.prog 33 raw, fun k _ z => by simp [DataW.atKey]⟩
theorem MapK.mono {w : World} {b n n' : Nat} {M : Ky → Option Value} (h : MapK w b n M) (hn : n ≤ n') : MapK w b n' M :=
  let ⟨D, h1, h2⟩ := h; ⟨D, h1.mono hn, h2⟩
theorem MapK.lt {w : World} {b n : Nat} {M : Ky → Option Value} (h : MapK w b n M) : b < w.heap.size := let ⟨_, h1, _⟩ := h; h1.lt
theorem MapK.keep {w w' : World} {b n : Nat} {M : Ky → Option Value} (h : MapK w b n M) (hb : w'.heap[b]? = w.heap[b]?) : MapK w' b n M := by
  obtain ⟨D, ⟨es, c, hh, r⟩, h2⟩ := h
  exact ⟨D, ⟨es, c, hb.trans hh, r⟩, h2⟩
theorem MapK.ext {w : World} {b n : Nat} {M M' : Ky → Option Value} (h : MapK w b n M) (e : ∀ k : Ky, k.Ok → M k = M' k) : MapK w b n M' :=
  let ⟨D, h1, h2⟩ := h; ⟨D, h1, fun k hk z => by rw [h2 k hk, e k hk]⟩
theorem MapK.kind {w : World} {b n : Nat} {M : Ky → Option Value} (h : MapK w b n M) : ∃ es c, w.heap[b]? = some (.map es c) := by
  obtain ⟨D, ⟨es, c, hh, r⟩, h2⟩ := h
  exact ⟨es, c, hh⟩
theorem MapK.look {w : World} {b n : Nat} {M : Ky → Option Value} (h : MapK w b n M) {t e : TypeId} (ht : Try.prog.underlying t = some (.map 33 e)) {z : Value} (hz : (zeroValue e).run Try.prog w = .ok z w)
    {k : Ky} (hk : k.Ok) : (Instr.lookup t (.map (some b)) (kV k) false).run Try.prog w = .ok ((M k).getD z) w := by
  obtain ⟨D, h1, h2⟩ := h
  obtain ⟨v, ps, hrun, hR⟩ := h1.lookup kyKey ht hz (R := raw) (zd := .held z) (zp := []) rfl (keyKy hk)
  rw [hrun]
  simp only [raw, Option.some.injEq, Prod.mk.injEq] at hR
  have := hR.1
  rw [h2 k hk] at this
  cases hM : M k with
  | none => rw [hM] at this; simp at this; simp [this]
  | some u => rw [hM] at this; simp at this; simp [this]
theorem MapK.put {w : World} {b n : Nat} {M : Ky → Option Value} (h : MapK w b n M) {t e : TypeId} (ht : Try.prog.underlying t = some (.map 33 e)) (hn : n < maxLen) {k : Ky} (hk : k.Ok) (v : Value) :
    ∃ w', (Instr.mapUpdate t (.map (some b)) (kV k) v).run Try.prog w = .ok () w' ∧ MapK w' b (n + 1) (updK M k (some v)) ∧ w.grownBy w' (some b) := by
  obtain ⟨D, h1, h2⟩ := h
  obtain ⟨w', hrun, ho, hg⟩ := h1.update kyKey ht hn (keyKy hk) (val := v) (d := .held v) (ps := []) rfl
  refine ⟨w', hrun, ⟨_, ho, fun j hj z => ?_⟩, hg⟩
  by_cases e : j = k
  · subst e
    rw [updK_same, atKey_put_same h1.isMap (kLit_is _)]
    rfl
  · rw [updK_other _ _ e, atKey_put_other (fun e2 => e (kLit_inj hj hk e2)), h2 j hj]
theorem MapK.del {w : World} {b n : Nat} {M : Ky → Option Value} (h : MapK w b n M) {t e : TypeId} (ht : Try.prog.underlying t = some (.map 33 e)) {k : Ky} (hk : k.Ok) (ty : TypeId) :
    ∃ w', (Builtin.delete_ #[t, 33] ty #[.map (some b), kV k]).run Try.prog w = .ok (.tuple #[]) w' ∧ MapK w' b n (updK M k none) ∧ w.grownBy w' (some b) := by
  obtain ⟨D, h1, h2⟩ := h
  obtain ⟨w', hrun, ho, hg⟩ := h1.drop kyKey ht (keyKy hk) ty
  refine ⟨w', hrun, ⟨_, ho, fun j hj z => ?_⟩, hg.grown⟩
  by_cases e : j = k
  · subst e
    rw [updK_same, atKey_del_same]
    rfl
  · rw [updK_other _ _ e, atKey_del_other (fun e2 => e (kLit_inj hj hk e2)), h2 j hj]
theorem MapK.look_ok {w : World} {b n : Nat} {M : Ky → Option Value} (h : MapK w b n M) {t e : TypeId} (ht : Try.prog.underlying t = some (.map 33 e)) {z : Value} (hz : (zeroValue e).run Try.prog w = .ok z w)
    {k : Ky} (hk : k.Ok) : (Instr.lookup t (.map (some b)) (kV k) true).run Try.prog w = .ok (.tuple #[(M k).getD z, .bool (M k).isSome]) w := by
  obtain ⟨D, h1, h2⟩ := h
  obtain ⟨v, ps, hrun, hR⟩ := h1.look_ok kyKey ht hz (R := raw) (zd := .held z) (zp := []) rfl (keyKy hk)
  rw [hrun]
  simp only [raw, Option.some.injEq, Prod.mk.injEq] at hR
  have := hR.1
  rw [h2 k hk] at this
  cases hM : M k with
  | none =>
    rw [hM] at this
    rw [has_false_of_atKey (D := D) (k := kLit k) (fun z => by rw [h2 k hk z, hM]; rfl)]
    simp at this
    simp [this]
  | some u =>
    rw [hM] at this
    rw [has_true_of_atKey (D := D) (k := kLit k) (y := .held u) (fun z => by rw [h2 k hk z, hM]; rfl)]
    simp at this
    simp [this]
end Go.Proofs.Ythgmghfegaemkaa
