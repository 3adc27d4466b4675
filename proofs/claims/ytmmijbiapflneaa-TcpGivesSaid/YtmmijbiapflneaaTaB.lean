/- A connection in memory. -/
import Derived.Test.YtmmijbiapflneaaTaA
namespace Go.Proofs.Ytmmijbiapflneaa
open Go.RowKit Go.Maps
set_option linter.unusedVariables false

structure Cn where
  R : Int
  came : List Int
  E : Int → Option Int
  ec : Nat
  lv : Bool
  en : Bool
  en0 : Int
  U : Int
  N : Int
  waits : List Int
  W : Int
  M : Int
  ck : Int
  tr : Int
  ag : Bool
  ov : Bool
  fr : Int
  to_ : Int
  st : Int
  oA : Bool
  oK : Bool
  gU : Bool
@[reducible] def cnC (c : Cn) (vc vm vw : Value) : Array Value := #[.int .u32 c.R, vc, vm, .bool c.en, .int .u32 c.en0, .int .u32 c.U, .int .u32 c.N, vw, .int .i64 c.W, .int .i64 c.M, .int .i64 c.ck, .int .i64 c.tr, .bool c.ag, .bool c.ov, .int .i64 c.fr, .int .i64 c.to_, .int .i64 c.st, .bool c.oA, .bool c.oK, .bool c.gU]
/-- The map of what is early. -/
def MpC (w : World) (b k : Nat) (E : Int → Option Int) : Prop :=
  ∃ D : DataW Value, w.ownsMap Try.prog 22 raw b k D ∧ (∀ x, IsU x → ∀ z, D.atKey (.int .u32 x) z = ((E x).map (fun y => DataW.held (Value.int .u8 y))).getD z) ∧ Go.Maps.size D = k
theorem MpC.lt {w : World} {b k : Nat} {E : Int → Option Int} (h : MpC w b k E) : b < w.heap.size := let ⟨_, h1, _⟩ := h; h1.lt
theorem MpC.keep {w w' : World} {b k : Nat} {E : Int → Option Int} (h : MpC w b k E) (hb : w'.heap[b]? = w.heap[b]?) : MpC w' b k E := by
  obtain ⟨D, ⟨es, c, hh, r⟩, h2⟩ := h
  exact ⟨D, ⟨es, c, hb.trans hh, r⟩, h2⟩
theorem MpC.made (w : World) : MpC (w.alloc (.map #[] 0)) w.heap.size 0 (fun _ => none) :=
  ⟨.map [], World.ownsMap_made w Try.prog 22 raw, fun k _ z => by simp [DataW.atKey], rfl⟩
theorem MpC.len {w : World} {b k : Nat} {E : Int → Option Int} (h : MpC w b k E) (ty : TypeId) : (Builtin.len_ #[54] ty #[.map (some b)]).run Try.prog w = .ok (.int .i64 k) w := by
  obtain ⟨D, h1, h2, h3⟩ := h
  rw [← h3]
  exact h1.len Try.underlying54 ty
theorem MpC.vac {w : World} {b : Nat} {E : Int → Option Int} (h : MpC w b 0 E) {x : Int} (hx : IsU x) : E x = none := by
  obtain ⟨D, h1, h2, h3⟩ := h
  obtain ⟨es, c, hh, F, hs, rfl⟩ := h1
  have e := h2 x hx (.held undef)
  rw [Go.Maps.size_eq] at h3
  rw [List.eq_nil_of_length_eq_zero h3] at e h2
  have e2 := h2 x hx (.held (.bool true))
  simp [DataW.atKey] at e e2
  cases hE : E x with
  | none => rfl
  | some y => rw [hE] at e2; simp at e2
theorem MpC.look_ok {w : World} {b k : Nat} {E : Int → Option Int} (h : MpC w b k E) {x : Int} (hx : IsU x) : (Instr.lookup 54 (.map (some b)) (.int .u32 x) true).run Try.prog w = .ok (.tuple #[.int .u8 ((E x).getD 0), .bool (E x).isSome]) w := by
  obtain ⟨D, h1, h2, _⟩ := h
  obtain ⟨v, ps, hrun, hR⟩ := h1.look_ok u32Key Try.underlying54 (Try.zeroValue5 w) (R := raw) (zd := .held (.int .u8 0)) (zp := []) rfl (keyU hx)
  rw [hrun]
  simp only [raw, Option.some.injEq, Prod.mk.injEq] at hR
  have := hR.1
  rw [h2 x hx] at this
  cases hM : E x with
  | none =>
    rw [hM] at this
    rw [has_false_of_atKey (D := D) (k := .int .u32 x) (fun z => by rw [h2 x hx z, hM]; rfl)]
    simp at this
    simp [this]
  | some u =>
    rw [hM] at this
    rw [has_true_of_atKey (D := D) (k := .int .u32 x) (y := .held (.int .u8 u)) (fun z => by rw [h2 x hx z, hM]; rfl)]
    simp at this
    simp [this]
theorem hasE {D : DataW Value} {E : Int → Option Int} {x : Int} (hx : IsU x) (h2 : ∀ x, IsU x → ∀ z, D.atKey (.int .u32 x) z = ((E x).map (fun y => DataW.held (Value.int .u8 y))).getD z) : Go.Maps.has D (.int .u32 x) = (E x).isSome := by
  cases hM : E x with
  | none => exact has_false_of_atKey (D := D) (k := .int .u32 x) (fun z => by rw [h2 x hx z, hM]; rfl)
  | some u => exact has_true_of_atKey (D := D) (k := .int .u32 x) (y := .held (.int .u8 u)) (fun z => by rw [h2 x hx z, hM]; rfl)
theorem MpC.put {w : World} {b k : Nat} {E : Int → Option Int} (h : MpC w b k E) (hn : k < maxLen) {x : Int} (hx : IsU x) (hE : E x = none) (y : Int) :
    ∃ w', (Instr.mapUpdate 54 (.map (some b)) (.int .u32 x) (.int .u8 y)).run Try.prog w = .ok () w' ∧ MpC w' b (k + 1) (upd E x (some y)) ∧ w.grownBy w' (some b) := by
  obtain ⟨D, h1, h2, h3⟩ := h
  have ht := h1.tidy u32Key
  obtain ⟨w', hrun, ho, hg⟩ := h1.update u32Key Try.underlying54 hn (keyU hx) (val := .int .u8 y) (d := .held (.int .u8 y)) (ps := []) rfl
  refine ⟨w', hrun, ⟨_, ho, fun j hj z => ?_, ?_⟩, hg⟩
  · by_cases e : j = x
    · subst e
      rw [upd_same, atKey_put_same h1.isMap (by simp [WideAt.IsKeyLit])]
      rfl
    · rw [upd_other _ _ e, atKey_put_other (by simpa using e), h2 j hj]
  · rw [size_put ht, hasE hx h2, hE, h3]; rfl
theorem MpC.del {w : World} {b k : Nat} {E : Int → Option Int} (h : MpC w b (k + 1) E) {x : Int} (hx : IsU x) {y : Int} (hE : E x = some y) (ty : TypeId) :
    ∃ w', (Builtin.delete_ #[54, 22] ty #[.map (some b), .int .u32 x]).run Try.prog w = .ok (.tuple #[]) w' ∧ MpC w' b k (upd E x none) ∧ w.grownBy w' (some b) := by
  obtain ⟨D, h1, h2, h3⟩ := h
  have ht := h1.tidy u32Key
  obtain ⟨w', hrun, ho, hg⟩ := h1.drop u32Key Try.underlying54 (keyU hx) ty
  have hsz : Go.Maps.size (D.del (.int .u32 x)) = k := by
    have e := size_del (k := .int .u32 x) ht
    rw [hasE hx h2, hE] at e
    simp at e
    omega
  refine ⟨w', hrun, ⟨_, ?_, fun j hj z => ?_, hsz⟩, hg.grown⟩
  · obtain ⟨es, c, hh, F, hs, hD⟩ := ho
    refine ⟨es, c, hh, F, ?_, hD⟩
    have : Go.Maps.size (D.del (.int .u32 x)) = es.size := by rw [hD]; simp [Go.Maps.size, length_sorted]
    omega
  · by_cases e : j = x
    · subst e
      rw [upd_same, atKey_del_same]
      rfl
    · rw [upd_other _ _ e, atKey_del_other (by simpa using e), h2 j hj]
def mapV : Value → Option Nat
  | .map b => b
  | _ => none
/-- A connection at block p: its own blocks lie in S. -/
structure CnX (w : World) (p : Nat) (S : Nat → Prop) (c : Cn) (vc vm vw : Value) : Prop where
  box : w.heap[p]? = some (.cells (cnC c vc vm vw) 60 (0, 0))
  rc : RW w 5 1 vc c.came.length (u8s c.came)
  rw_ : RW w 5 1 vw c.waits.length (u8s c.waits)
  mp : (c.lv = false ∧ vm = .map none) ∨ (c.lv = true ∧ ∃ gm, vm = .map (some gm) ∧ S gm ∧ MpC w gm c.ec c.E)
  ne : ∀ b, blkV vc = some b → blkV vw = some b → False
  sp : S p
  sc : ∀ b, blkV vc = some b → S b
  sw : ∀ b, blkV vw = some b → S b
  slt : ∀ b, S b → b < w.heap.size
def CnAt (w : World) (p : Nat) (S : Nat → Prop) (c : Cn) : Prop := ∃ vc vm vw, CnX w p S c vc vm vw
section
variable {w w' : World} {p : Nat} {S S' : Nat → Prop} {c : Cn} {vc vm vw : Value}
theorem CnX.keep (h : CnX w p S c vc vm vw) (hk : ∀ b, S b → w'.heap[b]? = w.heap[b]?) (hs : w.heap.size ≤ w'.heap.size) : CnX w' p S c vc vm vw :=
  ⟨(hk p h.sp).trans h.box, h.rc.keep (fun b hb => hk b (h.sc b hb)), h.rw_.keep (fun b hb => hk b (h.sw b hb)), h.mp.imp id (fun ⟨e, gm, e1, e2, e3⟩ => ⟨e, gm, e1, e2, e3.keep (hk gm e2)⟩), h.ne, h.sp, h.sc, h.sw, fun b hb => Nat.lt_of_lt_of_le (h.slt b hb) hs⟩
theorem CnX.later (h : CnX w p S c vc vm vw) (hb : Below w.heap.size w w') : CnX w' p S c vc vm vw := h.keep (fun b hb2 => hb.block b (h.slt b hb2)) hb.size
theorem CnAt.later (h : CnAt w p S c) (hb : Below w.heap.size w w') : CnAt w' p S c := let ⟨vc, vm, vw, h1⟩ := h; ⟨vc, vm, vw, h1.later hb⟩
theorem CnAt.keep (h : CnAt w p S c) (hk : ∀ b, S b → w'.heap[b]? = w.heap[b]?) (hs : w.heap.size ≤ w'.heap.size) : CnAt w' p S c := let ⟨vc, vm, vw, h1⟩ := h; ⟨vc, vm, vw, h1.keep hk hs⟩
theorem CnAt.lt (h : CnAt w p S c) : ∀ b, S b → b < w.heap.size := let ⟨_, _, _, h1⟩ := h; h1.slt
/-- The block itself turned: the rows and the map are as they were. -/
theorem CnX.turn {c' : Cn} (h : CnX w p S c vc vm vw) (hm : Mods (fun b => b = p) w w') (hb : w'.heap[p]? = some (.cells (cnC c' vc vm vw) 60 (0, 0))) (e1 : c'.came = c.came) (e2 : c'.waits = c.waits) (e3 : c'.lv = c.lv) (e4 : c'.ec = c.ec) (e5 : c'.E = c.E) : CnX w' p S c' vc vm vw := by
  have hbx := h.box
  have kr : ∀ v n X, RW w 5 1 v n X → RW w' 5 1 v n X := fun v n X hr => hr.keep (fun b hb2 => hm.block b (hr.lt hb2) (fun e => by
    subst e
    obtain ⟨cur, hk⟩ := hr.kind hb2
    rw [hbx] at hk
    simp only [Option.some.injEq, Obj.cells.injEq] at hk
    exact absurd hk.2.1 (by decide)))
  refine ⟨hb, by rw [e1]; exact kr _ _ _ h.rc, by rw [e2]; exact kr _ _ _ h.rw_, ?_, h.ne, h.sp, h.sc, h.sw, fun b hb2 => Nat.lt_of_lt_of_le (h.slt b hb2) hm.size⟩
  rw [e3, e4, e5]
  refine h.mp.imp id (fun ⟨e, gm, f1, f2, f3⟩ => ⟨e, gm, f1, f2, f3.keep (hm.block gm f3.lt (fun e => ?_))⟩)
  subst e
  obtain ⟨D, ⟨es, cl, hh, _⟩, _⟩ := f3
  rw [hbx] at hh
  simp at hh
theorem CnX.kp (h : CnX w p S c vc vm vw) (hm : Mods (fun b => b = p) w w') : Kp S w S w' := ⟨fun _ h => .inl h, hm.weak (fun b hb => .inl (by rw [hb]; exact h.sp))⟩
end
/-- What every call keeps to. -/
structure CnOk (c : Cn) : Prop where
  r : IsU c.R
  e0 : IsU c.en0
  u : IsU c.U
  n : IsU c.N
  cb : ∀ x ∈ c.came, IsB x
  wb : ∀ x ∈ c.waits, IsB x
  cl : c.came.length ≤ 16384
  wl : c.waits.length ≤ 65536
  eb : ∀ x y, c.E x = some y → IsB y
  key : c.lv = true → ∀ x, IsU x → c.E x ≠ none → s32 x c.R < 16384 - c.came.length
  en : c.lv = true → c.en = true → s32 c.en0 c.R ≤ 16384 - c.came.length
  w : II c.W
  m : 64 ≤ c.M ∧ c.M ≤ 1460
  tr : 0 ≤ c.tr ∧ (c.st ≠ 5 → c.tr ≤ 5)
  ck : 0 ≤ c.ck ∧ (c.st ≠ 5 → c.ck < 200 * 2 ^ c.tr.toNat)
  st : 1 ≤ c.st ∧ c.st ≤ 5
  s1 : c.st = 1 → c.waits = [] ∧ c.N = a32 c.U 1 ∧ c.ag = false
  s2 : c.st = 2 ∨ c.st = 3 → s32 c.N c.U ≤ c.waits.length
  s4 : c.st = 4 → s32 c.N c.U = c.waits.length + 1
  ag : c.ag = true → (c.st = 2 ∨ c.st = 3) → c.waits ≠ []
  a5 : c.st = 5 → c.ag = false
  lv : c.st = 1 ∨ c.st = 2 → c.lv = true
  pr : II c.fr ∧ II c.to_
end Go.Proofs.Ytmmijbiapflneaa
