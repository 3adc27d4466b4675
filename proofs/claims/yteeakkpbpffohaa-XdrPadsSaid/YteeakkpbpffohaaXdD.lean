/- Reading: bytes whose count stands ahead of them; the reader itself. -/
import Derived.Test.YteeakkpbpffohaaXdC
namespace Go.Proofs.Yteeakkpbpffohaa
open Go.RowKit Go.Maps
set_option linter.unusedVariables false

def cntP (l : List Int) (k : Nat) (most : Int) : Rs (List Int) := match numQ l k 4 with | none => ⟨[], 11, k⟩ | some v => if most < v then ⟨[], 5, k⟩ else fixP l (k + 4) v
theorem numQ_in {l : List Int} {k n : Nat} {v : Int} (h : numQ l k n = some v) : k + n ≤ l.length := by
  unfold numQ at h
  split at h
  · assumption
  · cases h
section
variable {w : World} {X : Nat → Prop} {q : Nat} {a : Option Addr} {c : Nat} {l : List Int} {k : Nat}
set_option maxRecDepth 100000 in
set_option maxHeartbeats 4000000 in
theorem rcounted_any (h : RQ w X q a c l k) (hk : k ≤ l.length) (most : Int) (hm : -9223372036854775808 ≤ most ∧ most ≤ 9223372036854775807) :
    Calls Try.prog 48 #[.pointer (some ⟨q, 0, none⟩), .int .i64 most] w fun e w' => PadPost w X q a c l (cntP l k most) e w' := by
  have HC := hid (rnumber_any h (Nat.le_trans hk h.hl) 4 (.inl rfl) 4 rfl)
  have hI := h.bytes.isB
  unfold cntP
  cases hq : numQ l k 4 with
  | none =>
    rw [hq] at HC
    simp only [Option.getD_none, Option.isSome_none, Bool.false_eq_true, if_false] at HC
    clear h hq hI
    go_enter Try.func48, Try.ntmps48
    go_wp2_with (go_at_call 61; refine HC.out.mono ?_; rintro e w2 ⟨rfl, hx, hm⟩; have HX := hid hx; have HM := hid hm; clear hx hm)
    go_ret2
    exact PadPost.err (by decide) HM.out
  | some v =>
    have hv := numQ_bd hq hI
    have HIN := hid (numQ_in hq)
    rw [hq] at HC
    simp only [Option.getD_some, Option.isSome_some, if_true] at HC
    have hw64 : IntKind.i64.wrap v = v := IntWalk.i64_in _ (by omega)
    have HLL := hid h.hl
    clear h hq hI
    by_cases hgt : most < v
    · simp only [hgt, if_true]
      go_enter Try.func48, Try.ntmps48
      go_wp2_with (go_at_call 61; refine HC.out.mono ?_; rintro e w2 ⟨rfl, hx, hm⟩; have HX := hid hx; have HM := hid hm; clear hx hm)
      go_ret2
      exact PadPost.err (by decide) HM.out
    · simp only [hgt, if_false]
      obtain ⟨R, hR⟩ : ∃ R, fixP l (k + 4) v = R := ⟨_, rfl⟩
      have HP : Hid (∀ W, RQ W X q a c l (k + 4) → Calls Try.prog 58 #[.pointer (some ⟨q, 0, none⟩), .int .i64 v] W fun e w' => PadPost W X q a c l R e w') := hid (fun W hW => by
        have := rpadded_any hW HIN.out v (by omega)
        rwa [hR] at this)
      rw [hR]
      have HV := hid hv
      clear hR hv
      go_enter Try.func48, Try.ntmps48
      go_wp2_with (first
        | (go_at_call 61; refine HC.out.mono ?_; rintro e w2 ⟨rfl, hx, hm⟩; have HX := hid hx; have HM := hid hm; clear hx hm HC)
        | (go_at_call 58; refine (HP.out _ HX.out).mono ?_; rintro e w3 ⟨a2, c2, rfl, hy, hc2, hz, hm3⟩; have HY := hid hy; have HZ := hid hz; have HM3 := hid hm3; clear hy hz hm3))
      go_ret2
      exact ⟨a2, c2, rfl, HY.out.weak (fun b hb _ => Nat.le_trans HM.out.size hb), hc2, HZ.out, HM.out.tr HM3.out⟩
end
/-- A reader: its bytes, its place, its error. -/
structure Rd where
  l : List Int
  k : Nat
  e : Int
/-- A reader of type T in block p; X: what may turn. -/
structure RX (w : World) (T : TypeId) (X : Nat → Prop) (p : Nat) (r : Rd) : Prop where
  box : ∃ a c, w.heap[p]? = some (.cells #[.slice a r.l.length c, .int .i64 r.k, .int .i64 r.e] T (0, 0)) ∧ r.l.length ≤ c ∧ ∀ W, Mods X w W → Bytes W a r.l
  xp : X p
  hk : r.k ≤ r.l.length
  hl : r.l.length ≤ 900000
/-- What a call answers, and what it makes of the reader. -/
def ansV {α : Type} (r : Rd) (z : α) (R : Rs α) : α := if r.e = 0 then (if R.e = 0 then R.v else z) else z
def ansR {α : Type} (r : Rd) (R : Rs α) : Rd := if r.e = 0 then (if R.e = 0 then ⟨r.l, R.k, 0⟩ else ⟨r.l, r.k, R.e⟩) else r
section
variable {w w' : World} {T : TypeId} {X : Nat → Prop} {p : Nat} {r : Rd}
theorem RX.lt (h : RX w T X p r) : p < w.heap.size := let ⟨_, _, h1, _⟩ := h.box; (Array.getElem?_eq_some_iff.1 h1).1
/-- Another's call. -/
theorem RX.beside {X' : Nat → Prop} (h : RX w T X p r) (hm : Mods X' w w') (hs : ∀ b, X' b → X b) (hp : ¬ X' p) : RX w' T X p r := by
  obtain ⟨a, c, h1, h2, h3⟩ := h.box
  exact ⟨⟨a, c, (hm.block p h.lt hp).trans h1, h2, fun W hW => h3 W ((hm.weak (al' := X) (fun b hb => .inl (hs b hb))).tr hW)⟩, h.xp, h.hk, h.hl⟩
theorem RX.later (h : RX w T X p r) (hb : Below w.heap.size w w') : RX w' T X p r := h.beside (X' := fun _ => False) (Mods.of_below hb) (fun _ hb => hb.elim) (fun hb => hb)
theorem RX.turn {r' : Rd} {a : Option Addr} {c : Nat} (h : RX w T X p r) (h1 : r.l.length ≤ c) (h2 : ∀ W, Mods X w W → Bytes W a r.l) (hm : Mods (fun b => b = p) w w') (hl : r'.l = r.l) (hk : r'.k ≤ r.l.length) (hb : w'.heap[p]? = some (.cells #[.slice a r.l.length c, .int .i64 r'.k, .int .i64 r'.e] T (0, 0))) : RX w' T X p r' := by
  refine ⟨⟨a, c, by rw [hl]; exact hb, by rw [hl]; exact h1, fun W hW => ?_⟩, h.xp, by rw [hl]; exact hk, by rw [hl]; exact h.hl⟩
  rw [hl]
  exact h2 W ((hm.weak (al' := X) (fun b hb => .inl (by rw [hb]; exact h.xp))).tr hW)
end
end Go.Proofs.Yteeakkpbpffohaa
