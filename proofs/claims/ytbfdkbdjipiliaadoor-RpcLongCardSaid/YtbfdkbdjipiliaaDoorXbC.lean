/- XdG, XdH, XdI, XdJ, XdK, XbC in one text. -/
import Derived.Test.YtbfdkbdjipiliaaDoorXdE
import Derived.Test.YtbfdkbdjipiliaaDoorXbB
/- The program's reader: its methods. -/
namespace Go.Proofs.YtbfdkbdjipiliaaDoor
open Go.RowKit Go.Maps
set_option linter.unusedVariables false

theorem u32P_k {l : List Int} {k : Nat} (h : (u32P l k).e = 0) : (u32P l k).k = k + 4 ∧ k + 4 ≤ l.length := by
  unfold u32P at h ⊢
  cases hq : numQ l k 4 with
  | none => rw [hq] at h; simp at h
  | some v => exact ⟨rfl, numQ_in hq⟩
theorem u64P_k {l : List Int} {k : Nat} (h : (u64P l k).e = 0) : (u64P l k).k = k + 8 ∧ k + 8 ≤ l.length := by
  unfold u64P at h ⊢
  cases hq : numQ l k 8 with
  | none => rw [hq] at h; simp at h
  | some v => exact ⟨rfl, numQ_in hq⟩
theorem boolP_k {l : List Int} {k : Nat} (h : (boolP l k).e = 0) : (boolP l k).k = k + 4 ∧ k + 4 ≤ l.length := by
  unfold boolP at h ⊢
  cases hq : numQ l k 4 with
  | none => rw [hq] at h; simp at h
  | some v =>
    rw [hq] at h
    by_cases hg : 1 < v
    · simp [hg] at h
    · simp only [hg, if_false]
      exact ⟨trivial, numQ_in hq⟩
theorem fixP_k {l : List Int} {k : Nat} {n : Int} (h : (fixP l k n).e = 0) : (fixP l k n).k ≤ l.length ∧ k ≤ (fixP l k n).k := by
  unfold fixP at h ⊢
  split
  · rename_i h1; rw [if_pos h1] at h; simp at h
  · rename_i h1
    rw [if_neg h1] at h
    split
    · rename_i h2; rw [if_pos h2] at h; simp at h
    · rename_i h2
      rw [if_neg h2] at h
      split
      · exact ⟨by show k + (n.toNat + pad4 n.toNat) ≤ l.length; omega, by show k ≤ k + (n.toNat + pad4 n.toNat); omega⟩
      · rename_i h3; rw [if_neg h3] at h; simp at h
theorem fixP_e (l : List Int) (k : Nat) (n : Int) : (fixP l k n).e = 0 ∨ (fixP l k n).e = 1 ∨ (fixP l k n).e = 5 ∨ (fixP l k n).e = 11 ∨ (fixP l k n).e = 15 := by
  unfold fixP
  repeat' split
  all_goals simp
theorem cntP_k {l : List Int} {k : Nat} {n : Int} (h : (cntP l k n).e = 0) : (cntP l k n).k ≤ l.length := by
  unfold cntP at h ⊢
  cases hq : numQ l k 4 with
  | none => rw [hq] at h; simp at h
  | some v =>
    rw [hq] at h
    by_cases hg : n < v
    · simp [hg] at h
    · simp only [hg, if_false] at h ⊢
      exact (fixP_k h).1
theorem cntP_e (l : List Int) (k : Nat) (n : Int) : (cntP l k n).e = 0 ∨ (cntP l k n).e = 1 ∨ (cntP l k n).e = 5 ∨ (cntP l k n).e = 11 ∨ (cntP l k n).e = 15 := by
  unfold cntP
  cases hq : numQ l k 4 with
  | none => simp
  | some v =>
    by_cases hg : n < v
    · simp [hg]
    · simp only [hg, if_false]; exact fixP_e _ _ _
theorem u32P_e (l : List Int) (k : Nat) : (u32P l k).e = 0 ∨ (u32P l k).e = 11 := by unfold u32P; cases numQ l k 4 <;> simp
theorem u64P_e (l : List Int) (k : Nat) : (u64P l k).e = 0 ∨ (u64P l k).e = 11 := by unfold u64P; cases numQ l k 8 <;> simp
theorem boolP_e (l : List Int) (k : Nat) : (boolP l k).e = 0 ∨ (boolP l k).e = 11 ∨ (boolP l k).e = 15 := by
  unfold boolP
  cases numQ l k 4 with
  | none => simp
  | some v => by_cases hg : 1 < v <;> simp [hg]
section
variable {w : World} {X : Nat → Prop} {p : Nat} {r : Rd}
theorem RU32_any (h : RX w 103 X p r) :
    Calls Tryd.prog 37 #[.pointer (some ⟨p, 0, none⟩)] w fun e w' => e = .returned (.int .u32 (ansV r 0 (u32P r.l r.k))) ∧ RX w' 103 X p (ansR r (u32P r.l r.k)) ∧ Mods (fun b => b = p) w w' := by
  have HC := hid (ans32_any h (u32P r.l r.k) (fun e => by rw [(u32P_k e).1]; exact (u32P_k e).2) (by have := u32P_e r.l r.k; omega) (fun a c W hq _ => (ru32_any hq (Nat.le_trans h.hk h.hl)).mono (fun e w' hx => ⟨hx.1, fun e0 => by rw [(u32P_k e0).1]; exact hx.2.1, hx.2.2⟩)))
  generalize u32P r.l r.k = R at *
  clear h
  go_enter Tryd.func37, Tryd.ntmps37
  go_wp2_with (go_at_call 51; refine HC.out.mono ?_; rintro e w2 ⟨rfl, hx, hm⟩; have HX := hid hx; have HM := hid hm; clear hx hm)
  go_ret
  exact ⟨rfl, HX.out, HM.out⟩
theorem RBytes1_any {q : Nat} {a : Option Addr} {c : Nat} {l : List Int} {k : Nat} (h : RQ w X q a c l k) (hk : k ≤ l.length) (n : Int) (hn : II16 n) (g : Nat) (cg : w.cell? ⟨g, 0, none⟩ = some (.int .i64 n)) :
    Calls Tryd.prog 65 #[.pointer (some ⟨q, 0, none⟩), .pointer (some ⟨g, 0, none⟩)] w fun e w' => PadPost w X q a c l (cntP l k n) e w' := by
  have HC := hid (rcounted_any h hk n hn)
  generalize cntP l k n = R at *
  clear h hn
  go_enter Tryd.func65, Tryd.ntmps65
  go_wp2_with (go_at_call 66; refine HC.out.mono ?_; rintro e w2 ⟨a2, c2, rfl, hy, hc2, hz, hm⟩; have HZ := hid hz; have HY := hid hy; have HM := hid hm; clear hz hy hm)
  go_ret2
  exact ⟨a2, c2, rfl, HY.out, hc2, HZ.out, HM.out⟩
set_option maxRecDepth 100000 in
theorem RBytes_any (h : RX w 103 X p r) (n : Int) (hn : II16 n) :
    Calls Tryd.prog 53 #[.pointer (some ⟨p, 0, none⟩), .int .i64 n] w fun e w' => (∃ a2 c2, e = .returned (.slice a2 (ansV r [] (cntP r.l r.k n)).length c2) ∧ By w' (New w) a2 (ansV r [] (cntP r.l r.k n)) ∧ (ansV r [] (cntP r.l r.k n)).length ≤ c2) ∧ RX w' 103 X p (ansR r (cntP r.l r.k n)) ∧ Mods (fun b => b = p) w w' := by
  obtain ⟨W1, hW1⟩ : ∃ W, W = w.alloc (.cells #[.int .i64 n] 3) := ⟨_, rfl⟩
  have b1 : Below w.heap.size w W1 := by rw [hW1]; exact below_alloc (Below.refl _ _) (Nat.le_refl _) _
  have cg : W1.cell? ⟨w.heap.size, 0, none⟩ = some (.int .i64 n) := by rw [hW1, new_cell _ _ _ _ 0 (by simp)]; rfl
  have hX1 := h.later b1
  have HC := hid (ansB_any hX1 w.heap.size (cntP r.l r.k n) (fun e => cntP_k e) (cntP_e _ _ _) (fun a c W hq hW => RBytes1_any hq h.hk n hn w.heap.size (cell_later hW cg)))
  have HB1 := hid b1
  have HX1 := hid hX1
  generalize cntP r.l r.k n = R at *
  have hW1' := hW1.symm
  clear h hn b1 cg hX1 hW1
  go_enter Tryd.func53, Tryd.ntmps53
  go_wp2_with (go_at_call 64; (try rw [hW1']); refine HC.out.mono ?_; rintro e w2 ⟨⟨a2, c2, rfl, hy, hc2⟩, hx, hm⟩; have HX := hid hx; have HY := hid hy; have HM := hid hm; clear hx hy hm)
  go_ret
  exact ⟨⟨a2, c2, rfl, HY.out.weak (fun b hb _ => Nat.le_trans HB1.out.size hb), hc2⟩, HX.out, (Mods.of_below (al := fun b => b = p) HB1.out).tr HM.out⟩
theorem RAt_any (h : RX w 103 X p r) : Calls Tryd.prog 26 #[.pointer (some ⟨p, 0, none⟩)] w fun e w' => e = .returned (.int .i64 r.k) ∧ w' = w := by
  obtain ⟨a, c, h1, _, _⟩ := h.box
  have c1 := cell_of h1 (i := 1) (v := .int .i64 r.k) rfl
  clear h h1
  go_enter Tryd.func26, Tryd.ntmps26
  go_wp2
  go_ret
  exact ⟨rfl, rfl⟩
theorem RErr_any (h : RX w 103 X p r) : Calls Tryd.prog 39 #[.pointer (some ⟨p, 0, none⟩)] w fun e w' => e = .returned (.int .i64 r.e) ∧ w' = w := by
  obtain ⟨a, c, h1, _, _⟩ := h.box
  have c1 := cell_of h1 (i := 2) (v := .int .i64 r.e) rfl
  clear h h1
  go_enter Tryd.func39, Tryd.ntmps39
  go_wp2
  go_ret
  exact ⟨rfl, rfl⟩
theorem RLeft_any (h : RX w 103 X p r) : Calls Tryd.prog 71 #[.pointer (some ⟨p, 0, none⟩)] w fun e w' => e = .returned (.int .i64 ((r.l.length - r.k : Nat) : Int)) ∧ Below w.heap.size w w' := by
  obtain ⟨a, c, h1, h2, _⟩ := h.box
  obtain ⟨a2, hcut, _⟩ := cut_l a r.l.length c r.k h.hk h2
  have HC := hid (rest_any w p a a2 r.l.length c r.k (cell_of h1 rfl) (cell_of h1 rfl) hcut)
  obtain ⟨m, hm⟩ : ∃ m, r.l.length - r.k = m := ⟨_, rfl⟩
  obtain ⟨d, hd⟩ : ∃ d, c - r.k = d := ⟨_, rfl⟩
  rw [hm, hd] at HC
  rw [hm]
  have c0 := cell_of h1 (i := 0) (v := .slice a r.l.length c) rfl
  have c1 := cell_of h1 (i := 1) (v := .int .i64 r.k) rfl
  clear h h1 h2 hcut hm hd
  go_enter Tryd.func71, Tryd.ntmps71
  go_wp2_with (go_at_call 74; refine HC.out.mono ?_; rintro e w2 ⟨rfl, hb⟩; have HB := hid hb; clear hb)
  go_ret
  exact ⟨rfl, HB.out⟩
end
set_option maxRecDepth 100000 in
set_option maxHeartbeats 1000000 in
theorem NewReader_any (w : World) (a : Option Addr) (n c : Nat) (l : List Int) (hn : l.length = n) (hl : n ≤ 900000) (hb : Bytes w a l) :
    Calls Tryd.prog 22 #[.slice a n c] w fun e w' => ∃ p, e = .returned (.pointer (some ⟨p, 0, none⟩)) ∧ w.heap.size ≤ p ∧ (∀ X : Nat → Prop, X p → (∀ b, w.heap.size ≤ b → b < p → ¬ X b) → RX w' 103 X p ⟨l, 0, 0⟩) ∧ p < w'.heap.size ∧ Below w.heap.size w w' ∧ p + 1 = w'.heap.size := by
  have HC := hid (Clone_all w a n c l hn hl hb)
  have HN := hid hn
  clear hb hn
  go_enter Tryd.func22, Tryd.ntmps22
  go_wp2_with (go_at_call 25
               refine HC.out.mono ?_
               rintro e w2 ⟨a2, c2, rfl, hy, hc, hb2⟩
               obtain ⟨W3, hW3⟩ : ∃ W, W = w2.alloc (.cells #[.slice a2 n c2, .int .i64 0, .int .i64 0] 103) := ⟨_, rfl⟩
               have hb3 : Below w2.heap.size w2 W3 := by rw [hW3]; exact below_alloc (Below.refl _ _) (Nat.le_refl _) _
               have z3 : W3.heap[w2.heap.size]? = some (.cells #[.slice a2 n c2, .int .i64 0, .int .i64 0] 103 (0, 0)) := by rw [hW3]; exact alloc_new w2 _
               have hs3 : w2.heap.size + 1 = W3.heap.size := by rw [hW3]; simp
               have HY := hid hy
               have HB2 := hid hb2
               have HB3 := hid hb3
               have HZ := hid z3
               have HS3 := hid hs3
               have hW3' := hW3.symm
               clear hy hb2 hb3 z3 hs3 hW3)
  go_ret
  refine ⟨w2.heap.size, rfl, HB2.out.size, fun X hX hXn => ?_, by have := HS3.out; omega, HB2.out.trans (HB3.out.mono HB2.out.size), HS3.out⟩
  refine ⟨⟨a2, c2, by rw [show (⟨l, 0, 0⟩ : Rd).l.length = n from HN.out]; exact HZ.out, by rw [show (⟨l, 0, 0⟩ : Rd).l.length = n from HN.out]; exact hc, fun W hW => ?_⟩, hX, Nat.zero_le _, by rw [show (⟨l, 0, 0⟩ : Rd).l.length = n from HN.out]; exact hl⟩
  refine (((HY.out.later HB3.out).off HZ.out (by decide)).keep (fun b hb hl2 => hW.block b hl2 (fun e => ?_))).bytes
  exact hXn b hb.1 (by have := HS3.out; have := hb.2; omega) e
end Go.Proofs.YtbfdkbdjipiliaaDoor

/- The document's reader: its numbers and truths. -/
namespace Go.Proofs.YtbfdkbdjipiliaaDoor
open Go.RowKit Go.Maps
set_option linter.unusedVariables false

def nO (q : Option Int) (k n : Nat) : Rs Int := match q with | none => ⟨0, 11, k⟩ | some v => ⟨v, 0, k + n⟩
def nP (l : List Int) (k n : Nat) : Rs Int := nO (numQ l k n) k n
theorem nP4 (l : List Int) (k : Nat) : nP l k 4 = u32P l k := by unfold nP nO u32P; rfl
theorem nP8 (l : List Int) (k : Nat) : nP l k 8 = u64P l k := by unfold nP nO u64P; rfl
theorem RX.mods {w w' : World} {T : TypeId} {X : Nat → Prop} {p : Nat} {r : Rd} (h : RX w T X p r) (hm : Mods (fun b => b = p) w w') : Mods X w w' := hm.weak (fun b hb => .inl (by rw [hb]; exact h.xp))
section
variable {w : World} {X : Nat → Prop} {p : Nat} {r : Rd}
theorem ansV_bd (r : Rd) (n : Nat) (hI : ∀ x ∈ r.l, IsB x) : 0 ≤ ansV r 0 (nP r.l r.k n) ∧ ansV r 0 (nP r.l r.k n) < 256 ^ n := by
  have hp : (0 : Int) < 256 ^ n := Int.pow_pos (by omega)
  unfold ansV nP nO
  cases hq : numQ r.l r.k n with
  | none => by_cases h : r.e = 0 <;> simp [h, hp]
  | some v =>
    have := numQ_bd hq hI
    by_cases h : r.e = 0
    · simp [h, this]
    · simp [h, hp]
theorem RX.isB {T : TypeId} (h : RX w T X p r) : ∀ x ∈ r.l, IsB x := let ⟨_, _, _, _, h3⟩ := h.box; (h3 w (Mods.refl _ _)).isB
end
end Go.Proofs.YtbfdkbdjipiliaaDoor

/- The document's reader: truths, bytes. -/
namespace Go.Proofs.YtbfdkbdjipiliaaDoor
open Go.RowKit Go.Maps
set_option linter.unusedVariables false

section
variable {w : World} {X : Nat → Prop} {p : Nat} {r : Rd}
end
end Go.Proofs.YtbfdkbdjipiliaaDoor

/- The document's reader: bytes and the noughts behind them. -/
namespace Go.Proofs.YtbfdkbdjipiliaaDoor
open Go.RowKit Go.Maps
set_option linter.unusedVariables false

/-- What a call that answers bytes leaves. -/
def BytesPost (w : World) (T : TypeId) (X : Nat → Prop) (p : Nat) (V : List Int) (r' : Rd) (e : Ending) (w' : World) : Prop :=
  (∃ a2 c2, e = .returned (.slice a2 V.length c2) ∧ By w' (New w) a2 V ∧ V.length ≤ c2) ∧ RX w' T X p r' ∧ Mods (fun b => b = p) w w'
theorem BytesPost.none_ {w w' : World} {T : TypeId} {X : Nat → Prop} {p : Nat} {r' : Rd} (h : RX w' T X p r') (hm : Mods (fun b => b = p) w w') : BytesPost w T X p [] r' (.returned (.slice none 0 0)) w' := ⟨⟨none, 0, rfl, By.nil _ _ _, Nat.le_refl _⟩, h, hm⟩
end Go.Proofs.YtbfdkbdjipiliaaDoor

/- The document's reader: bytes with their length ahead. -/
namespace Go.Proofs.YtbfdkbdjipiliaaDoor
open Go.RowKit Go.Maps
set_option linter.unusedVariables false

end Go.Proofs.YtbfdkbdjipiliaaDoor

/- What is written, item by item, is the document's bytes: the law's walk. -/
namespace Go.Proofs.YtbfdkbdjipiliaaDoor
open Go.RowKit Go.Maps
set_option linter.unusedVariables false

theorem WX.row {w : World} {T : TypeId} {p : Nat} {S : Nat → Prop} {l : List Int} (h : WX w T p S l) : ∃ a c, w.heap[p]? = some (.cells #[.slice a l.length c] T (0, 0)) ∧ Bytes w a l := by
  obtain ⟨v, h1, h2, _⟩ := h.box
  obtain ⟨a, c, rfl⟩ := h2.shape
  refine ⟨a, c, h1, ?_⟩
  by_cases hp : 0 < l.length
  · obtain ⟨b, off, cap, e, _, _, hc, _⟩ := h2.at_ hp
    simp only [Value.slice.injEq, true_and] at e
    obtain ⟨rfl, _⟩ := e
    exact Bytes.mk_ h.isB (fun i hi => by
      have := hc i _ (u8s_get hi)
      exact this)
  · have : l = [] := List.eq_nil_of_length_eq_zero (by omega)
    rw [this]; exact Bytes.nil_ _ _
def itLs (L : List It) : List Int := L.flatMap itL
theorem itLs_snoc (L : List It) (k : Nat) (h : k < L.length) : itLs (L.take (k + 1)) = itLs (L.take k) ++ itL (L.getD k default) := by
  have e : L.getD k default = L[k] := by simp [List.getD, h]
  rw [itLs, e, List.take_succ_eq_append_getElem h, List.flatMap_append]; simp [itLs]
theorem ItR.later {w w' : World} {a : Option Addr} {L : List It} (h : ItR w a L) (hb : Below w.heap.size w w') (i : Nat) (hi : i < L.length) : ∃ b off, a = some ⟨b, off, none⟩ ∧ ∀ j, j < 5 → w'.cell? ⟨b, off + i * 5 + j, none⟩ = (itC (L.getD i default))[j]? := by
  obtain ⟨_, b, off, e, hc⟩ := h i hi
  refine ⟨b, off, e, fun j hj => ?_⟩
  have h1 := hc j hj
  obtain ⟨v, hv⟩ : ∃ v, (itC (L.getD i default))[j]? = some v := by
    rcases (show j = 0 ∨ j = 1 ∨ j = 2 ∨ j = 3 ∨ j = 4 by omega) with rfl | rfl | rfl | rfl | rfl <;> exact ⟨_, rfl⟩
  rw [hv] at h1 ⊢
  exact cell_later hb h1
end Go.Proofs.YtbfdkbdjipiliaaDoor
