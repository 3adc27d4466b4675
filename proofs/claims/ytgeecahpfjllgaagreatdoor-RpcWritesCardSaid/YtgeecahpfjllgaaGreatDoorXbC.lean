/- XdK, XbC in one text. -/
import Derived.Test.YtgeecahpfjllgaaGreatDoorXdJ
import Derived.Test.YtgeecahpfjllgaaGreatDoorXbB
/- The document's reader: bytes with their length ahead. -/
namespace Go.Proofs.YtgeecahpfjllgaaGreatDoor
open Go.RowKit Go.Maps
set_option linter.unusedVariables false

set_option maxRecDepth 100000 in
set_option maxHeartbeats 8000000 in
theorem dBytes_any {w : World} {X : Nat → Prop} {p : Nat} {r : Rd} (h : RX w 74 X p r) (most : Int) (hn : II16 most) :
    Calls Tryz.prog 33 #[.pointer (some ⟨p, 0, none⟩), .int .i64 most] w fun e w' => BytesPost w 74 X p (ansV r [] (cntP r.l r.k most)) (ansR r (cntP r.l r.k most)) e w' := by
  have HU := hid (dU32_any h)
  obtain ⟨a, c, h1, _, _⟩ := h.box
  have hkl := h.hk
  have hI := h.isB
  unfold II16 at hn
  obtain ⟨l, k, er⟩ := r
  simp only at h1 hkl hI HU ⊢
  have c1 := cell_of h1 (i := 1) (v := .int .i64 k) rfl
  have HKL := hid hkl
  unfold u32P at HU
  unfold cntP
  clear h h1
  by_cases h0 : er = 0
  rotate_left
  · have q1 : ∀ (α : Type) (R : Rs α), ansR ⟨l, k, er⟩ R = ⟨l, k, er⟩ := fun α R => by unfold ansR; rw [if_neg h0]
    have q2 : ∀ (α : Type) (z : α) (R : Rs α), ansV ⟨l, k, er⟩ z R = z := fun α z R => by unfold ansV; rw [if_neg h0]
    rw [q1, q2] at HU
    rw [q1, q2]
    have hne : (er != 0) = true := by simpa using h0
    clear q1 q2 hI
    go_enter Tryz.func33, Tryz.ntmps33
    go_wp2_with (go_at_call 32
                 refine HU.out.mono ?_
                 rintro e w2 ⟨rfl, hx, hm⟩
                 obtain ⟨a2, c2, h2, _, _⟩ := hx.box
                 have d2 := cell_of h2 (i := 2) rfl
                 have HX := hid hx
                 have HM := hid hm
                 clear hx hm h2)
    go_ret
    exact BytesPost.none_ HX.out HM.out
  subst h0
  cases hq : numQ l k 4 with
  | none =>
    rw [hq] at HU
    have q1 : ansR ⟨l, k, 0⟩ (⟨0, 11, k⟩ : Rs Int) = ⟨l, k, 11⟩ := by simp [ansR]
    have q2 : ansV ⟨l, k, 0⟩ 0 (⟨0, 11, k⟩ : Rs Int) = 0 := by simp [ansV]
    simp only [q1, q2] at HU
    have q3 : ansR ⟨l, k, 0⟩ (⟨[], 11, k⟩ : Rs (List Int)) = ⟨l, k, 11⟩ := by simp [ansR]
    have q4 : ansV ⟨l, k, 0⟩ [] (⟨[], 11, k⟩ : Rs (List Int)) = [] := by simp [ansV]
    simp only [q3, q4]
    clear q1 q2 q3 q4 hI hq
    go_enter Tryz.func33, Tryz.ntmps33
    go_wp2_with (go_at_call 32
                 refine HU.out.mono ?_
                 rintro e w2 ⟨rfl, hx, hm⟩
                 obtain ⟨a2, c2, h2, _, _⟩ := hx.box
                 have d2 := cell_of h2 (i := 2) rfl
                 have HX := hid hx
                 have HM := hid hm
                 clear hx hm h2)
    go_ret
    exact BytesPost.none_ HX.out HM.out
  | some y =>
    have hv := numQ_bd hq hI
    rw [hq] at HU
    have q1 : ansR ⟨l, k, 0⟩ (⟨y, 0, k + 4⟩ : Rs Int) = ⟨l, k + 4, 0⟩ := by simp [ansR]
    have q2 : ansV ⟨l, k, 0⟩ 0 (⟨y, 0, k + 4⟩ : Rs Int) = y := by simp [ansV]
    simp only [q1, q2] at HU
    have w64 : IntKind.i64.wrap y = y := IntWalk.i64_in _ (by omega)
    clear q1 q2 hI hq
    by_cases hg : most < y
    · simp only [hg, if_true]
      have q3 : ansR ⟨l, k, 0⟩ (⟨[], 5, k⟩ : Rs (List Int)) = ⟨l, k, 5⟩ := by simp [ansR]
      have q4 : ansV ⟨l, k, 0⟩ [] (⟨[], 5, k⟩ : Rs (List Int)) = [] := by simp [ansV]
      simp only [q3, q4]
      clear q3 q4
      go_enter Tryz.func33, Tryz.ntmps33
      go_wp2_with (first
        | (go_at_call 32
           refine HU.out.mono ?_
           rintro e w2 ⟨rfl, hx, hm⟩
           obtain ⟨a2, c2, h2, _, _⟩ := hx.box
           have d2 := cell_of h2 (i := 2) rfl
           have HF := hid (dfail_any hx k HKL.out 5 k rfl)
           have HX := hid hx
           have HM := hid hm
           clear hx hm h2)
        | (go_at_call 62
           refine HF.out.mono ?_
           rintro e w3 ⟨rfl, hx2, hm2⟩
           have HX2 := hid hx2
           have HM2 := hid hm2
           clear hx2 hm2))
      go_ret
      exact BytesPost.none_ HX2.out (HM.out.tr HM2.out)
    · simp only [hg, if_false]
      have HFX : Hid (∀ W, RX W 74 X p ⟨l, k + 4, 0⟩ → Calls Tryz.prog 63 #[.pointer (some ⟨p, 0, none⟩), .int .i64 y] W fun e w' => BytesPost W 74 X p (ansV ⟨l, k + 4, 0⟩ [] (fixP l (k + 4) y)) (ansR ⟨l, k + 4, 0⟩ (fixP l (k + 4) y)) e w') := hid (fun W hW => dFixed_any hW y (by unfold II16; omega))
      have hRe := fixP_e l (k + 4) y
      obtain ⟨R, hR⟩ : ∃ R, fixP l (k + 4) y = R := ⟨_, rfl⟩
      rw [hR] at HFX hRe ⊢
      have HV := hid hv
      clear hR hv
      by_cases g0 : R.e = 0
      · have q1 : ansR ⟨l, k + 4, 0⟩ R = ⟨l, R.k, 0⟩ := by simp [ansR, g0]
        have q2 : ansV ⟨l, k + 4, 0⟩ [] R = R.v := by simp [ansV, g0]
        have q3 : ansR ⟨l, k, 0⟩ R = ⟨l, R.k, 0⟩ := by simp [ansR, g0]
        have q4 : ansV ⟨l, k, 0⟩ [] R = R.v := by simp [ansV, g0]
        simp only [q1, q2] at HFX
        rw [q3, q4]
        clear q1 q2 q3 q4 g0 hRe
        obtain ⟨V, hV⟩ : ∃ V, R.v = V := ⟨_, rfl⟩
        obtain ⟨rk, hrk⟩ : ∃ V, R.k = V := ⟨_, rfl⟩
        rw [hV, hrk] at HFX ⊢
        clear hV hrk
        go_enter Tryz.func33, Tryz.ntmps33
        go_wp2_with (first
          | (go_at_call 32
             refine HU.out.mono ?_
             rintro e w2 ⟨rfl, hx, hm⟩
             obtain ⟨a2, c2, h2, _, _⟩ := hx.box
             have d2 := cell_of h2 (i := 2) rfl
             have HX := hid hx
             have HM := hid hm
             clear hx hm h2)
          | (go_at_call 63
             refine (HFX.out _ HX.out).mono ?_
             rintro e w3 ⟨⟨a8, c8, rfl, hy8, hc8⟩, hx2, hm2⟩
             obtain ⟨a2', c2', h2', _, _⟩ := hx2.box
             have d3 := cell_of h2' (i := 2) rfl
             have HX2 := hid hx2
             have HM2 := hid hm2
             have HY8 := hid hy8
             have HC8 := hid hc8
             clear hx2 hm2 hy8 hc8 h2'))
        go_ret
        exact ⟨⟨a8, c8, rfl, HY8.out.weak (fun b hb _ => Nat.le_trans HM.out.size hb), HC8.out⟩, HX2.out, HM.out.tr HM2.out⟩
      · have q1 : ansR ⟨l, k + 4, 0⟩ R = ⟨l, k + 4, R.e⟩ := by simp [ansR, g0]
        have q2 : ansV ⟨l, k + 4, 0⟩ [] R = [] := by simp [ansV, g0]
        have q3 : ansR ⟨l, k, 0⟩ R = ⟨l, k, R.e⟩ := by simp [ansR, g0]
        have q4 : ansV ⟨l, k, 0⟩ [] R = [] := by simp [ansV, g0]
        simp only [q1, q2] at HFX
        rw [q3, q4]
        obtain ⟨E, hE⟩ : ∃ E, R.e = E := ⟨_, rfl⟩
        rw [hE] at HFX g0 ⊢
        have hne : (E != 0) = true := by simpa using g0
        clear q1 q2 q3 q4 hE hRe g0
        go_enter Tryz.func33, Tryz.ntmps33
        go_wp2_with (first
          | (go_at_call 32
             refine HU.out.mono ?_
             rintro e w2 ⟨rfl, hx, hm⟩
             obtain ⟨a2, c2, h2, _, _⟩ := hx.box
             have d2 := cell_of h2 (i := 2) rfl
             have HX := hid hx
             have HM := hid hm
             clear hx hm h2)
          | (go_at_call 63
             refine (HFX.out _ HX.out).mono ?_
             rintro e w3 ⟨⟨a8, c8, rfl, _, _⟩, hx2, hm2⟩
             obtain ⟨a9, c9, h9, h9c, h9b⟩ := hx2.box
             have d3 := cell_of h9 (i := 2) rfl
             have d4 := cell_of h9 (i := 1) rfl
             have g4 := froz_of h9 1
             have h6 := setc h9 1 (.int .i64 k)
             have M6 := (Mods.refl (fun b => b = p) w3).setCell p 1 (.int .i64 k) rfl
             have hx6 : RX (w3.setCell ⟨p, 1, none⟩ (.int .i64 k)) 74 X p ⟨l, k, E⟩ := hx2.turn h9c h9b M6 rfl HKL.out (by simpa using h6)
             have HX6 := hid hx6
             have HM6 := hid (HM.out.tr (hm2.tr M6))
             clear hx2 hm2 h9 h9c h9b h6 M6 hx6))
        go_ret
        exact BytesPost.none_ HX6.out HM6.out
end Go.Proofs.YtgeecahpfjllgaaGreatDoor

/- What is written, item by item, is the document's bytes: the law's walk. -/
namespace Go.Proofs.YtgeecahpfjllgaaGreatDoor
open Go.RowKit Go.Maps
set_option linter.unusedVariables false

theorem WX.row {w : World} {T : TypeId} {p : Nat} {S : Nat → Prop} {l : List Int} (h : WX w T p S l) : ∃ a c, w.heap[p]? = some (.cells #[.slice a l.length c] T (0, 0)) ∧ Bytes w a l := by
  obtain ⟨v, h1, h2, _⟩ := h.box
  obtain ⟨a, c, rfl⟩ := h2.shape
  refine ⟨a, c, h1, ?_⟩
  by_cases hp : 0 < l.length
  · obtain ⟨b, off, cap, e, _, _, hc, _⟩ := h2.at_ hp
    simp only [Value.slice.injEq, true_and] at e
    obtain ⟨rfl, _⟩ := e
    exact Bytes.mk_ h.isB (fun i hi => by
      have := hc i _ (u8s_get hi)
      exact this)
  · have : l = [] := List.eq_nil_of_length_eq_zero (by omega)
    rw [this]; exact Bytes.nil_ _ _
def itLs (L : List It) : List Int := L.flatMap itL
theorem itLs_snoc (L : List It) (k : Nat) (h : k < L.length) : itLs (L.take (k + 1)) = itLs (L.take k) ++ itL (L.getD k default) := by
  have e : L.getD k default = L[k] := by simp [List.getD, h]
  rw [itLs, e, List.take_succ_eq_append_getElem h, List.flatMap_append]; simp [itLs]
theorem ItR.later {w w' : World} {a : Option Addr} {L : List It} (h : ItR w a L) (hb : Below w.heap.size w w') (i : Nat) (hi : i < L.length) : ∃ b off, a = some ⟨b, off, none⟩ ∧ ∀ j, j < 5 → w'.cell? ⟨b, off + i * 5 + j, none⟩ = (itC (L.getD i default))[j]? := by
  obtain ⟨_, b, off, e, hc⟩ := h i hi
  refine ⟨b, off, e, fun j hj => ?_⟩
  have h1 := hc j hj
  obtain ⟨v, hv⟩ : ∃ v, (itC (L.getD i default))[j]? = some v := by
    rcases (show j = 0 ∨ j = 1 ∨ j = 2 ∨ j = 3 ∨ j = 4 by omega) with rfl | rfl | rfl | rfl | rfl <;> exact ⟨_, rfl⟩
  rw [hv] at h1 ⊢
  exact cell_later hb h1
/-- Both writers begin. -/
theorem TW.begin_ {w0 w1 W2 : World} {p : Nat} (hb1 : Below w0.heap.size w0 w1) (hp : w0.heap.size ≤ p) (hx : WX w1 122 p (fun b => b = p) []) (hW2 : W2 = w1.alloc (.cells #[.slice none 0 0] 57)) : TW w0 W2 p w1.heap.size [] := by
  have b2 : Below w1.heap.size w1 W2 := by rw [hW2]; exact below_alloc (Below.refl _ _) (Nat.le_refl _) _
  refine ⟨⟨_, (fun b => b = w1.heap.size), hx.later b2, ⟨by decide, fun x hx => by simp at hx, ⟨.slice none 0 0, by rw [hW2]; exact alloc_new w1 _, RW.nil _ 5 1, fun b hb => by simp [blkV] at hb⟩, rfl, fun b hb => by rw [hb, hW2]; simp⟩, fun b hb e => ?_, fun b hb => by rw [hb]; exact hp, fun b hb => by rw [hb]; exact hb1.size⟩, hb1.trans (b2.mono hb1.size)⟩
  have h1 := hx.slt p rfl
  have h2 : b = p := hb
  have h3 : b = w1.heap.size := e
  omega
end Go.Proofs.YtgeecahpfjllgaaGreatDoor
