/- The document's reader: its numbers and truths. -/
import Derived.Test.YtgeecahpfjllgaaGreatDoorXdG
namespace Go.Proofs.YtgeecahpfjllgaaGreatDoor
open Go.RowKit Go.Maps
set_option linter.unusedVariables false

def nO (q : Option Int) (k n : Nat) : Rs Int := match q with | none => ⟨0, 11, k⟩ | some v => ⟨v, 0, k + n⟩
def nP (l : List Int) (k n : Nat) : Rs Int := nO (numQ l k n) k n
theorem nP4 (l : List Int) (k : Nat) : nP l k 4 = u32P l k := by unfold nP nO u32P; rfl
theorem nP8 (l : List Int) (k : Nat) : nP l k 8 = u64P l k := by unfold nP nO u64P; rfl
theorem RX.mods {w w' : World} {T : TypeId} {X : Nat → Prop} {p : Nat} {r : Rd} (h : RX w T X p r) (hm : Mods (fun b => b = p) w w') : Mods X w w' := hm.weak (fun b hb => .inl (by rw [hb]; exact h.xp))
set_option maxRecDepth 100000 in
set_option maxHeartbeats 4000000 in
theorem dnumber_any {w : World} {X : Nat → Prop} {p : Nat} {r : Rd} (h : RX w 74 X p r) (n : Nat) (hn : n = 4 ∨ n = 8) (N : Int) (hN : N = n) :
    Calls Tryz.prog 61 #[.pointer (some ⟨p, 0, none⟩), .int .i64 N] w fun e w' => e = .returned (.int .u64 (ansV r 0 (nP r.l r.k n))) ∧ RX w' 74 X p (ansR r (nP r.l r.k n)) ∧ Mods (fun b => b = p) w w' := by
  subst hN
  obtain ⟨a, c, h1, hc, hb⟩ := h.box
  have HH := hid h
  have hkl := h.hk
  have hll := h.hl
  obtain ⟨l, k, er⟩ := r
  simp only at h1 hc hb hkl hll ⊢
  have c2 := cell_of h1 (i := 2) (v := .int .i64 er) rfl
  by_cases h0 : er = 0
  rotate_left
  · have hne : (er != 0) = true := by simpa using h0
    have e1 : ansR ⟨l, k, er⟩ (nP l k n) = ⟨l, k, er⟩ := by unfold ansR; rw [if_neg h0]
    have e2 : ansV ⟨l, k, er⟩ 0 (nP l k n) = 0 := by unfold ansV; rw [if_neg h0]
    rw [e1, e2]
    have HM := hid (Mods.refl (fun b => b = p) w)
    clear h1 hc hb e1 e2 h hn
    go_enter Tryz.func61, Tryz.ntmps61
    go_wp2
    go_ret
    exact ⟨rfl, HH.out, HM.out⟩
  subst h0
  obtain ⟨e1, e2⟩ := rd_num l k n hn
  obtain ⟨q, hq⟩ : ∃ q, numQ l k n = q := ⟨_, rfl⟩
  have HBE : Hid (∀ W, Below w.heap.size w W → Calls Tryz.prog 77 #[.slice a l.length c, .int .i64 k, .int .i64 n] W fun e w' => e = .returned (.tuple #[.int .u64 (q.getD 0), .int .i64 (if q.isSome then 0 else 11)]) ∧ w' = W) := hid (fun W hW => by
    refine (refBe_any a c l k n W (by unfold maxLen; omega) ((hb w (Mods.refl _ _)).later hW)).mono ?_
    rintro e w' ⟨rfl, rfl⟩
    rw [e1, e2, hq]
    exact ⟨rfl, rfl⟩)
  have c0 := cell_of h1 (i := 0) (v := .slice a l.length c) rfl
  have c1 := cell_of h1 (i := 1) (v := .int .i64 k) rfl
  have hn8 : n ≤ 8 := by omega
  have hw1 : IntKind.i64.wrap ((k : Int) + n) = (k : Int) + n := IntWalk.i64_in _ (by omega)
  have HIN : Hid (q.isSome = true → k + n ≤ l.length) := hid (fun hs => by
    rw [← hq] at hs
    obtain ⟨v, hv⟩ := Option.isSome_iff_exists.1 hs
    exact numQ_in hv)
  obtain ⟨ln, hln⟩ : ∃ x, l.length = x := ⟨_, rfl⟩
  obtain ⟨V, hV⟩ : ∃ x, q.getD 0 = x := ⟨_, rfl⟩
  obtain ⟨E, hE⟩ : ∃ x : Int, (if q.isSome then (0 : Int) else 11) = x := ⟨_, rfl⟩
  rw [hV, hE] at HBE
  rw [hln] at HBE c0 h1 hc
  have H1 := hid h1
  have HC := hid hc
  have HB := hid hb
  have HLN := hid hln
  have hnP : nP l k n = nO q k n := by unfold nP; rw [hq]
  rw [hnP]
  clear h h1 hln e1 e2 hn hc hb hq hnP
  cases q with
  | none =>
    simp only [Option.getD_none, Option.isSome_none, Bool.false_eq_true, if_false] at hV hE
    subst hV hE
    have q1 : ansR ⟨l, k, 0⟩ (nO none k n) = ⟨l, k, 11⟩ := by simp [ansR, nO]
    have q2 : ansV ⟨l, k, 0⟩ 0 (nO none k n) = 0 := by simp [ansV, nO]
    simp only [q1, q2]
    clear q1 q2
    go_enter Tryz.func61, Tryz.ntmps61
    go_upto_region 3 with fail
    try simp only [Act.put]
    refine wp_region_held_drew (S := (fun w' => w'.cell? ⟨p, 0, none⟩ = some (.slice a ln c) ∧ w'.cell? ⟨p, 1, none⟩ = some (.int .i64 k))) (by kernel_rfl) ⟨c0, c1⟩ (fun hS => ?_)
    obtain ⟨v0, hv0⟩ : ∃ W, W = w.drew := ⟨_, rfl⟩
    rw [← hv0] at hS ⊢
    have HB0 := hid (show Below w.heap.size w v0 by rw [hv0]; exact (Below.refl _ _).drew)
    clear hv0 c0 c1 c2
    refine nany_take 0 13 (.pointer (some ⟨p, 0, none⟩)) rfl rfl (by kernel_rfl) (by kernel_rfl) (by kernel_rfl) (fun _ _ _ h => h) (Or.inl ⟨by rfl, ?_⟩) hS ?_
    · rintro w' hS'
      first | go_simp | (go_simp; exact hS'.1) | (go_simp; exact hS'.2)
    simp only [List.setIfInBounds_toArray, List.set_cons_zero, List.set_cons_succ]
    refine nany_take 1 14 (.pointer (some ⟨p, 0, none⟩)) rfl rfl (by kernel_rfl) (by kernel_rfl) (by kernel_rfl) (fun _ _ _ h => h) (Or.inl ⟨by rfl, ?_⟩) hS ?_
    · rintro w' hS'
      first | go_simp | (go_simp; exact hS'.1) | (go_simp; exact hS'.2)
    simp only [List.setIfInBounds_toArray, List.set_cons_zero, List.set_cons_succ]
    refine nany_take 2 15 (.pointer (some ⟨p, 0, none⟩)) rfl rfl (by kernel_rfl) (by kernel_rfl) (by kernel_rfl) (fun _ _ _ h => h) (Or.inl ⟨by rfl, ?_⟩) hS ?_
    · rintro w' hS'
      first | go_simp | (go_simp; exact hS'.1) | (go_simp; exact hS'.2)
    simp only [List.setIfInBounds_toArray, List.set_cons_zero, List.set_cons_succ]
    refine nany_take 3 16 (.slice a ln c) rfl rfl (by kernel_rfl) (by kernel_rfl) (by kernel_rfl) (fun _ _ _ h => h) (Or.inl ⟨by rfl, ?_⟩) hS ?_
    · rintro w' hS'
      first | go_simp | (go_simp; exact hS'.1) | (go_simp; exact hS'.2)
    simp only [List.setIfInBounds_toArray, List.set_cons_zero, List.set_cons_succ]
    refine nany_take 4 17 (.pointer (some ⟨p, 0, none⟩)) rfl rfl (by kernel_rfl) (by kernel_rfl) (by kernel_rfl) (fun _ _ _ h => h) (Or.inl ⟨by rfl, ?_⟩) hS ?_
    · rintro w' hS'
      first | go_simp | (go_simp; exact hS'.1) | (go_simp; exact hS'.2)
    simp only [List.setIfInBounds_toArray, List.set_cons_zero, List.set_cons_succ]
    refine nany_take 5 18 (.pointer (some ⟨p, 0, none⟩)) rfl rfl (by kernel_rfl) (by kernel_rfl) (by kernel_rfl) (fun _ _ _ h => h) (Or.inl ⟨by rfl, ?_⟩) hS ?_
    · rintro w' hS'
      first | go_simp | (go_simp; exact hS'.1) | (go_simp; exact hS'.2)
    simp only [List.setIfInBounds_toArray, List.set_cons_zero, List.set_cons_succ]
    refine nany_take 6 19 (.pointer (some ⟨p, 1, none⟩)) rfl rfl (by kernel_rfl) (by kernel_rfl) (by kernel_rfl) (fun _ _ _ h => h) (Or.inl ⟨by rfl, ?_⟩) hS ?_
    · rintro w' hS'
      first | go_simp | (go_simp; exact hS'.1) | (go_simp; exact hS'.2)
    simp only [List.setIfInBounds_toArray, List.set_cons_zero, List.set_cons_succ]
    refine nany_take 7 20 (.int .i64 k) rfl rfl (by kernel_rfl) (by kernel_rfl) (by kernel_rfl) (fun _ _ _ h => h) (Or.inl ⟨by rfl, ?_⟩) hS ?_
    · rintro w' hS'
      first | go_simp | (go_simp; exact hS'.1) | (go_simp; exact hS'.2)
    simp only [List.setIfInBounds_toArray, List.set_cons_zero, List.set_cons_succ]
    refine nany_take 8 21 (.int .i64 n) rfl rfl (by kernel_rfl) (by kernel_rfl) (by kernel_rfl) (fun _ _ _ h => h) (Or.inl ⟨by rfl, ?_⟩) hS ?_
    · rintro w' hS'
      first | go_simp | (go_simp; exact hS'.1) | (go_simp; exact hS'.2)
    simp only [List.setIfInBounds_toArray, List.set_cons_zero, List.set_cons_succ]
    refine nany_one 9 (by kernel_rfl) ?_
    refine nop_callE 22 (f := 77) (args := #[.slice a ln c, .int .i64 k, .int .i64 n]) (R := fun v w' => v = .tuple #[.int .u64 0, .int .i64 11] ∧ w' = v0) rfl (by rfl) rfl (by go_simp) ((HBE.out v0 HB0.out).mono (fun e w' h => ⟨_, h.1, rfl, h.2⟩)) ?_
    rintro v v5 ⟨rfl, hv5⟩
    subst hv5
    refine ⟨hS, ?_⟩
    simp only [List.setIfInBounds_toArray, List.set_cons_zero, List.set_cons_succ]
    refine nany_take 10 12 (.tuple #[.int .u64 0, .int .i64 11]) rfl rfl (by kernel_rfl) (by kernel_rfl) (by kernel_rfl) (fun _ _ _ h => h) (Or.inl ⟨by rfl, ?_⟩) hS ?_
    · rintro w' hS'
      first | go_simp | (go_simp; exact hS'.1) | (go_simp; exact hS'.2)
    simp only [List.setIfInBounds_toArray, List.set_cons_zero, List.set_cons_succ]
    refine nany_take 11 23 (.int .u64 0) rfl rfl (by kernel_rfl) (by kernel_rfl) (by kernel_rfl) (fun _ _ _ h => h) (Or.inl ⟨by rfl, ?_⟩) hS ?_
    · rintro w' hS'
      first | go_simp | (go_simp; exact hS'.1) | (go_simp; exact hS'.2)
    simp only [List.setIfInBounds_toArray, List.set_cons_zero, List.set_cons_succ]
    refine nany_take 12 24 (.int .i64 11) rfl rfl (by kernel_rfl) (by kernel_rfl) (by kernel_rfl) (fun _ _ _ h => h) (Or.inl ⟨by rfl, ?_⟩) hS ?_
    · rintro w' hS'
      first | go_simp | (go_simp; exact hS'.1) | (go_simp; exact hS'.2)
    simp only [List.setIfInBounds_toArray, List.set_cons_zero, List.set_cons_succ]
    refine nany_take 13 5 (.int .u64 0) rfl rfl (by kernel_rfl) (by kernel_rfl) (by kernel_rfl) (fun _ _ _ h => h) (Or.inl ⟨by rfl, ?_⟩) hS ?_
    · rintro w' hS'
      first | go_simp | (go_simp; exact hS'.1) | (go_simp; exact hS'.2)
    simp only [List.setIfInBounds_toArray, List.set_cons_zero, List.set_cons_succ]
    refine nany_take 14 6 (.int .i64 11) rfl rfl (by kernel_rfl) (by kernel_rfl) (by kernel_rfl) (fun _ _ _ h => h) (Or.inl ⟨by rfl, ?_⟩) hS ?_
    · rintro w' hS'
      first | go_simp | (go_simp; exact hS'.1) | (go_simp; exact hS'.2)
    simp only [List.setIfInBounds_toArray, List.set_cons_zero, List.set_cons_succ]
    refine wpAnyH_done (by kernel_rfl) ?_ _
    clear hS
    have hb5 := (HB0.out.block p (Array.getElem?_eq_some_iff.1 H1.out).1).trans H1.out
    have d2 := cell_of hb5 (i := 2) (v := .int .i64 0) rfl
    have f2 := froz_of hb5 2
    have h6 := setc hb5 2 (.int .i64 11)
    have M6 := hid ((Mods.of_below (al := fun b => b = p) HB0.out).setCell p 2 (.int .i64 11) rfl)
    have H6 := hid h6
    clear hb5 h6
    go_wp2
    go_ret
    refine ⟨rfl, HH.out.turn (by rw [HLN.out]; exact HC.out) HB.out M6.out rfl HH.out.hk ?_, M6.out⟩
    have h7 := H6.out
    simp only [HLN.out]
    simpa using h7
  | some y =>
    simp only [Option.getD_some, Option.isSome_some, if_true] at hV hE
    subst hV hE
    have q1 : ansR ⟨l, k, 0⟩ (nO (some y) k n) = ⟨l, k + n, 0⟩ := by simp [ansR, nO]
    have q2 : ansV ⟨l, k, 0⟩ 0 (nO (some y) k n) = y := by simp [ansV, nO]
    simp only [q1, q2]
    clear q1 q2
    go_enter Tryz.func61, Tryz.ntmps61
    go_upto_region 3 with fail
    try simp only [Act.put]
    refine wp_region_held_drew (S := (fun w' => w'.cell? ⟨p, 0, none⟩ = some (.slice a ln c) ∧ w'.cell? ⟨p, 1, none⟩ = some (.int .i64 k))) (by kernel_rfl) ⟨c0, c1⟩ (fun hS => ?_)
    obtain ⟨v0, hv0⟩ : ∃ W, W = w.drew := ⟨_, rfl⟩
    rw [← hv0] at hS ⊢
    have HB0 := hid (show Below w.heap.size w v0 by rw [hv0]; exact (Below.refl _ _).drew)
    clear hv0 c0 c1 c2
    refine nany_take 0 13 (.pointer (some ⟨p, 0, none⟩)) rfl rfl (by kernel_rfl) (by kernel_rfl) (by kernel_rfl) (fun _ _ _ h => h) (Or.inl ⟨by rfl, ?_⟩) hS ?_
    · rintro w' hS'
      first | go_simp | (go_simp; exact hS'.1) | (go_simp; exact hS'.2)
    simp only [List.setIfInBounds_toArray, List.set_cons_zero, List.set_cons_succ]
    refine nany_take 1 14 (.pointer (some ⟨p, 0, none⟩)) rfl rfl (by kernel_rfl) (by kernel_rfl) (by kernel_rfl) (fun _ _ _ h => h) (Or.inl ⟨by rfl, ?_⟩) hS ?_
    · rintro w' hS'
      first | go_simp | (go_simp; exact hS'.1) | (go_simp; exact hS'.2)
    simp only [List.setIfInBounds_toArray, List.set_cons_zero, List.set_cons_succ]
    refine nany_take 2 15 (.pointer (some ⟨p, 0, none⟩)) rfl rfl (by kernel_rfl) (by kernel_rfl) (by kernel_rfl) (fun _ _ _ h => h) (Or.inl ⟨by rfl, ?_⟩) hS ?_
    · rintro w' hS'
      first | go_simp | (go_simp; exact hS'.1) | (go_simp; exact hS'.2)
    simp only [List.setIfInBounds_toArray, List.set_cons_zero, List.set_cons_succ]
    refine nany_take 3 16 (.slice a ln c) rfl rfl (by kernel_rfl) (by kernel_rfl) (by kernel_rfl) (fun _ _ _ h => h) (Or.inl ⟨by rfl, ?_⟩) hS ?_
    · rintro w' hS'
      first | go_simp | (go_simp; exact hS'.1) | (go_simp; exact hS'.2)
    simp only [List.setIfInBounds_toArray, List.set_cons_zero, List.set_cons_succ]
    refine nany_take 4 17 (.pointer (some ⟨p, 0, none⟩)) rfl rfl (by kernel_rfl) (by kernel_rfl) (by kernel_rfl) (fun _ _ _ h => h) (Or.inl ⟨by rfl, ?_⟩) hS ?_
    · rintro w' hS'
      first | go_simp | (go_simp; exact hS'.1) | (go_simp; exact hS'.2)
    simp only [List.setIfInBounds_toArray, List.set_cons_zero, List.set_cons_succ]
    refine nany_take 5 18 (.pointer (some ⟨p, 0, none⟩)) rfl rfl (by kernel_rfl) (by kernel_rfl) (by kernel_rfl) (fun _ _ _ h => h) (Or.inl ⟨by rfl, ?_⟩) hS ?_
    · rintro w' hS'
      first | go_simp | (go_simp; exact hS'.1) | (go_simp; exact hS'.2)
    simp only [List.setIfInBounds_toArray, List.set_cons_zero, List.set_cons_succ]
    refine nany_take 6 19 (.pointer (some ⟨p, 1, none⟩)) rfl rfl (by kernel_rfl) (by kernel_rfl) (by kernel_rfl) (fun _ _ _ h => h) (Or.inl ⟨by rfl, ?_⟩) hS ?_
    · rintro w' hS'
      first | go_simp | (go_simp; exact hS'.1) | (go_simp; exact hS'.2)
    simp only [List.setIfInBounds_toArray, List.set_cons_zero, List.set_cons_succ]
    refine nany_take 7 20 (.int .i64 k) rfl rfl (by kernel_rfl) (by kernel_rfl) (by kernel_rfl) (fun _ _ _ h => h) (Or.inl ⟨by rfl, ?_⟩) hS ?_
    · rintro w' hS'
      first | go_simp | (go_simp; exact hS'.1) | (go_simp; exact hS'.2)
    simp only [List.setIfInBounds_toArray, List.set_cons_zero, List.set_cons_succ]
    refine nany_take 8 21 (.int .i64 n) rfl rfl (by kernel_rfl) (by kernel_rfl) (by kernel_rfl) (fun _ _ _ h => h) (Or.inl ⟨by rfl, ?_⟩) hS ?_
    · rintro w' hS'
      first | go_simp | (go_simp; exact hS'.1) | (go_simp; exact hS'.2)
    simp only [List.setIfInBounds_toArray, List.set_cons_zero, List.set_cons_succ]
    refine nany_one 9 (by kernel_rfl) ?_
    refine nop_callE 22 (f := 77) (args := #[.slice a ln c, .int .i64 k, .int .i64 n]) (R := fun v w' => v = .tuple #[.int .u64 y, .int .i64 0] ∧ w' = v0) rfl (by rfl) rfl (by go_simp) ((HBE.out v0 HB0.out).mono (fun e w' h => ⟨_, h.1, rfl, h.2⟩)) ?_
    rintro v v5 ⟨rfl, hv5⟩
    subst hv5
    refine ⟨hS, ?_⟩
    simp only [List.setIfInBounds_toArray, List.set_cons_zero, List.set_cons_succ]
    refine nany_take 10 12 (.tuple #[.int .u64 y, .int .i64 0]) rfl rfl (by kernel_rfl) (by kernel_rfl) (by kernel_rfl) (fun _ _ _ h => h) (Or.inl ⟨by rfl, ?_⟩) hS ?_
    · rintro w' hS'
      first | go_simp | (go_simp; exact hS'.1) | (go_simp; exact hS'.2)
    simp only [List.setIfInBounds_toArray, List.set_cons_zero, List.set_cons_succ]
    refine nany_take 11 23 (.int .u64 y) rfl rfl (by kernel_rfl) (by kernel_rfl) (by kernel_rfl) (fun _ _ _ h => h) (Or.inl ⟨by rfl, ?_⟩) hS ?_
    · rintro w' hS'
      first | go_simp | (go_simp; exact hS'.1) | (go_simp; exact hS'.2)
    simp only [List.setIfInBounds_toArray, List.set_cons_zero, List.set_cons_succ]
    refine nany_take 12 24 (.int .i64 0) rfl rfl (by kernel_rfl) (by kernel_rfl) (by kernel_rfl) (fun _ _ _ h => h) (Or.inl ⟨by rfl, ?_⟩) hS ?_
    · rintro w' hS'
      first | go_simp | (go_simp; exact hS'.1) | (go_simp; exact hS'.2)
    simp only [List.setIfInBounds_toArray, List.set_cons_zero, List.set_cons_succ]
    refine nany_take 13 5 (.int .u64 y) rfl rfl (by kernel_rfl) (by kernel_rfl) (by kernel_rfl) (fun _ _ _ h => h) (Or.inl ⟨by rfl, ?_⟩) hS ?_
    · rintro w' hS'
      first | go_simp | (go_simp; exact hS'.1) | (go_simp; exact hS'.2)
    simp only [List.setIfInBounds_toArray, List.set_cons_zero, List.set_cons_succ]
    refine nany_take 14 6 (.int .i64 0) rfl rfl (by kernel_rfl) (by kernel_rfl) (by kernel_rfl) (fun _ _ _ h => h) (Or.inl ⟨by rfl, ?_⟩) hS ?_
    · rintro w' hS'
      first | go_simp | (go_simp; exact hS'.1) | (go_simp; exact hS'.2)
    simp only [List.setIfInBounds_toArray, List.set_cons_zero, List.set_cons_succ]
    refine wpAnyH_done (by kernel_rfl) ?_ _
    clear hS
    have hb5 := (HB0.out.block p (Array.getElem?_eq_some_iff.1 H1.out).1).trans H1.out
    have d1 := cell_of hb5 (i := 1) (v := .int .i64 k) rfl
    have f1 := froz_of hb5 1
    have h6 := setc hb5 1 (.int .i64 ((k : Int) + n))
    have M6 := hid ((Mods.of_below (al := fun b => b = p) HB0.out).setCell p 1 (.int .i64 ((k : Int) + n)) rfl)
    have H6 := hid h6
    clear hb5 h6
    go_wp2
    go_ret
    refine ⟨rfl, HH.out.turn (by rw [HLN.out]; exact HC.out) HB.out M6.out rfl (HIN.out rfl) ?_, M6.out⟩
    have h7 := H6.out
    simp only [HLN.out]
    simpa using h7
section
variable {w : World} {X : Nat → Prop} {p : Nat} {r : Rd}
theorem ansV_bd (r : Rd) (n : Nat) (hI : ∀ x ∈ r.l, IsB x) : 0 ≤ ansV r 0 (nP r.l r.k n) ∧ ansV r 0 (nP r.l r.k n) < 256 ^ n := by
  have hp : (0 : Int) < 256 ^ n := Int.pow_pos (by omega)
  unfold ansV nP nO
  cases hq : numQ r.l r.k n with
  | none => by_cases h : r.e = 0 <;> simp [h, hp]
  | some v =>
    have := numQ_bd hq hI
    by_cases h : r.e = 0
    · simp [h, this]
    · simp [h, hp]
theorem RX.isB {T : TypeId} (h : RX w T X p r) : ∀ x ∈ r.l, IsB x := let ⟨_, _, _, _, h3⟩ := h.box; (h3 w (Mods.refl _ _)).isB
theorem dU32_any (h : RX w 74 X p r) : Calls Tryz.prog 32 #[.pointer (some ⟨p, 0, none⟩)] w fun e w' => e = .returned (.int .u32 (ansV r 0 (u32P r.l r.k))) ∧ RX w' 74 X p (ansR r (u32P r.l r.k)) ∧ Mods (fun b => b = p) w w' := by
  have HC := hid (dnumber_any h 4 (.inl rfl) 4 rfl)
  have hbd := ansV_bd r 4 h.isB
  rw [nP4] at HC hbd
  generalize u32P r.l r.k = R at *
  generalize ansV r 0 R = V at *
  have hw32 : IntKind.u32.wrap V = V := IntWalk.u32_in _ (by omega)
  clear h hbd
  go_enter Tryz.func32, Tryz.ntmps32
  go_wp2_with (go_at_call 61; refine HC.out.mono ?_; rintro e w2 ⟨rfl, hx, hm⟩; have HX := hid hx; have HM := hid hm; clear hx hm)
  go_ret
  exact ⟨rfl, HX.out, HM.out⟩
/-- fail: a place and an error are set. -/
theorem dfail_any (h : RX w 74 X p r) (k2 : Nat) (hk2 : k2 ≤ r.l.length) (e2 : Int) (K : Int) (hK : K = k2) :
    Calls Tryz.prog 62 #[.pointer (some ⟨p, 0, none⟩), .int .i64 K, .int .i64 e2] w fun e w' => e = .returned (.tuple #[]) ∧ RX w' 74 X p ⟨r.l, k2, e2⟩ ∧ Mods (fun b => b = p) w w' := by
  subst hK
  obtain ⟨a, c, h1, hc, hb⟩ := h.box
  have c1 := cell_of h1 (i := 1) (v := .int .i64 r.k) rfl
  have f1 := froz_of h1 1
  have c2 := cell_of h1 (i := 2) (v := .int .i64 r.e) rfl
  have f2 := froz_of h1 2
  have h4 := setc (setc h1 1 (.int .i64 k2)) 2 (.int .i64 e2)
  have HM := hid (((Mods.refl (fun b => b = p) w).setCell p 1 (.int .i64 k2) rfl).setCell p 2 (.int .i64 e2) rfl)
  have H4 := hid h4
  have HH := hid h
  have HC := hid hc
  have HB := hid hb
  have HK := hid hk2
  clear h h1 h4 hc hb hk2
  go_enter Tryz.func62, Tryz.ntmps62
  go_wp2
  go_end0
  refine ⟨rfl, HH.out.turn HC.out HB.out HM.out rfl HK.out ?_, HM.out⟩
  have h9 := H4.out
  simpa using h9
end
end Go.Proofs.YtgeecahpfjllgaaGreatDoor
