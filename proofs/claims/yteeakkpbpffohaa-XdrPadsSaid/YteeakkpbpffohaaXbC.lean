/- What is written, item by item, is the document's bytes: the law's walk. -/
import Derived.Test.YteeakkpbpffohaaXbB
namespace Go.Proofs.Yteeakkpbpffohaa
open Go.RowKit Go.Maps
set_option linter.unusedVariables false

theorem WX.row {w : World} {T : TypeId} {p : Nat} {S : Nat → Prop} {l : List Int} (h : WX w T p S l) : ∃ a c, w.heap[p]? = some (.cells #[.slice a l.length c] T (0, 0)) ∧ Bytes w a l := by
  obtain ⟨v, h1, h2, _⟩ := h.box
  obtain ⟨a, c, rfl⟩ := h2.shape
  refine ⟨a, c, h1, ?_⟩
  by_cases hp : 0 < l.length
  · obtain ⟨b, off, cap, e, _, _, hc, _⟩ := h2.at_ hp
    simp only [Value.slice.injEq, true_and] at e
    obtain ⟨rfl, _⟩ := e
    exact Bytes.mk_ h.isB (fun i hi => by
      have := hc i _ (u8s_get hi)
      exact this)
  · have : l = [] := List.eq_nil_of_length_eq_zero (by omega)
    rw [this]; exact Bytes.nil_ _ _
def itLs (L : List It) : List Int := L.flatMap itL
theorem itLs_snoc (L : List It) (k : Nat) (h : k < L.length) : itLs (L.take (k + 1)) = itLs (L.take k) ++ itL (L.getD k default) := by
  have e : L.getD k default = L[k] := by simp [List.getD, h]
  rw [itLs, e, List.take_succ_eq_append_getElem h, List.flatMap_append]; simp [itLs]
theorem ItR.later {w w' : World} {a : Option Addr} {L : List It} (h : ItR w a L) (hb : Below w.heap.size w w') (i : Nat) (hi : i < L.length) : ∃ b off, a = some ⟨b, off, none⟩ ∧ ∀ j, j < 5 → w'.cell? ⟨b, off + i * 5 + j, none⟩ = (itC (L.getD i default))[j]? := by
  obtain ⟨_, b, off, e, hc⟩ := h i hi
  refine ⟨b, off, e, fun j hj => ?_⟩
  have h1 := hc j hj
  obtain ⟨v, hv⟩ : ∃ v, (itC (L.getD i default))[j]? = some v := by
    rcases (show j = 0 ∨ j = 1 ∨ j = 2 ∨ j = 3 ∨ j = 4 by omega) with rfl | rfl | rfl | rfl | rfl <;> exact ⟨_, rfl⟩
  rw [hv] at h1 ⊢
  exact cell_later hb h1
/-- Both writers begin. -/
theorem TW.begin_ {w0 w1 W2 : World} {p : Nat} (hb1 : Below w0.heap.size w0 w1) (hp : w0.heap.size ≤ p) (hx : WX w1 73 p (fun b => b = p) []) (hW2 : W2 = w1.alloc (.cells #[.slice none 0 0] 42)) : TW w0 W2 p w1.heap.size [] := by
  have b2 : Below w1.heap.size w1 W2 := by rw [hW2]; exact below_alloc (Below.refl _ _) (Nat.le_refl _) _
  refine ⟨⟨_, (fun b => b = w1.heap.size), hx.later b2, ⟨by decide, fun x hx => by simp at hx, ⟨.slice none 0 0, by rw [hW2]; exact alloc_new w1 _, RW.nil _ 5 1, fun b hb => by simp [blkV] at hb⟩, rfl, fun b hb => by rw [hb, hW2]; simp⟩, fun b hb e => ?_, fun b hb => by rw [hb]; exact hp, fun b hb => by rw [hb]; exact hb1.size⟩, hb1.trans (b2.mono hb1.size)⟩
  have h1 := hx.slt p rfl
  have h2 : b = p := hb
  have h3 : b = w1.heap.size := e
  omega
set_option maxRecDepth 100000 in
set_option maxHeartbeats 8000000 in
theorem XdrWrites_walk (w : World) (a : Option Addr) (n cap : Nat) (L : List It) (hn : L.length = n) (hm : n ≤ maxLen) (hR : ItR w a L) :
    Calls Try.prog 4 #[.slice a n cap] w fun e w' => e = .returned (.bool true) ∧ Below w.heap.size w w' := by
  have HK := hid (known_any w)
  have HR := hid hR
  have HN := hid hn
  unfold maxLen at hm
  clear hR hn
  go_enter Try.func4, Try.ntmps4
  go_wp2_with (first
    | (go_at_call 8
       refine HK.out.mono ?_
       rintro e w1 ⟨rfl, hb1⟩
       have HB1 := hid hb1
       have HNW := hid (NewWriter_any w1)
       clear hb1)
    | (go_at_call 15
       refine HNW.out.mono ?_
       rintro e w2 ⟨rfl, hx, hb2⟩
       obtain ⟨W3, hW3⟩ : ∃ W, W = w2.alloc (.cells #[.slice none 0 0] 42) := ⟨_, rfl⟩
       have hT := TW.begin_ (HB1.out.trans (hb2.mono HB1.out.size)) HB1.out.size hx hW3
       have hT2 : ∃ p q, p = w1.heap.size ∧ q = w2.heap.size ∧ TW w W3 p q [] := ⟨_, _, rfl, rfl, hT⟩
       obtain ⟨p, q, hp, hq, hT3⟩ := hT2
       have HT := hid hT3
       have HP := hid hp
       have HQ := hid hq
       rw [← hp]
       have hq' := hq.symm
       have hW3' := hW3.symm
       clear hx hb2 hT hT3 hp hq hW3))
  go_loopw [5] (fun i wr => ∃ k : Nat, k ≤ n ∧ k ≤ 60 ∧ i = .int .i64 k ∧ TW w wr p q (itLs (L.take k)) ∧ (itLs (L.take k)).length ≤ 3010 * k) (fun i _ => 60 - (intOf i).toNat)
  case atStart => exact ⟨0, Nat.zero_le _, Nat.zero_le _, rfl, by simpa [itLs] using HT.out, by simp [itLs]⟩
  case round =>
    obtain ⟨k, hk, hk60, rfl, hT, hlen⟩ := hrel
    by_cases hlt : k < n
    · have hki : (k : Int) < n := by omega
      by_cases hlt2 : k < 60
      · have hki2 : (k : Int) < 60 := by omega
        have hkl : k < L.length := by rw [HN.out]; exact hlt
        obtain ⟨hok, _⟩ := HR.out k hkl
        obtain ⟨b, off, rfl, hc⟩ := HR.out.later hT.bl k hkl
        have HO := hid (itLs_snoc L k hkl)
        obtain ⟨x, hx⟩ : ∃ x, L.getD k default = x := ⟨_, rfl⟩
        rw [hx] at hok hc HO
        have q0 := hc 0 (by omega)
        have q1 := hc 1 (by omega)
        have q2 := hc 2 (by omega)
        have q3 := hc 3 (by omega)
        have q4 := hc 4 (by omega)
        simp only [itC, List.getElem?_toArray, List.getElem?_cons_zero, List.getElem?_cons_succ, Nat.add_zero] at q0 q1 q2 q3 q4
        have hxn := hok.hm
        have HOK := hid hok
        have HT1 := hid hT
        have HLEN := hid hlen
        obtain ⟨xn, hxn2⟩ : ∃ m, x.n = m := ⟨_, rfl⟩
        rw [hxn2] at q4 hxn
        clear hc hT hx hok hlen
        by_cases hbig : xn ≤ 3000
        · have hbi : ¬ ((3000 : Int) < xn) := by omega
          have HW := hid (write_any HT1.out x HOK.out (by rw [hxn2]; exact hbig) (by have := HLEN.out; omega))
          have HIL := hid (itL_len x (by rw [HOK.out.hl, hxn2]; exact hbig))
          have HX2 := hid hxn2
          rw [show itC x = #[.int .i64 x.kd, .int .i64 x.nn, .int .u64 x.v, .bool x.on, .slice x.a xn x.c] by rw [itC, hxn2]] at HW
          clear hxn2
          go_upto_region 13 with (first
            | (go_at_call 16
               refine HW.out.mono ?_
               rintro e w4 ⟨rfl, hT4⟩
               have HT4 := hid hT4
               clear hT4))
          try simp only [Act.put]
          rw [← HO.out] at HT4
          have hl4 : (itLs (L.take (k + 1))).length ≤ 3010 * (k + 1) := by rw [HO.out, List.length_append]; have := HLEN.out; have := HIL.out; omega
          clear q0 q1 q2 q3 q4
          obtain ⟨M, hM⟩ : ∃ M, itLs (L.take (k + 1)) = M := ⟨_, rfl⟩
          rw [hM] at HT4 hl4
          obtain ⟨⟨S1, S2, h1, h2, _, _, _⟩, hbl⟩ := HT4.out
          obtain ⟨m, hm2⟩ : ∃ m, M.length = m := ⟨_, rfl⟩
          have hlm : m ≤ 900000 := by rw [← hm2]; omega
          obtain ⟨a5, c5, h3, h4⟩ := h2.row
          rw [hm2] at h3
          refine wp_region_held_drew (S := fun w' => Below w4.drew.heap.size w4.drew w') (by kernel_rfl) (Below.refl _ _) (fun hS => ?_)
          obtain ⟨v0, hv0⟩ : ∃ W, W = w4.drew := ⟨_, rfl⟩
          rw [← hv0] at hS ⊢
          have b0 : Below w4.heap.size w4 v0 := by rw [hv0]; exact (Below.refl _ _).drew
          have hcell := cell_of ((b0.block q (h2.slt q h2.sp)).trans h3) (i := 0) (v := .slice a5 m c5) rfl
          have hby := h4.later b0
          have hD := Done_any (h1.later b0) m hm2 hlm
          have HT5 := hid (HT4.out.later b0)
          clear h1 h2 h3 h4 hbl hv0 b0
          refine nany_take 0 37 (.pointer (some ⟨p, 0, none⟩)) rfl rfl (by kernel_rfl) (by kernel_rfl) (by kernel_rfl) (fun _ _ _ h => h) (Or.inl ⟨by rfl, ?_⟩) hS ?_
          · rintro w' hS'
            go_simp
          simp only [List.setIfInBounds_toArray, List.set_cons_zero, List.set_cons_succ]
          refine nany_take 3 40 (.pointer (some ⟨q, 0, none⟩)) rfl rfl (by kernel_rfl) (by kernel_rfl) (by kernel_rfl) (fun _ _ _ h => h) (Or.inl ⟨by rfl, ?_⟩) hS ?_
          · rintro w' hS'
            go_simp
          simp only [List.setIfInBounds_toArray, List.set_cons_zero, List.set_cons_succ]
          refine nany_take 4 41 (.pointer (some ⟨q, 0, none⟩)) rfl rfl (by kernel_rfl) (by kernel_rfl) (by kernel_rfl) (fun _ _ _ h => h) (Or.inl ⟨by rfl, ?_⟩) hS ?_
          · rintro w' hS'
            go_simp
          simp only [List.setIfInBounds_toArray, List.set_cons_zero, List.set_cons_succ]
          refine nany_take 5 42 (.pointer (some ⟨q, 0, none⟩)) rfl rfl (by kernel_rfl) (by kernel_rfl) (by kernel_rfl) (fun _ _ _ h => h) (Or.inl ⟨by rfl, ?_⟩) hS ?_
          · rintro w' hS'
            go_simp
          simp only [List.setIfInBounds_toArray, List.set_cons_zero, List.set_cons_succ]
          refine nany_take 6 43 (.slice a5 m c5) rfl rfl (by kernel_rfl) (by kernel_rfl) (by kernel_rfl) (fun _ _ _ h => h) (Or.inl ⟨by rfl, ?_⟩) hS ?_
          · rintro w' hS'
            have hc9 := cell_later hS' hcell
            go_simp
          simp only [List.setIfInBounds_toArray, List.set_cons_zero, List.set_cons_succ]
          refine nany_take 7 44 (.string (strOfNums M)) rfl rfl (by kernel_rfl) (by kernel_rfl) (by kernel_rfl) (fun _ _ _ h => h) (Or.inl ⟨by rfl, ?_⟩) hS ?_
          · rintro w' hS'
            have hc9 := conv0 (hby.later hS') (cap := c5) hm2
            go_simp
          simp only [List.setIfInBounds_toArray, List.set_cons_zero, List.set_cons_succ]
          refine nany_one 1 (by kernel_rfl) ?_
          refine nop_callE 38 (f := 17) (args := #[.pointer (some ⟨p, 0, none⟩)]) (R := fun v w' => ∃ a2 c2, v = .slice a2 m c2 ∧ By w' (New v0) a2 M ∧ m ≤ c2 ∧ Below v0.heap.size v0 w') rfl (by rfl) rfl (by go_simp) (hD.mono (fun e w' h => by obtain ⟨a2, c2, g1, g2⟩ := h; exact ⟨_, g1, a2, c2, rfl, g2⟩)) ?_
          rintro v v6 ⟨a2, c2, rfl, hy6, hc6, hb6⟩
          refine ⟨hb6, ?_⟩
          simp only [List.setIfInBounds_toArray, List.set_cons_zero, List.set_cons_succ]
          have hcv := conv0 hy6.bytes (cap := c2) hm2
          have HT6 := hid (HT5.out.later hb6)
          have HB6 := hid hb6
          refine nany_one 2 (by kernel_rfl) ?_
          refine nop_value' 39 (v := .string (strOfNums M)) (w' := v6) rfl (by rfl) rfl (by go_simp) ?_
          refine ⟨hb6, ?_⟩
          simp only [List.setIfInBounds_toArray, List.set_cons_zero, List.set_cons_succ]
          refine nany_one 8 (by kernel_rfl) ?_
          refine nop_value' 45 (v := .bool false) (w' := v6) rfl (by rfl) rfl (by first | go_simp | (go_simp; done)) ?_
          refine ⟨hb6, ?_⟩
          simp only [List.setIfInBounds_toArray, List.set_cons_zero, List.set_cons_succ]
          refine wpAnyH_done (by kernel_rfl) ?_ _
          clear hcv hy6 hc6 hb6 hcell hby hD hS
          subst hM
          go_wp2
          go_roundw
          case rel => exact ⟨k + 1, by omega, by omega, by go_num, HT6.out, hl4⟩
          case measure => simp [intOf]; omega
        · have hbi : (3000 : Int) < xn := by omega
          have HBL := hid HT1.out.bl
          go_wp2
          go_ret
          exact ⟨rfl, HBL.out⟩
      · have hki2 : ¬ ((k : Int) < 60) := by omega
        have HBL := hid hT.bl
        clear hT
        go_wp2
        go_ret
        exact ⟨rfl, HBL.out⟩
    · have hki : ¬ ((k : Int) < n) := by omega
      have HBL := hid hT.bl
      clear hT
      go_wp2
      go_ret
      exact ⟨rfl, HBL.out⟩
end Go.Proofs.Yteeakkpbpffohaa
