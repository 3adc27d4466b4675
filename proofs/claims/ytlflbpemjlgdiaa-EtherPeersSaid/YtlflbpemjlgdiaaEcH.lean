/- Write. -/
import Derived.Test.YtlflbpemjlgdiaaEcG
namespace Go.Proofs.Ytlflbpemjlgdiaa
open Go.RowKit Go.Maps
set_option linter.unusedVariables false

/-- The bytes of a frame. -/
def frL (m1 m2 : Mac) (k : Int) (body : List Int) : List Int := m1.l ++ m2.l ++ bytesBe 2 k ++ body
theorem fr_flat (m1 m2 : Mac) (k : Int) (body : List Int) : [m1.l, m2.l, bytesBe 2 k, body].flatten = frL m1 m2 k body := by simp [frL]
theorem frL_len (m1 m2 : Mac) (k : Int) (body : List Int) : (frL m1 m2 k body).length = 14 + body.length := by simp [frL, len_be, Mac.len]; omega
theorem rows4 (w : World) (a1 a2 a3 a4 : Option Addr) (n1 n2 n3 n4 c1 c2 c3 c4 : Nat) (l1 l2 l3 l4 : List Int) (e1 : l1.length = n1) (e2 : l2.length = n2) (e3 : l3.length = n3) (e4 : l4.length = n4) (h1 : Bytes w a1 l1) (h2 : Bytes w a2 l2) (h3 : Bytes w a3 l3) (h4 : Bytes w a4 l4) :
    RowsOf (w.alloc (.cells #[.slice a1 n1 c1, .slice a2 n2 c2, .slice a3 n3 c3, .slice a4 n4 c4] 22)) (some ⟨w.heap.size, 0, none⟩) [l1, l2, l3, l4] := by
  subst e1 e2 e3 e4
  have hb : Below w.heap.size w (w.alloc (.cells #[.slice a1 l1.length c1, .slice a2 l2.length c2, .slice a3 l3.length c3, .slice a4 l4.length c4] 22)) := (Below.refl _ _).alloc (Nat.le_refl _) _
  intro i hi
  simp at hi
  rcases (show i = 0 ∨ i = 1 ∨ i = 2 ∨ i = 3 by omega) with rfl | rfl | rfl | rfl
  · exact ⟨_, 0, a1, c1, rfl, by rw [Nat.zero_add, new_cell _ _ _ _ 0 (by simp)]; rfl, h1.later hb⟩
  · exact ⟨_, 0, a2, c2, rfl, by rw [Nat.zero_add, new_cell _ _ _ _ 1 (by simp)]; rfl, h2.later hb⟩
  · exact ⟨_, 0, a3, c3, rfl, by rw [Nat.zero_add, new_cell _ _ _ _ 2 (by simp)]; rfl, h3.later hb⟩
  · exact ⟨_, 0, a4, c4, rfl, by rw [Nat.zero_add, new_cell _ _ _ _ 3 (by simp)]; rfl, h4.later hb⟩
set_option maxRecDepth 100000 in
set_option maxHeartbeats 1000000 in
theorem Write_arg (w : World) (m1 m2 : Mac) (k : Int) (ab : Option Addr) (nb cb : Nat) (hk : -9223372036854775808 ≤ k ∧ k ≤ 9223372036854775807) (hbad : k < 0 ∨ 65535 < k) :
    Calls Try.prog 10 #[.agg (frC m1 m2 k (.slice ab nb cb))] w fun e w' => e = .returned (.tuple #[.slice none 0 0, .int .i64 1]) ∧ Below w.heap.size w w' := by
  obtain ⟨kw, hkw⟩ : ∃ kw, IntKind.u64.wrap k = kw := ⟨_, rfl⟩
  have hkb : 65536 ≤ kw ∧ kw < 18446744073709551616 := by rw [← hkw, IntKind.wrap_u64]; omega
  obtain ⟨g, hg⟩ : ∃ g, w.heap.size = g := ⟨_, rfl⟩
  obtain ⟨W1, hW1⟩ : ∃ W, W = w.alloc (.cells (frC m1 m2 k (.slice ab nb cb)) 25) := ⟨_, rfl⟩
  have b1 : Below w.heap.size w W1 := by rw [hW1]; exact below_alloc (Below.refl _ _) (Nat.le_refl _) _
  have h1 : W1.heap[g]? = some (.cells (frC m1 m2 k (.slice ab nb cb)) 25 (0, 0)) := by rw [hW1, ← hg]; exact alloc_new w _
  obtain ⟨g2, hg2⟩ : ∃ g, W1.heap.size = g := ⟨_, rfl⟩
  obtain ⟨W2, hW2⟩ : ∃ W, W = W1.alloc (.cells #[.int .u64 kw] 60) := ⟨_, rfl⟩
  have b12 : Below W1.heap.size W1 W2 := by rw [hW2]; exact (Below.refl _ _).alloc (Nat.le_refl _) _
  have h2 : W2.heap[g]? = some (.cells (frC m1 m2 k (.slice ab nb cb)) 25 (0, 0)) := (b12.block g (Array.getElem?_eq_some_iff.1 h1).1).trans h1
  have c2 : W2.cell? ⟨g2, 0, none⟩ = some (.int .u64 kw) := by rw [hW2, ← hg2]; exact new_cell W1 _ _ _ 0 (by simp)
  have hcK : W1.cell? ⟨g, 12, none⟩ = some (.int .i64 k) := cell_of h1 rfl
  have hB2 := b1.trans (b12.mono b1.size)
  have hWd : Words W2 (some ⟨g2, 0, none⟩) [kw] := fun i hi => by
    obtain rfl : i = 0 := by simp at hi; omega
    exact ⟨g2, 0, rfl, c2, by simp [IsW]; omega⟩
  have HPB := hid (putBe_no none (some ⟨g2, 0, none⟩) 0 1 2 [] [kw] W2 (by simp) hWd (by simp [widB, fitsB, fitB]; omega))
  have HB2 := hid hB2
  clear h1 h2 b1 b12 c2 hB2 hWd hbad hk
  have HW := hW1.symm
  have HV := hW2.symm
  clear hW1 hW2 hkb
  go_enter Try.func10, Try.ntmps10
  go_wp2_with (go_at_call 28; refine HPB.out.mono ?_; rintro e w3 ⟨rfl, rfl⟩)
  go_ret2
  exact ⟨rfl, HB2.out⟩
set_option maxRecDepth 100000 in
set_option maxHeartbeats 1000000 in
theorem Write_size (w : World) (m1 m2 : Mac) (k : Int) (ab : Option Addr) (nb cb : Nat) (hk : 0 ≤ k ∧ k ≤ 65535) (hbig : 1500 < nb) :
    Calls Try.prog 10 #[.agg (frC m1 m2 k (.slice ab nb cb))] w fun e w' => e = .returned (.tuple #[.slice none 0 0, .int .i64 14]) ∧ Below w.heap.size w w' := by
  obtain ⟨kw, hkw⟩ : ∃ kw, kw = k := ⟨_, rfl⟩
  have hwu : IntKind.u64.wrap k = k := IntWalk.u64_in _ (by omega)
  obtain ⟨g, hg⟩ : ∃ g, w.heap.size = g := ⟨_, rfl⟩
  obtain ⟨W1, hW1⟩ : ∃ W, W = w.alloc (.cells (frC m1 m2 k (.slice ab nb cb)) 25) := ⟨_, rfl⟩
  have b1 : Below w.heap.size w W1 := by rw [hW1]; exact below_alloc (Below.refl _ _) (Nat.le_refl _) _
  have h1 : W1.heap[g]? = some (.cells (frC m1 m2 k (.slice ab nb cb)) 25 (0, 0)) := by rw [hW1, ← hg]; exact alloc_new w _
  obtain ⟨g2, hg2⟩ : ∃ g, W1.heap.size = g := ⟨_, rfl⟩
  obtain ⟨W2, hW2⟩ : ∃ W, W = W1.alloc (.cells #[.int .u64 kw] 60) := ⟨_, rfl⟩
  have b12 : Below W1.heap.size W1 W2 := by rw [hW2]; exact (Below.refl _ _).alloc (Nat.le_refl _) _
  have h2 : W2.heap[g]? = some (.cells (frC m1 m2 k (.slice ab nb cb)) 25 (0, 0)) := (b12.block g (Array.getElem?_eq_some_iff.1 h1).1).trans h1
  have c2 : W2.cell? ⟨g2, 0, none⟩ = some (.int .u64 kw) := by rw [hW2, ← hg2]; exact new_cell W1 _ _ _ 0 (by simp)
  have hcK : W1.cell? ⟨g, 12, none⟩ = some (.int .i64 k) := cell_of h1 rfl
  have hB2 := b1.trans (b12.mono b1.size)
  subst hkw
  have HPB := hid (putBe1 W2 none 0 0 2 g2 1 [] kw rfl (by omega) (.inl rfl) ⟨hk.1, by omega⟩ (Bytes.nil_ _ _) c2)
  have HB2 := hid hB2
  have H2 := hid h2
  have hbi : (1500 : Int) < nb := by omega
  clear h1 h2 b1 b12 c2 hB2 hk
  have HW := hW1.symm
  have HV := hW2.symm
  clear hW1 hW2
  go_enter Try.func10, Try.ntmps10
  go_wp2_with (go_at_call 28; refine HPB.out.mono ?_; rintro e w3 ⟨a3, c3, rfl, hy3, hc3, hb3⟩; have HB3 := hid (HB2.out.trans (hb3.mono HB2.out.size)); have hcB := cell_of ((hb3.block g (Array.getElem?_eq_some_iff.1 H2.out).1).trans H2.out) (i := 13) (v := .slice ab nb cb) rfl; clear hy3 hc3 hb3)
  go_ret2
  exact ⟨rfl, HB3.out⟩
set_option maxRecDepth 100000 in
set_option maxHeartbeats 1000000 in
theorem Write_ok (w : World) (m1 m2 : Mac) (k : Int) (ab : Option Addr) (nb cb : Nat) (body : List Int) (hm1 : m1.ok) (hm2 : m2.ok) (hk : 0 ≤ k ∧ k ≤ 65535) (hbl : body.length = nb) (hnb : nb ≤ 1500) (hbb : Bytes w ab body) :
    Calls Try.prog 10 #[.agg (frC m1 m2 k (.slice ab nb cb))] w fun e w' => ∃ a2 c2, e = .returned (.tuple #[.slice a2 (14 + nb) c2, .int .i64 0]) ∧ By w' (New w) a2 (frL m1 m2 k body) ∧ 14 + nb ≤ c2 ∧ Below w.heap.size w w' := by
  obtain ⟨kw, hkw⟩ : ∃ kw, kw = k := ⟨_, rfl⟩
  have hwu : IntKind.u64.wrap k = k := IntWalk.u64_in _ (by omega)
  obtain ⟨g, hg⟩ : ∃ g, w.heap.size = g := ⟨_, rfl⟩
  obtain ⟨W1, hW1⟩ : ∃ W, W = w.alloc (.cells (frC m1 m2 k (.slice ab nb cb)) 25) := ⟨_, rfl⟩
  have b1 : Below w.heap.size w W1 := by rw [hW1]; exact below_alloc (Below.refl _ _) (Nat.le_refl _) _
  have h1 : W1.heap[g]? = some (.cells (frC m1 m2 k (.slice ab nb cb)) 25 (0, 0)) := by rw [hW1, ← hg]; exact alloc_new w _
  obtain ⟨g2, hg2⟩ : ∃ g, W1.heap.size = g := ⟨_, rfl⟩
  obtain ⟨W2, hW2⟩ : ∃ W, W = W1.alloc (.cells #[.int .u64 kw] 60) := ⟨_, rfl⟩
  have b12 : Below W1.heap.size W1 W2 := by rw [hW2]; exact (Below.refl _ _).alloc (Nat.le_refl _) _
  have h2 : W2.heap[g]? = some (.cells (frC m1 m2 k (.slice ab nb cb)) 25 (0, 0)) := (b12.block g (Array.getElem?_eq_some_iff.1 h1).1).trans h1
  have c2 : W2.cell? ⟨g2, 0, none⟩ = some (.int .u64 kw) := by rw [hW2, ← hg2]; exact new_cell W1 _ _ _ 0 (by simp)
  have hcK : W1.cell? ⟨g, 12, none⟩ = some (.int .i64 k) := cell_of h1 rfl
  have hB2 := b1.trans (b12.mono b1.size)
  subst hkw
  obtain ⟨k, rfl⟩ : ∃ k, k = kw := ⟨_, rfl⟩
  have HPB := hid (putBe1 W2 none 0 0 2 g2 1 [] k rfl (by omega) (.inl rfl) ⟨hk.1, by omega⟩ (Bytes.nil_ _ _) c2)
  have HB2 := hid hB2
  have H2 := hid h2
  have HM1 := hid hm1
  have HM2 := hid hm2
  have HBL := hid hbl
  have HNB := hid hnb
  have HBB0 := hid hbb
  have hbi : ¬ ((1500 : Int) < nb) := by omega
  clear h1 h2 b1 b12 c2 hB2 hk hm1 hm2 hbl hnb hbb
  have HW := hW1.symm
  have HV := hW2.symm
  clear hW1 hW2
  go_enter Try.func10, Try.ntmps10
  go_upto_region 6 with (go_at_call 28; refine HPB.out.mono ?_; rintro e w3 ⟨a3, c3, rfl, hy3, hc3, hb3⟩; have HB3 := hid (HB2.out.trans (hb3.mono HB2.out.size)); have H3 := hid ((hb3.block g (Array.getElem?_eq_some_iff.1 H2.out).1).trans H2.out); have hcB := cell_of H3.out (i := 13) (v := .slice ab nb cb) rfl; have HY3 := hid hy3; clear hy3 hc3 hb3)
  have HBM1 := hid (mac_bytes (w := w3) (b := g) (o := 0) HM1.out (fun i hi => by
    rcases (show i = 0 ∨ i = 1 ∨ i = 2 ∨ i = 3 ∨ i = 4 ∨ i = 5 by omega) with rfl | rfl | rfl | rfl | rfl | rfl <;> exact cell_of H3.out rfl))
  have HBM2 := hid (mac_bytes (w := w3) (b := g) (o := 6) HM2.out (fun i hi => by
    rcases (show i = 0 ∨ i = 1 ∨ i = 2 ∨ i = 3 ∨ i = 4 ∨ i = 5 by omega) with rfl | rfl | rfl | rfl | rfl | rfl <;> exact cell_of H3.out rfl))
  have HBB := hid (HBB0.out.later HB3.out)
  refine wp_region_held_drew (S := fun W => W.heap[g]? = some (.cells (frC m1 m2 k (.slice ab nb cb)) 25 (0, 0))) (by kernel_rfl) H3.out (fun hS => ?_)
  refine nany_take 0 20 (.pointer (some ⟨g, 0, none⟩)) rfl rfl (by kernel_rfl) (by kernel_rfl) (by kernel_rfl) (fun _ _ _ h => h) (Or.inl ⟨by rfl, ?_⟩) hS ?_
  · rintro w' hS'
    go_simp
  simp only [List.setIfInBounds_toArray, List.set_cons_zero, List.set_cons_succ]
  refine nany_take 1 21 (.slice (some ⟨g, 0, none⟩) 6 6) rfl rfl (by kernel_rfl) (by kernel_rfl) (by kernel_rfl) (fun _ _ _ h => h) (Or.inl ⟨by rfl, ?_⟩) hS ?_
  · rintro w' hS'
    go_simp
  simp only [List.setIfInBounds_toArray, List.set_cons_zero, List.set_cons_succ]
  refine nany_take 2 22 (.pointer (some ⟨g, 6, none⟩)) rfl rfl (by kernel_rfl) (by kernel_rfl) (by kernel_rfl) (fun _ _ _ h => h) (Or.inl ⟨by rfl, ?_⟩) hS ?_
  · rintro w' hS'
    go_simp
  simp only [List.setIfInBounds_toArray, List.set_cons_zero, List.set_cons_succ]
  refine nany_take 3 23 (.slice (some ⟨g, 6, none⟩) 6 6) rfl rfl (by kernel_rfl) (by kernel_rfl) (by kernel_rfl) (fun _ _ _ h => h) (Or.inl ⟨by rfl, ?_⟩) hS ?_
  · rintro w' hS'
    go_simp
  simp only [List.setIfInBounds_toArray, List.set_cons_zero, List.set_cons_succ]
  refine nany_take 4 24 (.slice a3 2 c3) rfl rfl (by kernel_rfl) (by kernel_rfl) (by kernel_rfl) (fun _ _ _ h => h) (Or.inl ⟨by rfl, ?_⟩) hS ?_
  · rintro w' hS'
    go_simp
  simp only [List.setIfInBounds_toArray, List.set_cons_zero, List.set_cons_succ]
  refine nany_take 5 25 (.pointer (some ⟨g, 13, none⟩)) rfl rfl (by kernel_rfl) (by kernel_rfl) (by kernel_rfl) (fun _ _ _ h => h) (Or.inl ⟨by rfl, ?_⟩) hS ?_
  · rintro w' hS'
    go_simp
  simp only [List.setIfInBounds_toArray, List.set_cons_zero, List.set_cons_succ]
  refine nany_take 6 26 (.slice ab nb cb) rfl rfl (by kernel_rfl) (by kernel_rfl) (by kernel_rfl) (fun _ _ _ h => h) (Or.inl ⟨by rfl, ?_⟩) hS ?_
  · rintro w' hS'
    have hc0 := cell_of hS' (i := 13) (v := .slice ab nb cb) rfl; go_simp
  simp only [List.setIfInBounds_toArray, List.set_cons_zero, List.set_cons_succ]
  obtain ⟨W4, hW4⟩ : ∃ W, W = w3.drew.alloc (.cells #[.slice (some ⟨g, 0, none⟩) 6 6, .slice (some ⟨g, 6, none⟩) 6 6, .slice a3 2 c3, .slice ab nb cb] 22) := ⟨_, rfl⟩
  have b4 : Below w3.heap.size w3 W4 := by rw [hW4]; exact ((Below.refl _ _).drew).alloc (Nat.le_refl _) _
  have hS4 : W4.heap[g]? = _ := (b4.block g (Array.getElem?_eq_some_iff.1 H3.out).1).trans H3.out
  have hrow : RowsOf W4 (some ⟨w3.heap.size, 0, none⟩) [m1.l, m2.l, bytesBe 2 k, body] := by
    rw [hW4]; exact rows4 w3.drew (some ⟨g, 0, none⟩) (some ⟨g, 6, none⟩) a3 ab 6 6 2 nb 6 6 c3 cb _ _ _ _ rfl rfl (len_be _ _) HBL.out HBM1.out HBM2.out HY3.out.bytes HBB.out
  refine nany_one 7 (by kernel_rfl) ?_
  refine nop_value' 27 (v := .slice (some ⟨w3.heap.size, 0, none⟩) 4 4) (w' := W4) rfl (by rfl) rfl (by rw [hW4]; go_simp) ?_
  refine ⟨hS4, ?_⟩
  simp only [List.setIfInBounds_toArray, List.set_cons_zero, List.set_cons_succ]
  refine nany_one 8 (by kernel_rfl) ?_
  refine nop_callE 28 (f := 29) (args := #[.slice (some ⟨w3.heap.size, 0, none⟩) 4 4]) (R := fun v w' => ∃ a2 c2, v = .slice a2 (14 + nb) c2 ∧ By w' (New W4) a2 (frL m1 m2 k body) ∧ 14 + nb ≤ c2 ∧ Below W4.heap.size W4 w') rfl (by rfl) rfl (by go_simp) ((Concat_any W4 (some ⟨w3.heap.size, 0, none⟩) 4 4 (14 + nb) [m1.l, m2.l, bytesBe 2 k, body] rfl (by omega) hrow (by rw [fr_flat, frL_len, HBL.out]) (by omega) (by have := HNB.out; omega)).mono (fun e w' h => by obtain ⟨a2, c2, h1, h2, h3, h4⟩ := h; exact ⟨_, h1, a2, c2, rfl, by rw [← fr_flat]; exact h2, h3, h4⟩)) ?_
  rintro v w5 ⟨a5, c5, rfl, hy5, hc5, hb5⟩
  have hS5 := (hb5.block g (Array.getElem?_eq_some_iff.1 hS4).1).trans hS4
  refine ⟨hS5, ?_⟩
  simp only [List.setIfInBounds_toArray, List.set_cons_zero, List.set_cons_succ]
  refine nany_take 9 2 (.slice a5 (14 + nb) c5) rfl rfl (by kernel_rfl) (by kernel_rfl) (by kernel_rfl) (fun _ _ _ h => h) (Or.inl ⟨by rfl, ?_⟩) hS5 ?_
  · rintro w' hS'
    go_simp
  simp only [List.setIfInBounds_toArray, List.set_cons_zero, List.set_cons_succ]
  refine nany_take 10 3 (.int .i64 0) rfl rfl (by kernel_rfl) (by kernel_rfl) (by kernel_rfl) (fun _ _ _ h => h) (Or.inl ⟨by rfl, ?_⟩) hS5 ?_
  · rintro w' hS'
    go_simp
  simp only [List.setIfInBounds_toArray, List.set_cons_zero, List.set_cons_succ]
  refine wpAnyH_done (by kernel_rfl) ?_ _
  have HY5 := hid hy5
  have HC5 := hid hc5
  have hB4 := HB3.out.trans (b4.mono HB3.out.size)
  have HB5 := hid (hB4.trans (hb5.mono hB4.size))
  have HS4 := hid hB4.size
  clear hy5 hc5 hb5 hB4 b4 hW4 hS hS4 hS5 hrow
  go_wp2
  go_ret2
  exact ⟨a5, c5, rfl, HY5.out.weak (fun x hx _ => Nat.le_trans HS4.out hx), HC5.out, HB5.out⟩
end Go.Proofs.Ytlflbpemjlgdiaa
