/- The document's Write. -/
import Derived.Test.YtlflbpemjlgdiaaEhB
namespace Go.Proofs.Ytlflbpemjlgdiaa
open Go.RowKit Go.Maps
set_option linter.unusedVariables false

set_option maxRecDepth 100000 in
set_option maxHeartbeats 1000000 in
theorem rWrite_arg (w : World) (m1 m2 : Mac) (k : Int) (ab : Option Addr) (nb cb : Nat) (hbad : k < 0 ∨ 65535 < k) :
    Calls Try.prog 11 #[.agg (frC m1 m2 k (.slice ab nb cb))] w fun e w' => e = .returned (.tuple #[.slice none 0 0, .int .i64 1]) ∧ Below w.heap.size w w' := by
  obtain ⟨g1, hg1⟩ : ∃ g, w.heap.size = g := ⟨_, rfl⟩
  obtain ⟨W1, hW1⟩ : ∃ W, W = w.alloc (.cells (frC m1 m2 k (.slice ab nb cb)) 30) := ⟨_, rfl⟩
  have b1 : Below w.heap.size w W1 := by rw [hW1]; exact below_alloc (Below.refl _ _) (Nat.le_refl _) _
  have h1 : W1.heap[g1]? = some (.cells (frC m1 m2 k (.slice ab nb cb)) 30 (0, 0)) := by rw [hW1, ← hg1]; exact alloc_new w _
  have ck := cell_of h1 (i := 12) (v := .int .i64 k) rfl
  have cbd := cell_of h1 (i := 13) (v := .slice ab nb cb) rfl
  have HB1 := hid b1
  have H1 := hid h1
  have HW := hW1.symm
  clear hW1 b1 h1
  by_cases h0 : k < 0
  · go_enter Try.func11, Try.ntmps11
    go_wp2
    go_ret2
    exact ⟨rfl, by first | exact HB1.out | (have hz := HB1.out; rw [hg1] at hz; exact hz)⟩
  · have h2 : 65535 < k := by omega
    go_enter Try.func11, Try.ntmps11
    go_wp2
    go_ret2
    exact ⟨rfl, by first | exact HB1.out | (have hz := HB1.out; rw [hg1] at hz; exact hz)⟩
set_option maxRecDepth 100000 in
set_option maxHeartbeats 1000000 in
theorem rWrite_size (w : World) (m1 m2 : Mac) (k : Int) (ab : Option Addr) (nb cb : Nat) (hk : 0 ≤ k ∧ k ≤ 65535) (hbig : 1500 < nb) :
    Calls Try.prog 11 #[.agg (frC m1 m2 k (.slice ab nb cb))] w fun e w' => e = .returned (.tuple #[.slice none 0 0, .int .i64 14]) ∧ Below w.heap.size w w' := by
  obtain ⟨g1, hg1⟩ : ∃ g, w.heap.size = g := ⟨_, rfl⟩
  obtain ⟨W1, hW1⟩ : ∃ W, W = w.alloc (.cells (frC m1 m2 k (.slice ab nb cb)) 30) := ⟨_, rfl⟩
  have b1 : Below w.heap.size w W1 := by rw [hW1]; exact below_alloc (Below.refl _ _) (Nat.le_refl _) _
  have h1 : W1.heap[g1]? = some (.cells (frC m1 m2 k (.slice ab nb cb)) 30 (0, 0)) := by rw [hW1, ← hg1]; exact alloc_new w _
  have ck := cell_of h1 (i := 12) (v := .int .i64 k) rfl
  have cbd := cell_of h1 (i := 13) (v := .slice ab nb cb) rfl
  have HB1 := hid b1
  have H1 := hid h1
  have HW := hW1.symm
  have h0 : ¬ (k < 0) := by omega
  have h2 : ¬ (65535 < k) := by omega
  have hbi : (1500 : Int) < nb := by omega
  clear hW1 b1 h1 hk
  go_enter Try.func11, Try.ntmps11
  go_wp2
  go_ret2
  exact ⟨rfl, by first | exact HB1.out | (have hz := HB1.out; rw [hg1] at hz; exact hz)⟩
set_option maxRecDepth 100000 in
set_option maxHeartbeats 1000000 in
theorem rWrite_ok (w : World) (m1 m2 : Mac) (k : Int) (ab : Option Addr) (nb cb : Nat) (body : List Int) (hm1 : m1.ok) (hm2 : m2.ok) (hk : 0 ≤ k ∧ k ≤ 65535) (hbl : body.length = nb) (hnb : nb ≤ 1500) (hbb : Bytes w ab body) :
    Calls Try.prog 11 #[.agg (frC m1 m2 k (.slice ab nb cb))] w fun e w' => ∃ a2 c2, e = .returned (.tuple #[.slice a2 (14 + nb) c2, .int .i64 0]) ∧ By w' (New w) a2 (frL m1 m2 k body) ∧ 14 + nb ≤ c2 ∧ Below w.heap.size w w' := by
  obtain ⟨g1, hg1⟩ : ∃ g, w.heap.size = g := ⟨_, rfl⟩
  obtain ⟨W1, hW1⟩ : ∃ W, W = w.alloc (.cells (frC m1 m2 k (.slice ab nb cb)) 30) := ⟨_, rfl⟩
  have b1 : Below w.heap.size w W1 := by rw [hW1]; exact below_alloc (Below.refl _ _) (Nat.le_refl _) _
  have h1 : W1.heap[g1]? = some (.cells (frC m1 m2 k (.slice ab nb cb)) 30 (0, 0)) := by rw [hW1, ← hg1]; exact alloc_new w _
  have ck := cell_of h1 (i := 12) (v := .int .i64 k) rfl
  have cbd := cell_of h1 (i := 13) (v := .slice ab nb cb) rfl
  have HB1 := hid b1
  have H1 := hid h1
  have HW := hW1.symm
  have h0 : ¬ (k < 0) := by omega
  have h2 : ¬ (65535 < k) := by omega
  have hbi : ¬ ((1500 : Int) < nb) := by omega
  have hwu : IntKind.u64.wrap k = k := IntWalk.u64_in _ (by omega)
  have HKB := hid hk
  have HM1 := hid hm1
  have HM2 := hid hm2
  have HBL := hid hbl
  have HNB := hid hnb
  have HBB := hid hbb
  clear hW1 b1 h1 hk hm1 hm2 hbl hnb hbb
  go_enter Try.func11, Try.ntmps11
  go_upto_region 5 with fail
  refine wp_region_held_drew (S := fun W => W.heap[g1]? = some (.cells (frC m1 m2 k (.slice ab nb cb)) 30 (0, 0))) (by kernel_rfl) H1.out (fun hS => ?_)
  refine nany_take 0 17 (.pointer (some ⟨g1, 0, none⟩)) rfl rfl (by kernel_rfl) (by kernel_rfl) (by kernel_rfl) (fun _ _ _ h => h) (Or.inl ⟨by rfl, ?_⟩) hS ?_
  · rintro w' hS'
    go_simp
  simp only [List.setIfInBounds_toArray, List.set_cons_zero, List.set_cons_succ]
  refine nany_take 1 18 (.agg (macC m1)) rfl rfl (by kernel_rfl) (by kernel_rfl) (by kernel_rfl) (fun _ _ _ h => h) (Or.inl ⟨by rfl, ?_⟩) hS ?_
  · rintro w' hS'
    exact ex_mid 23 _ rfl g1 0 rfl [.int .u8 m1.a, .int .u8 m1.b, .int .u8 m1.c, .int .u8 m1.d, .int .u8 m1.e, .int .u8 m1.f] (rng hS' 0 _ (range6 rfl rfl rfl rfl rfl rfl)) _ Try.underlying23 rfl size6
  simp only [List.setIfInBounds_toArray, List.set_cons_zero, List.set_cons_succ]
  refine nany_take 3 20 (.pointer (some ⟨g1, 6, none⟩)) rfl rfl (by kernel_rfl) (by kernel_rfl) (by kernel_rfl) (fun _ _ _ h => h) (Or.inl ⟨by rfl, ?_⟩) hS ?_
  · rintro w' hS'
    go_simp
  simp only [List.setIfInBounds_toArray, List.set_cons_zero, List.set_cons_succ]
  refine nany_take 4 21 (.agg (macC m2)) rfl rfl (by kernel_rfl) (by kernel_rfl) (by kernel_rfl) (fun _ _ _ h => h) (Or.inl ⟨by rfl, ?_⟩) hS ?_
  · rintro w' hS'
    exact ex_mid 23 _ rfl g1 6 rfl [.int .u8 m2.a, .int .u8 m2.b, .int .u8 m2.c, .int .u8 m2.d, .int .u8 m2.e, .int .u8 m2.f] (rng hS' 6 _ (range6 rfl rfl rfl rfl rfl rfl)) _ Try.underlying23 rfl size6
  simp only [List.setIfInBounds_toArray, List.set_cons_zero, List.set_cons_succ]
  refine nany_take 6 23 (.pointer (some ⟨g1, 12, none⟩)) rfl rfl (by kernel_rfl) (by kernel_rfl) (by kernel_rfl) (fun _ _ _ h => h) (Or.inl ⟨by rfl, ?_⟩) hS ?_
  · rintro w' hS'
    go_simp
  simp only [List.setIfInBounds_toArray, List.set_cons_zero, List.set_cons_succ]
  refine nany_take 7 24 (.int .i64 k) rfl rfl (by kernel_rfl) (by kernel_rfl) (by kernel_rfl) (fun _ _ _ h => h) (Or.inl ⟨by rfl, ?_⟩) hS ?_
  · rintro w' hS'
    have hc := cell_of hS' (i := 12) (v := .int .i64 k) rfl; go_simp
  simp only [List.setIfInBounds_toArray, List.set_cons_zero, List.set_cons_succ]
  refine nany_take 8 25 (.int .u64 k) rfl rfl (by kernel_rfl) (by kernel_rfl) (by kernel_rfl) (fun _ _ _ h => h) (Or.inl ⟨by rfl, ?_⟩) hS ?_
  · rintro w' hS'
    go_simp
  simp only [List.setIfInBounds_toArray, List.set_cons_zero, List.set_cons_succ]
  refine nany_one 2 (by kernel_rfl) ?_
  refine nop_callE 19 (f := 31) (args := #[.slice none 0 0, .agg (macC m1)]) (R := fun v w' => ∃ a2 c2, v = .slice a2 6 c2 ∧ GO w' W1.heap.size (.slice a2 6 c2) m1.l ∧ Below W1.heap.size W1.drew w') rfl (by rfl) rfl (by go_simp) ((put_any W1.drew W1.heap.size (.slice none 0 0) [] m1 HM1.out ⟨fun x hx => by simp at hx, .inl ⟨by simp, .inl ⟨rfl, rfl⟩⟩⟩ (Nat.le_refl _) (fun g hg => by simp [Value.ownBlock] at hg) (by simp)).mono (fun e w' h => by obtain ⟨a, c, h1, h2, h3⟩ := h; exact ⟨_, h1, a, c, rfl, h2, h3⟩)) ?_
  rintro v w2 ⟨a2, c2, rfl, hgo2, hb2⟩
  have hx2 : Below W1.heap.size W1 w2 := (((Below.refl _ W1).drew)).trans hb2
  have hS2 := (hx2.block g1 (Array.getElem?_eq_some_iff.1 H1.out).1).trans H1.out
  refine ⟨hS2, ?_⟩
  simp only [List.setIfInBounds_toArray, List.set_cons_zero, List.set_cons_succ]
  refine nany_one 5 (by kernel_rfl) ?_
  refine nop_callE 22 (f := 31) (args := #[.slice a2 6 c2, .agg (macC m2)]) (R := fun v w' => ∃ a3 c3, v = .slice a3 12 c3 ∧ GO w' W1.heap.size (.slice a3 12 c3) (m1.l ++ m2.l) ∧ Below W1.heap.size w2 w') rfl (by rfl) rfl (by go_simp) ((put_any w2 W1.heap.size (.slice a2 6 c2) m1.l m2 HM2.out hgo2.gr hx2.size (fun g hg => (owns_lt hgo2.2 hg).1) (by rw [Mac.len]; omega)).mono (fun e w' h => by obtain ⟨a, c, h1, h2, h3⟩ := h; exact ⟨_, h1, a, c, rfl, h2, h3⟩)) ?_
  rintro v w3 ⟨a3, c3, rfl, hgo3, hb3⟩
  have hx3 : Below W1.heap.size W1 w3 := (hx2).trans hb3
  have hS3 := (hx3.block g1 (Array.getElem?_eq_some_iff.1 H1.out).1).trans H1.out
  refine ⟨hS3, ?_⟩
  simp only [List.setIfInBounds_toArray, List.set_cons_zero, List.set_cons_succ]
  refine nany_one 9 (by kernel_rfl) ?_
  refine nop_callE 26 (f := 30) (args := #[.slice a3 12 c3, .int .i64 2, .int .u64 k]) (R := fun v w' => ∃ a4 c4, v = .slice a4 14 c4 ∧ GO w' W1.heap.size (.slice a4 14 c4) (m1.l ++ m2.l ++ bytesBe 2 k) ∧ Below W1.heap.size w3 w') rfl (by rfl) rfl (by go_simp) ((High_any w3 W1.heap.size (.slice a3 12 c3) (m1.l ++ m2.l) hgo3.gr hx3.size 2 2 k rfl (by omega) HKB.out.1 (by have := HKB.out.2; omega) (by simp [Mac.len])).mono (fun e w' h => by obtain ⟨a, c, h1, h2, h3⟩ := h; exact ⟨_, h1, a, c, rfl, h2, h3⟩)) ?_
  rintro v w4 ⟨a4, c4, rfl, hgo4, hb4⟩
  have hx4 : Below W1.heap.size W1 w4 := (hx3).trans hb4
  have hS4 := (hx4.block g1 (Array.getElem?_eq_some_iff.1 H1.out).1).trans H1.out
  refine ⟨hS4, ?_⟩
  simp only [List.setIfInBounds_toArray, List.set_cons_zero, List.set_cons_succ]
  refine nany_take 10 4 (.slice a4 14 c4) rfl rfl (by kernel_rfl) (by kernel_rfl) (by kernel_rfl) (fun _ _ _ h => h) (Or.inl ⟨by rfl, ?_⟩) hS4 ?_
  · rintro w' hS'
    go_simp
  simp only [List.setIfInBounds_toArray, List.set_cons_zero, List.set_cons_succ]
  refine wpAnyH_done (by kernel_rfl) ?_ _
  obtain ⟨a5, c5, w5, hap, hgo5, hb5⟩ := hgo4.push (by simp [Mac.len, len_be]) hx4.size body ab nb cb HBL.out (HBB.out.later (HB1.out.trans (hx4.mono HB1.out.size))) (by have := HNB.out; omega) 22
  have e5 : m1.l ++ m2.l ++ bytesBe 2 k ++ body = frL m1 m2 k body := rfl
  rw [e5] at hgo5
  obtain ⟨a6, c6, e6, hc6, hy6⟩ := hgo5.by_ (S := New W1) (fun x hx => hx)
  rw [frL_len, HBL.out] at e6 hc6
  simp only [Value.slice.injEq, true_and] at e6
  obtain ⟨rfl, rfl⟩ := e6
  have HY := hid (hy6.weak (S' := New w) (fun x hx _ => Nat.le_trans HB1.out.size hx))
  have HC6 := hid hc6
  have HB5 := hid (HB1.out.trans ((hx4.trans hb5).mono HB1.out.size))
  have cb4 := cell_of hS4 (i := 13) (v := .slice ab nb cb) rfl
  clear hy6 hc6 hgo5 hb5 hgo4 hgo3 hgo2 hb2 hb3 hb4 hx2 hx3 hx4 hS hS2 hS3 hS4 ck cbd e5
  go_wp2_with (at_builtin; refine wpList_append_run rfl _ _ 22 rfl rfl rfl hap ?_)
  go_ret2
  exact ⟨a5, c5, rfl, HY.out, HC6.out, by first | exact HB5.out | (have hz := HB5.out; rw [hg1] at hz; exact hz)⟩
end Go.Proofs.Ytlflbpemjlgdiaa
