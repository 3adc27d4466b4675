/- The document's Ask. -/
import Derived.Test.YtlflbpemjlgdiaaEjD
namespace Go.Proofs.Ytlflbpemjlgdiaa
open Go.RowKit Go.Maps
set_option linter.unusedVariables false

set_option maxRecDepth 100000 in
set_option maxHeartbeats 2000000 in
theorem rAsk_any (w : World) (q : Nat) (T : Nat → Prop) (own : Mac) (ip : Int) (L : List Pe) (x : Int) (h : RPeAt w q T own ip L) (hx : IsU x) :
    Calls Try.prog 20 #[.pointer (some ⟨q, 0, none⟩), .int .u32 x] w fun e w' => ∃ a c, e = .returned (.slice a 42 c) ∧ By w' (New w) a (askL own ip x) ∧ 42 ≤ c ∧ Below w.heap.size w w' := by
  obtain ⟨⟨how, hip, hok, htq⟩, vl, hQ, hPR, hBT⟩ := h
  have HQ := hid hQ
  have HOW := hid how
  have HIP := hid hip
  have HX := hid hx
  clear hQ hPR hBT how hip hok htq hx
  go_enter Try.func20, Try.ntmps20
  go_upto_region 1 with fail
  refine wp_region_held_drew (S := fun W => W.heap[q]? = some (.cells (rpC own ip vl) 47 (0, 0))) (by kernel_rfl) HQ.out (fun hS => ?_)
  refine nany_take 0 8 (.agg (macC ffM)) rfl rfl (by kernel_rfl) (by kernel_rfl) (by kernel_rfl) (fun _ _ _ h => h) (Or.inl ⟨by rfl, ?_⟩) hS ?_
  · rintro w' hS'
    go_simp; exact ⟨rfl, rfl, rfl, rfl, rfl, rfl⟩
  simp only [List.setIfInBounds_toArray, List.set_cons_zero, List.set_cons_succ]
  refine nany_take 1 9 (.pointer (some ⟨q, 0, none⟩)) rfl rfl (by kernel_rfl) (by kernel_rfl) (by kernel_rfl) (fun _ _ _ h => h) (Or.inl ⟨by rfl, ?_⟩) hS ?_
  · rintro w' hS'
    go_simp
  simp only [List.setIfInBounds_toArray, List.set_cons_zero, List.set_cons_succ]
  refine nany_take 2 10 (.pointer (some ⟨q, 0, none⟩)) rfl rfl (by kernel_rfl) (by kernel_rfl) (by kernel_rfl) (fun _ _ _ h => h) (Or.inl ⟨by rfl, ?_⟩) hS ?_
  · rintro w' hS'
    go_simp
  simp only [List.setIfInBounds_toArray, List.set_cons_zero, List.set_cons_succ]
  refine nany_take 3 11 (.pointer (some ⟨q, 0, none⟩)) rfl rfl (by kernel_rfl) (by kernel_rfl) (by kernel_rfl) (fun _ _ _ h => h) (Or.inl ⟨by rfl, ?_⟩) hS ?_
  · rintro w' hS'
    go_simp
  simp only [List.setIfInBounds_toArray, List.set_cons_zero, List.set_cons_succ]
  refine nany_take 4 12 (.agg (macC own)) rfl rfl (by kernel_rfl) (by kernel_rfl) (by kernel_rfl) (fun _ _ _ h => h) (Or.inl ⟨by rfl, ?_⟩) hS ?_
  · rintro w' hS'
    exact ex_mid 23 _ rfl q 0 rfl [.int .u8 own.a, .int .u8 own.b, .int .u8 own.c, .int .u8 own.d, .int .u8 own.e, .int .u8 own.f] (rng hS' 0 _ (range6 rfl rfl rfl rfl rfl rfl)) _ Try.underlying23 rfl size6
  simp only [List.setIfInBounds_toArray, List.set_cons_zero, List.set_cons_succ]
  refine nany_take 5 13 (.pointer (some ⟨q, 0, none⟩)) rfl rfl (by kernel_rfl) (by kernel_rfl) (by kernel_rfl) (fun _ _ _ h => h) (Or.inl ⟨by rfl, ?_⟩) hS ?_
  · rintro w' hS'
    go_simp
  simp only [List.setIfInBounds_toArray, List.set_cons_zero, List.set_cons_succ]
  refine nany_take 6 14 (.pointer (some ⟨q, 0, none⟩)) rfl rfl (by kernel_rfl) (by kernel_rfl) (by kernel_rfl) (fun _ _ _ h => h) (Or.inl ⟨by rfl, ?_⟩) hS ?_
  · rintro w' hS'
    go_simp
  simp only [List.setIfInBounds_toArray, List.set_cons_zero, List.set_cons_succ]
  refine nany_take 7 15 (.pointer (some ⟨q, 0, none⟩)) rfl rfl (by kernel_rfl) (by kernel_rfl) (by kernel_rfl) (fun _ _ _ h => h) (Or.inl ⟨by rfl, ?_⟩) hS ?_
  · rintro w' hS'
    go_simp
  simp only [List.setIfInBounds_toArray, List.set_cons_zero, List.set_cons_succ]
  refine nany_take 8 16 (.agg (macC own)) rfl rfl (by kernel_rfl) (by kernel_rfl) (by kernel_rfl) (fun _ _ _ h => h) (Or.inl ⟨by rfl, ?_⟩) hS ?_
  · rintro w' hS'
    exact ex_mid 23 _ rfl q 0 rfl [.int .u8 own.a, .int .u8 own.b, .int .u8 own.c, .int .u8 own.d, .int .u8 own.e, .int .u8 own.f] (rng hS' 0 _ (range6 rfl rfl rfl rfl rfl rfl)) _ Try.underlying23 rfl size6
  simp only [List.setIfInBounds_toArray, List.set_cons_zero, List.set_cons_succ]
  refine nany_take 9 17 (.pointer (some ⟨q, 0, none⟩)) rfl rfl (by kernel_rfl) (by kernel_rfl) (by kernel_rfl) (fun _ _ _ h => h) (Or.inl ⟨by rfl, ?_⟩) hS ?_
  · rintro w' hS'
    go_simp
  simp only [List.setIfInBounds_toArray, List.set_cons_zero, List.set_cons_succ]
  refine nany_take 10 18 (.pointer (some ⟨q, 0, none⟩)) rfl rfl (by kernel_rfl) (by kernel_rfl) (by kernel_rfl) (fun _ _ _ h => h) (Or.inl ⟨by rfl, ?_⟩) hS ?_
  · rintro w' hS'
    go_simp
  simp only [List.setIfInBounds_toArray, List.set_cons_zero, List.set_cons_succ]
  refine nany_take 11 19 (.pointer (some ⟨q, 6, none⟩)) rfl rfl (by kernel_rfl) (by kernel_rfl) (by kernel_rfl) (fun _ _ _ h => h) (Or.inl ⟨by rfl, ?_⟩) hS ?_
  · rintro w' hS'
    go_simp
  simp only [List.setIfInBounds_toArray, List.set_cons_zero, List.set_cons_succ]
  refine nany_take 12 20 (.int .u32 ip) rfl rfl (by kernel_rfl) (by kernel_rfl) (by kernel_rfl) (fun _ _ _ h => h) (Or.inl ⟨by rfl, ?_⟩) hS ?_
  · rintro w' hS'
    have hc := cell_of hS' (i := 6) (v := .int .u32 ip) rfl; go_simp
  simp only [List.setIfInBounds_toArray, List.set_cons_zero, List.set_cons_succ]
  refine nany_take 13 21 (.agg (macC mac0)) rfl rfl (by kernel_rfl) (by kernel_rfl) (by kernel_rfl) (fun _ _ _ h => h) (Or.inl ⟨by rfl, ?_⟩) hS ?_
  · rintro w' hS'
    go_simp; exact ⟨rfl, rfl, rfl, rfl, rfl, rfl⟩
  simp only [List.setIfInBounds_toArray, List.set_cons_zero, List.set_cons_succ]
  refine nany_take 14 22 (.int .u32 x) rfl rfl (by kernel_rfl) (by kernel_rfl) (by kernel_rfl) (fun _ _ _ h => h) (Or.inl ⟨by rfl, ?_⟩) hS ?_
  · rintro w' hS'
    go_simp
  simp only [List.setIfInBounds_toArray, List.set_cons_zero, List.set_cons_succ]
  refine nany_one 15 (by kernel_rfl) ?_
  refine nop_callE 23 (f := 36) (args := #[.int .i64 1, .agg (macC own), .int .u32 ip, .agg (macC mac0), .int .u32 x]) (R := fun v w' => ∃ a5 c5, v = .slice a5 28 c5 ∧ By w' (New w) a5 (arpL 1 own ip mac0 x) ∧ Below w.heap.size w w') rfl (by rfl) rfl (by go_simp) ((arp_any w.drew 1 own ip mac0 x (by omega) HOW.out HIP.out mac0_ok HX.out).mono (fun e w' h => by obtain ⟨a2, c2, h1, h2, h3, h4⟩ := h; exact ⟨_, h1, a2, c2, rfl, h2, below_undrew h4⟩)) ?_
  rintro v w5 ⟨a5, c5, rfl, hy5, hb5⟩
  have hS5 := (hb5.block q (Array.getElem?_eq_some_iff.1 HQ.out).1).trans HQ.out
  refine ⟨hS5, ?_⟩
  simp only [List.setIfInBounds_toArray, List.set_cons_zero, List.set_cons_succ]
  refine nany_take 16 24 (.agg (frC ffM own 2054 (.slice a5 28 c5))) rfl rfl (by kernel_rfl) (by kernel_rfl) (by kernel_rfl) (fun _ _ _ h => h) (Or.inl ⟨by rfl, ?_⟩) hS5 ?_
  · rintro w' hS'
    go_simp
  simp only [List.setIfInBounds_toArray, List.set_cons_zero, List.set_cons_succ]
  refine nany_one 17 (by kernel_rfl) ?_
  refine nop_callE 25 (f := 11) (args := #[.agg (frC ffM own 2054 (.slice a5 28 c5))]) (R := fun v w' => ∃ a6 c6, v = .tuple #[.slice a6 42 c6, .int .i64 0] ∧ By w' (New w5) a6 (askL own ip x) ∧ 42 ≤ c6 ∧ Below w5.heap.size w5 w') rfl (by rfl) rfl (by go_simp) ((rWrite_ok w5 ffM own 2054 a5 28 c5 (arpL 1 own ip mac0 x) ffM_ok HOW.out (by omega) (arpL_len _ _ _ _ _) (by omega) hy5.bytes).mono (fun e w' h => by obtain ⟨a2, c2, h1, h2, h3, h4⟩ := h; exact ⟨_, h1, a2, c2, rfl, h2, h3, h4⟩)) ?_
  rintro v w6 ⟨a6, c6, rfl, hy6, hc6, hb6⟩
  have hS6 := (hb6.block q (Array.getElem?_eq_some_iff.1 hS5).1).trans hS5
  refine ⟨hS6, ?_⟩
  simp only [List.setIfInBounds_toArray, List.set_cons_zero, List.set_cons_succ]
  refine nany_take 18 7 (.tuple #[.slice a6 42 c6, .int .i64 0]) rfl rfl (by kernel_rfl) (by kernel_rfl) (by kernel_rfl) (fun _ _ _ h => h) (Or.inl ⟨by rfl, ?_⟩) hS6 ?_
  · rintro w' hS'
    go_simp
  simp only [List.setIfInBounds_toArray, List.set_cons_zero, List.set_cons_succ]
  refine nany_take 19 26 (.slice a6 42 c6) rfl rfl (by kernel_rfl) (by kernel_rfl) (by kernel_rfl) (fun _ _ _ h => h) (Or.inl ⟨by rfl, ?_⟩) hS6 ?_
  · rintro w' hS'
    go_simp
  simp only [List.setIfInBounds_toArray, List.set_cons_zero, List.set_cons_succ]
  refine nany_take 20 27 (.int .i64 0) rfl rfl (by kernel_rfl) (by kernel_rfl) (by kernel_rfl) (fun _ _ _ h => h) (Or.inl ⟨by rfl, ?_⟩) hS6 ?_
  · rintro w' hS'
    go_simp
  simp only [List.setIfInBounds_toArray, List.set_cons_zero, List.set_cons_succ]
  refine nany_take 21 5 (.slice a6 42 c6) rfl rfl (by kernel_rfl) (by kernel_rfl) (by kernel_rfl) (fun _ _ _ h => h) (Or.inl ⟨by rfl, ?_⟩) hS6 ?_
  · rintro w' hS'
    go_simp
  simp only [List.setIfInBounds_toArray, List.set_cons_zero, List.set_cons_succ]
  refine nany_take 22 6 (.int .i64 0) rfl rfl (by kernel_rfl) (by kernel_rfl) (by kernel_rfl) (fun _ _ _ h => h) (Or.inl ⟨by rfl, ?_⟩) hS6 ?_
  · rintro w' hS'
    go_simp
  simp only [List.setIfInBounds_toArray, List.set_cons_zero, List.set_cons_succ]
  refine wpAnyH_done (by kernel_rfl) ?_ _
  have HY6 := hid hy6
  have HC6 := hid hc6
  have HB6 := hid (hb5.trans (hb6.mono hb5.size))
  have HS5 := hid hb5.size
  clear hy6 hc6 hb6 hb5 hy5 hS hS5 hS6
  go_wp2
  go_ret
  exact ⟨a6, c6, rfl, HY6.out.weak (fun y hy _ => Nat.le_trans HS5.out hy), HC6.out, HB6.out⟩
end Go.Proofs.Ytlflbpemjlgdiaa
