/- Hosts as bytes. -/
import Derived.Test.YtlflbpemjlgdiaaEcE
namespace Go.Proofs.Ytlflbpemjlgdiaa
open Go.RowKit Go.Maps
set_option linter.unusedVariables false

theorem fits_one (k v : Int) (h : v / 256 ^ k.toNat = 0) : fitsB k [v] = true := by simp [fitsB, fitB, h]
/-- num.PutBe of one number that fits. -/
theorem putBe1 (w : World) (a : Option Addr) (n c k g cap : Nat) (b : List Int) (v : Int) (hn : b.length = n) (hl : n ≤ 900000) (hk : k = 2 ∨ k = 4) (hv : 0 ≤ v ∧ v < 256 ^ k) (hb : Bytes w a b) (hg : w.cell? ⟨g, 0, none⟩ = some (.int .u64 v)) :
    Calls Try.prog 28 #[.slice a n c, .int .i64 k, .slice (some ⟨g, 0, none⟩) 1 cap] w fun e w' => ∃ a2 c2, e = .returned (.tuple #[.slice a2 (n + k) c2, .int .i64 0]) ∧ By w' (New w) a2 (b ++ bytesBe k v) ∧ n + k ≤ c2 ∧ Below w.heap.size w w' := by
  subst hn
  have hv64 : v < 18446744073709551616 := by rcases hk with rfl | rfl <;> omega
  have hW : Words w (some ⟨g, 0, none⟩) [v] := fun i hi => by
    obtain rfl : i = 0 := by simp at hi; omega
    exact ⟨g, 0, rfl, hg, hv.1, hv64⟩
  have hI : ∀ x ∈ outBe b k [v], IsB x := by
    rw [outBe_uno]; intro x hx
    rcases List.mem_append.1 hx with h | h
    · exact hb.isB x h
    · exact be_isB k v x h
  rcases hk with rfl | rfl
  · refine (putBe_2 a (some ⟨g, 0, none⟩) c cap b [v] w (by omega) (by simp) hb hW (fits_one 2 v (by simp; omega))).mono ?_
    rintro e w' ⟨rfl, h1, h2, h3⟩
    have h4 := By.of_row (S := New w) h3 (Nat.le_refl _) hI (by rw [outBe_len]; exact Nat.le_refl _)
    rw [outBe_uno] at h4
    exact ⟨_, _, rfl, h4, Nat.le_refl _, h1⟩
  · refine (putBe_4 a (some ⟨g, 0, none⟩) c cap b [v] w (by omega) (by simp) hb hW (fits_one 4 v (by simp; omega))).mono ?_
    rintro e w' ⟨rfl, h1, h2, h3⟩
    have h4 := By.of_row (S := New w) h3 (Nat.le_refl _) hI (by rw [outBe_len]; exact Nat.le_refl _)
    rw [outBe_uno] at h4
    exact ⟨_, _, rfl, h4, Nat.le_refl _, h1⟩
theorem mac_bytes {w : World} {b o : Nat} {m : Mac} (hm : m.ok) (h : ∀ i, i < 6 → w.cell? ⟨b, o + i, none⟩ = some (.int .u8 (m.l.getD i 0))) : Bytes w (some ⟨b, o, none⟩) m.l := Bytes.mk_ hm (fun i hi => h i hi)
set_option maxRecDepth 100000 in
set_option maxHeartbeats 1000000 in
theorem hbytes_any (w : World) (m : Mac) (ip : Int) (hm : m.ok) (hip : IsU ip) :
    Calls Try.prog 52 #[.agg (hostC m ip)] w fun e w' => ∃ a2 c2, e = .returned (.slice a2 10 c2) ∧ By w' (New w) a2 (m.l ++ bytesBe 4 ip) ∧ 10 ≤ c2 ∧ Below w.heap.size w w' := by
  obtain ⟨g, hg⟩ : ∃ g, w.heap.size = g := ⟨_, rfl⟩
  obtain ⟨W1, hW1⟩ : ∃ W, W = w.alloc (.cells (hostC m ip) 70) := ⟨_, rfl⟩
  have b1 : Below w.heap.size w W1 := by rw [hW1]; exact below_alloc (Below.refl _ _) (Nat.le_refl _) _
  have h1 : W1.heap[g]? = some (.cells (hostC m ip) 70 (0, 0)) := by rw [hW1, ← hg]; exact alloc_new w _
  obtain ⟨g2, hg2⟩ : ∃ g, W1.heap.size = g := ⟨_, rfl⟩
  obtain ⟨W2, hW2⟩ : ∃ W, W = W1.drew.alloc (.cells #[.int .u64 ip] 60) := ⟨_, rfl⟩
  have b12 : Below W1.heap.size W1 W2 := by rw [hW2]; exact ((Below.refl _ _).drew).alloc (Nat.le_refl _) _
  have h2 : W2.heap[g]? = some (.cells (hostC m ip) 70 (0, 0)) := (b12.block g (Array.getElem?_eq_some_iff.1 h1).1).trans h1
  have c2 : W2.cell? ⟨g2, 0, none⟩ = some (.int .u64 ip) := by rw [hW2, ← hg2]; exact new_cell W1.drew _ _ _ 0 (by simp)
  have hmb : Bytes W2 (some ⟨g, 0, none⟩) m.l := mac_bytes hm (fun i hi => by
    rcases (show i = 0 ∨ i = 1 ∨ i = 2 ∨ i = 3 ∨ i = 4 ∨ i = 5 by omega) with rfl | rfl | rfl | rfl | rfl | rfl <;> exact cell_of h2 rfl)
  unfold IsU at hip
  have HPB := hid (putBe1 W2 (some ⟨g, 0, none⟩) 6 6 4 g2 1 m.l ip rfl (by omega) (.inr rfl) ⟨hip.1, by omega⟩ hmb c2)
  have H1 := hid h1
  have H2 := hid h2
  have HG2 := hid hg2
  have HW2 := hid hW2
  have hwu : IntKind.u64.wrap ip = ip := IntWalk.u64_in _ (by omega)
  have HB12 := hid (b1.trans (b12.mono b1.size))
  have HB1 := hid b1
  clear h1 h2 hg2 hW2 b12 c2 hmb b1
  have HW := hW1.symm
  clear hW1
  go_enter Try.func52, Try.ntmps52
  go_upto_region 1 with fail
  refine wp_region_held_drew (S := fun W => W.heap[g]? = some (.cells (hostC m ip) 70 (0, 0))) (by kernel_rfl) H1.out (fun hS => ?_)
  refine nany_take 0 6 (.pointer (some ⟨g, 0, none⟩)) rfl rfl (by kernel_rfl) (by kernel_rfl) (by kernel_rfl) (fun _ _ _ h => h) (Or.inl ⟨by rfl, ?_⟩) hS ?_
  · rintro w' hS'
    go_simp
  simp only [List.setIfInBounds_toArray, List.set_cons_zero, List.set_cons_succ]
  refine nany_take 1 7 (.slice (some ⟨g, 0, none⟩) 6 6) rfl rfl (by kernel_rfl) (by kernel_rfl) (by kernel_rfl) (fun _ _ _ h => h) (Or.inl ⟨by rfl, ?_⟩) hS ?_
  · rintro w' hS'
    go_simp
  simp only [List.setIfInBounds_toArray, List.set_cons_zero, List.set_cons_succ]
  refine nany_take 2 8 (.pointer (some ⟨g, 6, none⟩)) rfl rfl (by kernel_rfl) (by kernel_rfl) (by kernel_rfl) (fun _ _ _ h => h) (Or.inl ⟨by rfl, ?_⟩) hS ?_
  · rintro w' hS'
    go_simp
  simp only [List.setIfInBounds_toArray, List.set_cons_zero, List.set_cons_succ]
  refine nany_take 3 9 (.int .u32 ip) rfl rfl (by kernel_rfl) (by kernel_rfl) (by kernel_rfl) (fun _ _ _ h => h) (Or.inl ⟨by rfl, ?_⟩) hS ?_
  · rintro w' hS'
    have hc6 := cell_of hS' (i := 6) (v := .int .u32 ip) rfl; go_simp
  simp only [List.setIfInBounds_toArray, List.set_cons_zero, List.set_cons_succ]
  refine nany_take 4 10 (.int .u64 ip) rfl rfl (by kernel_rfl) (by kernel_rfl) (by kernel_rfl) (fun _ _ _ h => h) (Or.inl ⟨by rfl, ?_⟩) hS ?_
  · rintro w' hS'
    go_simp
  simp only [List.setIfInBounds_toArray, List.set_cons_zero, List.set_cons_succ]
  refine nany_one 5 (by kernel_rfl) ?_
  refine nop_value' 11 (v := .slice (some ⟨g2, 0, none⟩) 1 1) (w' := W2) rfl (by rfl) rfl (by rw [← HG2.out, HW2.out]; go_simp) ?_
  refine ⟨H2.out, ?_⟩
  simp only [List.setIfInBounds_toArray, List.set_cons_zero, List.set_cons_succ]
  refine nany_one 6 (by kernel_rfl) ?_
  refine nop_callE 12 (f := 28) (args := #[.slice (some ⟨g, 0, none⟩) 6 6, .int .i64 4, .slice (some ⟨g2, 0, none⟩) 1 1]) (R := fun v w' => ∃ a2 c2, v = .tuple #[.slice a2 10 c2, .int .i64 0] ∧ By w' (New W2) a2 (m.l ++ bytesBe 4 ip) ∧ 10 ≤ c2 ∧ Below W2.heap.size W2 w') rfl (by rfl) rfl (by go_simp) (HPB.out.mono (fun e w' h => by obtain ⟨a2, c2, h1, h2⟩ := h; exact ⟨_, h1, a2, c2, rfl, h2⟩)) ?_
  rintro v w3 ⟨a2, c2, rfl, hy3, hc3, hb3⟩
  have hS3 := (hb3.block g (Array.getElem?_eq_some_iff.1 H2.out).1).trans H2.out
  refine ⟨hS3, ?_⟩
  simp only [List.setIfInBounds_toArray, List.set_cons_zero, List.set_cons_succ]
  refine nany_take 7 5 (.tuple #[.slice a2 10 c2, .int .i64 0]) rfl rfl (by kernel_rfl) (by kernel_rfl) (by kernel_rfl) (fun _ _ _ h => h) (Or.inl ⟨by rfl, ?_⟩) hS3 ?_
  · rintro w' hS'
    go_simp
  simp only [List.setIfInBounds_toArray, List.set_cons_zero, List.set_cons_succ]
  refine nany_take 8 13 (.slice a2 10 c2) rfl rfl (by kernel_rfl) (by kernel_rfl) (by kernel_rfl) (fun _ _ _ h => h) (Or.inl ⟨by rfl, ?_⟩) hS3 ?_
  · rintro w' hS'
    go_simp
  simp only [List.setIfInBounds_toArray, List.set_cons_zero, List.set_cons_succ]
  refine nany_take 9 14 (.int .i64 0) rfl rfl (by kernel_rfl) (by kernel_rfl) (by kernel_rfl) (fun _ _ _ h => h) (Or.inl ⟨by rfl, ?_⟩) hS3 ?_
  · rintro w' hS'
    go_simp
  simp only [List.setIfInBounds_toArray, List.set_cons_zero, List.set_cons_succ]
  refine nany_take 10 3 (.slice a2 10 c2) rfl rfl (by kernel_rfl) (by kernel_rfl) (by kernel_rfl) (fun _ _ _ h => h) (Or.inl ⟨by rfl, ?_⟩) hS3 ?_
  · rintro w' hS'
    go_simp
  simp only [List.setIfInBounds_toArray, List.set_cons_zero, List.set_cons_succ]
  refine nany_take 11 4 (.int .i64 0) rfl rfl (by kernel_rfl) (by kernel_rfl) (by kernel_rfl) (fun _ _ _ h => h) (Or.inl ⟨by rfl, ?_⟩) hS3 ?_
  · rintro w' hS'
    go_simp
  simp only [List.setIfInBounds_toArray, List.set_cons_zero, List.set_cons_succ]
  refine wpAnyH_done (by kernel_rfl) ?_ _
  have HY3 := hid hy3
  have HC3 := hid hc3
  have HB3 := hid hb3
  clear hy3 hc3 hb3 hS3 hS
  go_wp2
  go_ret
  exact ⟨a2, c2, rfl, HY3.out.weak (fun x hx _ => Nat.le_trans HB12.out.size hx), HC3.out, HB12.out.trans (HB3.out.mono HB12.out.size)⟩
end Go.Proofs.Ytlflbpemjlgdiaa
