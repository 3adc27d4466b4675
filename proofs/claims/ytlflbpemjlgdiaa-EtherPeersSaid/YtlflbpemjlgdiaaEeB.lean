/- The law's theirs and same. -/
import Derived.Test.YtlflbpemjlgdiaaEeA
namespace Go.Proofs.Ytlflbpemjlgdiaa
open Go.RowKit Go.Maps
set_option linter.unusedVariables false

theorem sizeFd : (Try.prog.info? 30).map (·.size) = some 14 := by kernel_rfl
set_option maxRecDepth 100000 in
set_option maxHeartbeats 2000000 in
theorem theirs_any (w : World) (m1 m2 : Mac) (k : Int) (a : Option Addr) (n c : Nat) :
    Calls Try.prog 12 #[.agg (frC m1 m2 k (.slice a n c))] w fun e w' => e = .returned (.agg (frC m1 m2 k (.slice a n c))) ∧ Below w.heap.size w w' := by
  obtain ⟨g1, hg1⟩ : ∃ g, w.heap.size = g := ⟨_, rfl⟩
  obtain ⟨W1, hW1⟩ : ∃ W, W = w.alloc (.cells (frC m1 m2 k (.slice a n c)) 25) := ⟨_, rfl⟩
  have b1 : Below w.heap.size w W1 := by rw [hW1]; exact below_alloc (Below.refl _ _) (Nat.le_refl _) _
  have h1 : W1.heap[g1]? = some (.cells (frC m1 m2 k (.slice a n c)) 25 (0, 0)) := by rw [hW1, ← hg1]; exact alloc_new w _
  obtain ⟨g2, hg2⟩ : ∃ g, W1.heap.size = g := ⟨_, rfl⟩
  obtain ⟨W2, hW2⟩ : ∃ W, W = W1.alloc (.cells #[.int .u8 0, .int .u8 0, .int .u8 0, .int .u8 0, .int .u8 0, .int .u8 0, .int .u8 0, .int .u8 0, .int .u8 0, .int .u8 0, .int .u8 0, .int .u8 0, .int .i64 0, .slice none 0 0] 30) := ⟨_, rfl⟩
  have b12 : Below W1.heap.size W1 W2 := by rw [hW2]; exact below_alloc (Below.refl _ _) (Nat.le_refl _) _
  have h22 : W2.heap[g2]? = some (.cells (frC mac0 mac0 0 (.slice none 0 0)) 30 (0, 0)) := by rw [hW2, ← hg2]; exact alloc_new W1 _
  have h21 := (b12.block g1 (Array.getElem?_eq_some_iff.1 h1).1).trans h1
  have hB2 := b1.trans (b12.mono b1.size)
  have ck := cell_of h21 (i := 12) (v := .int .i64 k) rfl
  have cb := cell_of h21 (i := 13) (v := .slice a n c) rfl
  have H21 := hid h21
  have H22 := hid h22
  have HB2 := hid hB2
  have HS2 := hid (show w.heap.size ≤ g2 by rw [← hg2]; exact b1.size)
  have HW := hW1.symm
  have HV := hW2.symm
  clear hW1 hW2 b1 h1 b12 h22 h21 hB2
  go_enter Try.func12, Try.ntmps12
  go_wp2_with (first
    | (refine wpList_load_mid rfl 23 _ rfl g1 0 rfl [.int .u8 m1.a, .int .u8 m1.b, .int .u8 m1.c, .int .u8 m1.d, .int .u8 m1.e, .int .u8 m1.f] _ (rng H21.out 0 _ (range6 rfl rfl rfl rfl rfl rfl)) Try.underlying23 rfl size6 ?_)
    | (refine wpList_load_mid rfl 23 _ rfl g1 6 rfl [.int .u8 m2.a, .int .u8 m2.b, .int .u8 m2.c, .int .u8 m2.d, .int .u8 m2.e, .int .u8 m2.f] _ (rng H21.out 6 _ (range6 rfl rfl rfl rfl rfl rfl)) Try.underlying23 rfl size6 ?_)
    | (refine wpList_store_row rfl 30 _ _ rfl g2 (frC m1 m2 k (.slice a n c)) rfl rfl 30 _ H22.out sizeFd rfl (frC_one _ _ _ _ rfl) ?_))
  refine bodyPost_ret (results_c rfl _ _ g2 (frC m1 m2 k (.slice a n c)) _ _ rfl (setRow_heap _ g2 _ _ _ _ H22.out) Try.underlying30 sizeFd) rfl ⟨rfl, ?_⟩
  have hbw := (setRow_mods W2 g2 (frC m1 m2 k (.slice a n c))).to_below HB2.out HB2.out.size (fun x hx => by rw [hx]; exact HS2.out)
  first | exact hbw | (rw [hg1] at hbw; exact hbw)
set_option maxRecDepth 100000 in
set_option maxHeartbeats 4000000 in
theorem same_eq (w : World) (m1 m2 : Mac) (k : Int) (a b : Option Addr) (n c d : Nat) (l : List Int) (hl : l.length = n) (ha : Bytes w a l) (hb : Bytes w b l) :
    Calls Try.prog 13 #[.agg (frC m1 m2 k (.slice a n c)), .agg (frC m1 m2 k (.slice b n d))] w fun e w' => e = .returned (.bool true) ∧ Below w.heap.size w w' := by
  obtain ⟨g1, hg1⟩ : ∃ g, w.heap.size = g := ⟨_, rfl⟩
  obtain ⟨W1, hW1⟩ : ∃ W, W = w.alloc (.cells (frC m1 m2 k (.slice a n c)) 25) := ⟨_, rfl⟩
  have b1 : Below w.heap.size w W1 := by rw [hW1]; exact below_alloc (Below.refl _ _) (Nat.le_refl _) _
  have h1 : W1.heap[g1]? = some (.cells (frC m1 m2 k (.slice a n c)) 25 (0, 0)) := by rw [hW1, ← hg1]; exact alloc_new w _
  obtain ⟨g2, hg2⟩ : ∃ g, W1.heap.size = g := ⟨_, rfl⟩
  obtain ⟨W2, hW2⟩ : ∃ W, W = W1.alloc (.cells (frC m1 m2 k (.slice b n d)) 30) := ⟨_, rfl⟩
  have b12 : Below W1.heap.size W1 W2 := by rw [hW2]; exact below_alloc (Below.refl _ _) (Nat.le_refl _) _
  have h22 : W2.heap[g2]? = some (.cells (frC m1 m2 k (.slice b n d)) 30 (0, 0)) := by rw [hW2, ← hg2]; exact alloc_new W1 _
  have h21 := (b12.block g1 (Array.getElem?_eq_some_iff.1 h1).1).trans h1
  have hB2 := b1.trans (b12.mono b1.size)
  have ca := conv0 (cap := c) (ha.later hB2) hl
  have cb := conv0 (cap := d) (hb.later hB2) hl
  have p0 := cell_of h21 (i := 0) (v := .int .u8 m1.a) rfl
  have p1 := cell_of h21 (i := 1) (v := .int .u8 m1.b) rfl
  have p2 := cell_of h21 (i := 2) (v := .int .u8 m1.c) rfl
  have p3 := cell_of h21 (i := 3) (v := .int .u8 m1.d) rfl
  have p4 := cell_of h21 (i := 4) (v := .int .u8 m1.e) rfl
  have p5 := cell_of h21 (i := 5) (v := .int .u8 m1.f) rfl
  have p6 := cell_of h21 (i := 6) (v := .int .u8 m2.a) rfl
  have p7 := cell_of h21 (i := 7) (v := .int .u8 m2.b) rfl
  have p8 := cell_of h21 (i := 8) (v := .int .u8 m2.c) rfl
  have p9 := cell_of h21 (i := 9) (v := .int .u8 m2.d) rfl
  have p10 := cell_of h21 (i := 10) (v := .int .u8 m2.e) rfl
  have p11 := cell_of h21 (i := 11) (v := .int .u8 m2.f) rfl
  have p12 := cell_of h21 (i := 12) (v := .int .i64 k) rfl
  have p13 := cell_of h21 (i := 13) (v := .slice a n c) rfl
  have q0 := cell_of h22 (i := 0) (v := .int .u8 m1.a) rfl
  have q1 := cell_of h22 (i := 1) (v := .int .u8 m1.b) rfl
  have q2 := cell_of h22 (i := 2) (v := .int .u8 m1.c) rfl
  have q3 := cell_of h22 (i := 3) (v := .int .u8 m1.d) rfl
  have q4 := cell_of h22 (i := 4) (v := .int .u8 m1.e) rfl
  have q5 := cell_of h22 (i := 5) (v := .int .u8 m1.f) rfl
  have q6 := cell_of h22 (i := 6) (v := .int .u8 m2.a) rfl
  have q7 := cell_of h22 (i := 7) (v := .int .u8 m2.b) rfl
  have q8 := cell_of h22 (i := 8) (v := .int .u8 m2.c) rfl
  have q9 := cell_of h22 (i := 9) (v := .int .u8 m2.d) rfl
  have q10 := cell_of h22 (i := 10) (v := .int .u8 m2.e) rfl
  have q11 := cell_of h22 (i := 11) (v := .int .u8 m2.f) rfl
  have q12 := cell_of h22 (i := 12) (v := .int .i64 k) rfl
  have q13 := cell_of h22 (i := 13) (v := .slice b n d) rfl
  have hq := fun (m k : Mac) (w : World) => eqMac m k w
  generalize strOfNums l = sl at *
  have HB2 := hid hB2
  have HW := hW1.symm
  have HV := hW2.symm
  clear hW1 hW2 b1 h1 b12 h22 h21 hB2 ha hb hl
  go_enter Try.func13, Try.ntmps13
  go_wp2
  go_ret
  first | exact ⟨rfl, HB2.out⟩ | (refine ⟨?_, HB2.out⟩; simp)
end Go.Proofs.Ytlflbpemjlgdiaa
