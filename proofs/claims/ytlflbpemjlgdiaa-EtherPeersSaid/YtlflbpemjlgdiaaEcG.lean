/- Messages as bytes. -/
import Derived.Test.YtlflbpemjlgdiaaEcF
namespace Go.Proofs.Ytlflbpemjlgdiaa
open Go.RowKit Go.Maps
set_option linter.unusedVariables false

/-- The bytes of a message. -/
def arpL (op : Int) (m1 : Mac) (i1 : Int) (m2 : Mac) (i2 : Int) : List Int := headM.l ++ bytesBe 2 op ++ (m1.l ++ bytesBe 4 i1) ++ (m2.l ++ bytesBe 4 i2)
theorem arp_flat (op : Int) (m1 : Mac) (i1 : Int) (m2 : Mac) (i2 : Int) : [headM.l ++ bytesBe 2 op, m1.l ++ bytesBe 4 i1, m2.l ++ bytesBe 4 i2].flatten = arpL op m1 i1 m2 i2 := by simp [arpL]
theorem arpL_len (op : Int) (m1 : Mac) (i1 : Int) (m2 : Mac) (i2 : Int) : (arpL op m1 i1 m2 i2).length = 28 := by simp [arpL, len_be, Mac.len]
theorem headM_ok : headM.ok := by intro x hx; simp [headM, Mac.l] at hx; unfold IsB; omega
theorem rng {w : World} {b : Nat} {C : Array Value} {t : TypeId} (hb : w.heap[b]? = some (.cells C t (0, 0))) (o : Nat) (cs : List Value) (h : ∀ j, j < cs.length → C[o + j]? = cs[j]?) : w.rangeAt b o cs := fun j v hv => by
  have hj : j < cs.length := (List.getElem?_eq_some_iff.1 hv).1
  exact cell_of hb (by rw [h j hj]; exact hv)
theorem range7 {C : Array Value} {o : Nat} {x0 x1 x2 x3 x4 x5 x6 : Value} (h0 : C[o + 0]? = some x0) (h1 : C[o + 1]? = some x1) (h2 : C[o + 2]? = some x2) (h3 : C[o + 3]? = some x3) (h4 : C[o + 4]? = some x4) (h5 : C[o + 5]? = some x5) (h6 : C[o + 6]? = some x6) :
    ∀ j, j < [x0, x1, x2, x3, x4, x5, x6].length → C[o + j]? = [x0, x1, x2, x3, x4, x5, x6][j]? := fun j hj => by
  simp at hj
  rcases (show j = 0 ∨ j = 1 ∨ j = 2 ∨ j = 3 ∨ j = 4 ∨ j = 5 ∨ j = 6 by omega) with rfl | rfl | rfl | rfl | rfl | rfl | rfl <;> assumption
theorem range6 {C : Array Value} {o : Nat} {x0 x1 x2 x3 x4 x5 : Value} (h0 : C[o + 0]? = some x0) (h1 : C[o + 1]? = some x1) (h2 : C[o + 2]? = some x2) (h3 : C[o + 3]? = some x3) (h4 : C[o + 4]? = some x4) (h5 : C[o + 5]? = some x5) :
    ∀ j, j < [x0, x1, x2, x3, x4, x5].length → C[o + j]? = [x0, x1, x2, x3, x4, x5][j]? := fun j hj => by
  simp at hj
  rcases (show j = 0 ∨ j = 1 ∨ j = 2 ∨ j = 3 ∨ j = 4 ∨ j = 5 by omega) with rfl | rfl | rfl | rfl | rfl | rfl <;> assumption
theorem ex_mid {o : Oper} {ev : Operand → Value} {W : World} (ty : TypeId) (x : Operand) (ho : o.op = .load ty x) (b off : Nat) (hx : ev x = .pointer (some ⟨b, off, none⟩)) (cs : List Value) (hc : W.rangeAt b off cs) (d : TypeDesc)
    (hu : Try.prog.underlying ty = some d) (hd : d.isRow = true) (hi : (Try.prog.info? ty).map (·.size) = some cs.length) : (execOp ev o).run Try.prog W = .ok (.value (.agg cs.toArray)) W := by
  unfold execOp
  simp only [ho, hx, Instr.loadAt, Instr.sureAddr, Sem.run_bind, Sem.run_pure, Result.andThen_ok, run_loadVar_mid W b off ty cs d hc hu hd hi]
theorem rows3 (w : World) (a1 a2 a3 : Option Addr) (n1 n2 n3 c1 c2 c3 : Nat) (l1 l2 l3 : List Int) (e1 : l1.length = n1) (e2 : l2.length = n2) (e3 : l3.length = n3) (h1 : Bytes w a1 l1) (h2 : Bytes w a2 l2) (h3 : Bytes w a3 l3) :
    RowsOf (w.alloc (.cells #[.slice a1 n1 c1, .slice a2 n2 c2, .slice a3 n3 c3] 22)) (some ⟨w.heap.size, 0, none⟩) [l1, l2, l3] := by
  subst e1 e2 e3
  have hb : Below w.heap.size w (w.alloc (.cells #[.slice a1 l1.length c1, .slice a2 l2.length c2, .slice a3 l3.length c3] 22)) := (Below.refl _ _).alloc (Nat.le_refl _) _
  intro i hi
  simp at hi
  rcases (show i = 0 ∨ i = 1 ∨ i = 2 by omega) with rfl | rfl | rfl
  · exact ⟨_, 0, a1, c1, rfl, by rw [Nat.zero_add, new_cell _ _ _ _ 0 (by simp)]; rfl, h1.later hb⟩
  · exact ⟨_, 0, a2, c2, rfl, by rw [Nat.zero_add, new_cell _ _ _ _ 1 (by simp)]; rfl, h2.later hb⟩
  · exact ⟨_, 0, a3, c3, rfl, by rw [Nat.zero_add, new_cell _ _ _ _ 2 (by simp)]; rfl, h3.later hb⟩
set_option maxRecDepth 100000 in
set_option maxHeartbeats 2000000 in
theorem mbytes_any (w : World) (op : Int) (m1 : Mac) (i1 : Int) (m2 : Mac) (i2 : Int) (hop : 0 ≤ op ∧ op < 65536) (hm1 : m1.ok) (hi1 : IsU i1) (hm2 : m2.ok) (hi2 : IsU i2) :
    Calls Try.prog 49 #[.agg (msgC op m1 i1 m2 i2)] w fun e w' => ∃ a2 c2, e = .returned (.slice a2 28 c2) ∧ By w' (New w) a2 (arpL op m1 i1 m2 i2) ∧ 28 ≤ c2 ∧ Below w.heap.size w w' := by
  obtain ⟨g, hg⟩ : ∃ g, w.heap.size = g := ⟨_, rfl⟩
  obtain ⟨W1, hW1⟩ : ∃ W, W = w.alloc (.cells (msgC op m1 i1 m2 i2) 76) := ⟨_, rfl⟩
  have b1 : Below w.heap.size w W1 := by rw [hW1]; exact below_alloc (Below.refl _ _) (Nat.le_refl _) _
  have h1 : W1.heap[g]? = some (.cells (msgC op m1 i1 m2 i2) 76 (0, 0)) := by rw [hW1, ← hg]; exact alloc_new w _
  have hwu : IntKind.u64.wrap op = op := IntWalk.u64_in _ (by omega)
  have H1 := hid h1
  have HB1 := hid b1
  have HM1 := hid hm1
  have HM2 := hid hm2
  have HI1 := hid hi1
  have HI2 := hid hi2
  have HOP := hid hop
  clear h1 b1 hm1 hm2 hi1 hi2 hop
  have HMS : Hid (∀ w2 : World, Below W1.heap.size W1 w2 → ∃ W3, W3 = w2.alloc (.cells #[.int .u8 0, .int .u8 0, .int .u8 0, .int .u8 0, .int .u8 0, .int .u8 0] 23) ∧ W3.heap[w2.heap.size]? = some (.cells zero6 23 (0, 0)) ∧ ∃ W4, W4 = W3.setRow w2.heap.size (macC headM) ∧ W4.heap[g]? = some (.cells (msgC op m1 i1 m2 i2) 76 (0, 0)) ∧ W4.heap[w2.heap.size]? = some (.cells (macC headM) 23 (0, 0)) ∧ Below w.heap.size w W4) := hid (fun w2 hb2 => by
    have k3 : (w2.alloc (.cells zero6 23)).heap[w2.heap.size]? = some (.cells zero6 23 (0, 0)) := alloc_new w2 _
    have hlt := (Array.getElem?_eq_some_iff.1 H1.out).1
    have hne : g ≠ w2.heap.size := fun e => by have := hb2.size; omega
    have b3 : Below w2.heap.size w2 (w2.alloc (.cells zero6 23)) := below_alloc (Below.refl _ _) (Nat.le_refl _) _
    refine ⟨_, rfl, k3, _, rfl, ?_, setRow_heap _ _ _ _ _ _ k3, ?_⟩
    · rw [setRow_other _ _ _ _ hne]
      exact (b3.block g (by have := hb2.size; omega)).trans ((hb2.block g hlt).trans H1.out)
    · have hbw := HB1.out.trans (hb2.mono HB1.out.size)
      have hbw3 := hbw.trans (b3.mono hbw.size)
      exact (setRow_mods _ _ _).to_below hbw3 hbw3.size (fun x hx => by rw [hx]; exact hbw.size))
  have HW := hW1.symm
  clear hW1
  go_enter Try.func49, Try.ntmps49
  go_upto_region 2 with (first
    | (go_at_call 47; refine (head_any _).mono ?_; rintro e w2 ⟨rfl, hb2⟩; obtain ⟨g3, hg3⟩ : ∃ g3, w2.heap.size = g3 := ⟨_, rfl⟩; have HHM := hid (HMS.out w2 hb2); have HG3 := hid hg3; clear hb2)
    | (obtain ⟨W3, hW3, h3, W4, hW4, h4, hm4, hb4⟩ := HHM.out; rw [HG3.out] at h3 hW4 hm4; have H3 := hid h3; have H4 := hid h4; have HM4 := hid hm4; have HB4 := hid hb4; clear h3 h4 hm4 hb4 HHM; rw [← hW3]; clear hW3; refine wpList_store_row rfl 23 _ _ rfl g3 (macC headM) rfl rfl 23 _ H3.out size6 rfl (macC_one _) ?_; rw [← hW4]; clear hW4))
  obtain ⟨g5, hg5⟩ : ∃ g, W4.heap.size = g := ⟨_, rfl⟩
  obtain ⟨W5, hW5⟩ : ∃ W, W = W4.drew.alloc (.cells #[.int .u64 op] 60) := ⟨_, rfl⟩
  have b45 : Below W4.heap.size W4 W5 := by rw [hW5]; exact ((Below.refl _ _).drew).alloc (Nat.le_refl _) _
  have h5 : W5.heap[g]? = some (.cells (msgC op m1 i1 m2 i2) 76 (0, 0)) := (b45.block g (Array.getElem?_eq_some_iff.1 H4.out).1).trans H4.out
  have h53 : W5.heap[g3]? = some (.cells (macC headM) 23 (0, 0)) := (b45.block g3 (Array.getElem?_eq_some_iff.1 HM4.out).1).trans HM4.out
  have c5 : W5.cell? ⟨g5, 0, none⟩ = some (.int .u64 op) := by rw [hW5, ← hg5]; exact new_cell W4.drew _ _ _ 0 (by simp)
  have hmb : Bytes W5 (some ⟨g3, 0, none⟩) headM.l := mac_bytes headM_ok (fun i hi => by
    rcases (show i = 0 ∨ i = 1 ∨ i = 2 ∨ i = 3 ∨ i = 4 ∨ i = 5 by omega) with rfl | rfl | rfl | rfl | rfl | rfl <;> exact cell_of h53 rfl)
  have HPB := hid (putBe1 W5 (some ⟨g3, 0, none⟩) 6 6 2 g5 1 headM.l op rfl (by omega) (.inl rfl) ⟨HOP.out.1, by have := HOP.out.2; omega⟩ hmb c5)
  have H5 := hid h5
  have HG5 := hid hg5
  have HW5 := hid hW5
  have HB5 := hid (HB4.out.trans (b45.mono HB4.out.size))
  clear hg5 hW5 b45 h5 h53 c5 hmb
  simp only [Act.put]
  refine wp_region_held_drew (S := fun W => W.heap[g]? = some (.cells (msgC op m1 i1 m2 i2) 76 (0, 0))) (by kernel_rfl) H4.out (fun hS => ?_)
  refine nany_take 0 8 (.slice (some ⟨g3, 0, none⟩) 6 6) rfl rfl (by kernel_rfl) (by kernel_rfl) (by kernel_rfl) (fun _ _ _ h => h) (Or.inl ⟨by rfl, ?_⟩) hS ?_
  · rintro w' hS'
    go_simp
  simp only [List.setIfInBounds_toArray, List.set_cons_zero, List.set_cons_succ]
  refine nany_take 1 9 (.pointer (some ⟨g, 0, none⟩)) rfl rfl (by kernel_rfl) (by kernel_rfl) (by kernel_rfl) (fun _ _ _ h => h) (Or.inl ⟨by rfl, ?_⟩) hS ?_
  · rintro w' hS'
    go_simp
  simp only [List.setIfInBounds_toArray, List.set_cons_zero, List.set_cons_succ]
  refine nany_take 2 10 (.int .i64 op) rfl rfl (by kernel_rfl) (by kernel_rfl) (by kernel_rfl) (fun _ _ _ h => h) (Or.inl ⟨by rfl, ?_⟩) hS ?_
  · rintro w' hS'
    have hc0 := cell_of hS' (i := 0) (v := .int .i64 op) rfl; go_simp
  simp only [List.setIfInBounds_toArray, List.set_cons_zero, List.set_cons_succ]
  refine nany_take 3 11 (.int .u64 op) rfl rfl (by kernel_rfl) (by kernel_rfl) (by kernel_rfl) (fun _ _ _ h => h) (Or.inl ⟨by rfl, ?_⟩) hS ?_
  · rintro w' hS'
    go_simp
  simp only [List.setIfInBounds_toArray, List.set_cons_zero, List.set_cons_succ]
  refine nany_one 4 (by kernel_rfl) ?_
  refine nop_value' 12 (v := .slice (some ⟨g5, 0, none⟩) 1 1) (w' := W5) rfl (by rfl) rfl (by rw [← HG5.out, HW5.out]; go_simp) ?_
  refine ⟨H5.out, ?_⟩
  simp only [List.setIfInBounds_toArray, List.set_cons_zero, List.set_cons_succ]
  refine nany_one 5 (by kernel_rfl) ?_
  refine nop_callE 13 (f := 28) (args := #[.slice (some ⟨g3, 0, none⟩) 6 6, .int .i64 2, .slice (some ⟨g5, 0, none⟩) 1 1]) (R := fun v w' => ∃ a6 c6, v = .tuple #[.slice a6 8 c6, .int .i64 0] ∧ By w' (New W5) a6 (headM.l ++ bytesBe 2 op) ∧ 8 ≤ c6 ∧ Below W5.heap.size W5 w') rfl (by rfl) rfl (by go_simp) (HPB.out.mono (fun e w' h => by obtain ⟨a2, c2, h1, h2⟩ := h; exact ⟨_, h1, a2, c2, rfl, h2⟩)) ?_
  rintro v w6 ⟨a6, c6, rfl, hy6, hc6, hb6⟩
  have hS6 := (hb6.block g (Array.getElem?_eq_some_iff.1 H5.out).1).trans H5.out
  refine ⟨hS6, ?_⟩
  simp only [List.setIfInBounds_toArray, List.set_cons_zero, List.set_cons_succ]
  refine nany_take 6 7 (.tuple #[.slice a6 8 c6, .int .i64 0]) rfl rfl (by kernel_rfl) (by kernel_rfl) (by kernel_rfl) (fun _ _ _ h => h) (Or.inl ⟨by rfl, ?_⟩) hS6 ?_
  · rintro w' hS'
    go_simp
  simp only [List.setIfInBounds_toArray, List.set_cons_zero, List.set_cons_succ]
  refine nany_take 7 14 (.slice a6 8 c6) rfl rfl (by kernel_rfl) (by kernel_rfl) (by kernel_rfl) (fun _ _ _ h => h) (Or.inl ⟨by rfl, ?_⟩) hS6 ?_
  · rintro w' hS'
    go_simp
  simp only [List.setIfInBounds_toArray, List.set_cons_zero, List.set_cons_succ]
  refine nany_take 8 15 (.int .i64 0) rfl rfl (by kernel_rfl) (by kernel_rfl) (by kernel_rfl) (fun _ _ _ h => h) (Or.inl ⟨by rfl, ?_⟩) hS6 ?_
  · rintro w' hS'
    go_simp
  simp only [List.setIfInBounds_toArray, List.set_cons_zero, List.set_cons_succ]
  refine nany_take 9 4 (.slice a6 8 c6) rfl rfl (by kernel_rfl) (by kernel_rfl) (by kernel_rfl) (fun _ _ _ h => h) (Or.inl ⟨by rfl, ?_⟩) hS6 ?_
  · rintro w' hS'
    go_simp
  simp only [List.setIfInBounds_toArray, List.set_cons_zero, List.set_cons_succ]
  refine nany_take 10 5 (.int .i64 0) rfl rfl (by kernel_rfl) (by kernel_rfl) (by kernel_rfl) (fun _ _ _ h => h) (Or.inl ⟨by rfl, ?_⟩) hS6 ?_
  · rintro w' hS'
    go_simp
  simp only [List.setIfInBounds_toArray, List.set_cons_zero, List.set_cons_succ]
  refine wpAnyH_done (by kernel_rfl) ?_ _
  have HY6 := hid hy6
  have H6 := hid hS6
  have HB6 := hid (HB5.out.trans (hb6.mono HB5.out.size))
  have HB56 := hid HB5.out.size
  clear hy6 hc6 hb6 hS6 hS
  go_upto_region 3 with fail
  refine wp_region_held_drew (S := fun W => W.heap[g]? = some (.cells (msgC op m1 i1 m2 i2) 76 (0, 0))) (by kernel_rfl) H6.out (fun hS => ?_)
  refine nany_take 0 16 (.slice a6 8 c6) rfl rfl (by kernel_rfl) (by kernel_rfl) (by kernel_rfl) (fun _ _ _ h => h) (Or.inl ⟨by rfl, ?_⟩) hS ?_
  · rintro w' hS'
    go_simp
  simp only [List.setIfInBounds_toArray, List.set_cons_zero, List.set_cons_succ]
  refine nany_take 1 17 (.pointer (some ⟨g, 1, none⟩)) rfl rfl (by kernel_rfl) (by kernel_rfl) (by kernel_rfl) (fun _ _ _ h => h) (Or.inl ⟨by rfl, ?_⟩) hS ?_
  · rintro w' hS'
    go_simp
  simp only [List.setIfInBounds_toArray, List.set_cons_zero, List.set_cons_succ]
  refine nany_take 2 18 (.agg (hostC m1 i1)) rfl rfl (by kernel_rfl) (by kernel_rfl) (by kernel_rfl) (fun _ _ _ h => h) (Or.inl ⟨by rfl, ?_⟩) hS ?_
  · rintro w' hS'
    exact ex_mid 70 _ rfl g 1 rfl [.int .u8 m1.a, .int .u8 m1.b, .int .u8 m1.c, .int .u8 m1.d, .int .u8 m1.e, .int .u8 m1.f, .int .u32 i1] (rng hS' 1 _ (range7 rfl rfl rfl rfl rfl rfl rfl)) _ Try.underlying70 rfl sizeHost
  simp only [List.setIfInBounds_toArray, List.set_cons_zero, List.set_cons_succ]
  refine nany_take 4 20 (.pointer (some ⟨g, 8, none⟩)) rfl rfl (by kernel_rfl) (by kernel_rfl) (by kernel_rfl) (fun _ _ _ h => h) (Or.inl ⟨by rfl, ?_⟩) hS ?_
  · rintro w' hS'
    go_simp
  simp only [List.setIfInBounds_toArray, List.set_cons_zero, List.set_cons_succ]
  refine nany_take 5 21 (.agg (hostC m2 i2)) rfl rfl (by kernel_rfl) (by kernel_rfl) (by kernel_rfl) (fun _ _ _ h => h) (Or.inl ⟨by rfl, ?_⟩) hS ?_
  · rintro w' hS'
    exact ex_mid 70 _ rfl g 8 rfl [.int .u8 m2.a, .int .u8 m2.b, .int .u8 m2.c, .int .u8 m2.d, .int .u8 m2.e, .int .u8 m2.f, .int .u32 i2] (rng hS' 8 _ (range7 rfl rfl rfl rfl rfl rfl rfl)) _ Try.underlying70 rfl sizeHost
  simp only [List.setIfInBounds_toArray, List.set_cons_zero, List.set_cons_succ]
  refine nany_one 3 (by kernel_rfl) ?_
  refine nop_callE 19 (f := 52) (args := #[.agg (hostC m1 i1)]) (R := fun v w' => ∃ a7 c7, v = .slice a7 10 c7 ∧ By w' (New w6) a7 (m1.l ++ bytesBe 4 i1) ∧ Below w6.heap.size w6 w') rfl (by rfl) rfl (by go_simp) ((hbytes_any w6.drew m1 i1 HM1.out HI1.out).mono (fun e w' h => by obtain ⟨a2, c2, h1, h2, h3, h4⟩ := h; exact ⟨_, h1, a2, c2, rfl, h2, below_undrew h4⟩)) ?_
  rintro v w7 ⟨a7, c7, rfl, hy7, hb7⟩
  have hS7 := (hb7.block g (Array.getElem?_eq_some_iff.1 H6.out).1).trans H6.out
  refine ⟨hS7, ?_⟩
  simp only [List.setIfInBounds_toArray, List.set_cons_zero, List.set_cons_succ]
  refine nany_one 6 (by kernel_rfl) ?_
  refine nop_callE 22 (f := 52) (args := #[.agg (hostC m2 i2)]) (R := fun v w' => ∃ a8 c8, v = .slice a8 10 c8 ∧ By w' (New w7) a8 (m2.l ++ bytesBe 4 i2) ∧ Below w7.heap.size w7 w') rfl (by rfl) rfl (by go_simp) ((hbytes_any w7 m2 i2 HM2.out HI2.out).mono (fun e w' h => by obtain ⟨a2, c2, h1, h2, h3, h4⟩ := h; exact ⟨_, h1, a2, c2, rfl, h2, h4⟩)) ?_
  rintro v w8 ⟨a8, c8, rfl, hy8, hb8⟩
  have hS8 := (hb8.block g (Array.getElem?_eq_some_iff.1 hS7).1).trans hS7
  refine ⟨hS8, ?_⟩
  simp only [List.setIfInBounds_toArray, List.set_cons_zero, List.set_cons_succ]
  obtain ⟨W9, hW9⟩ : ∃ W, W = w8.alloc (.cells #[.slice a6 8 c6, .slice a7 10 c7, .slice a8 10 c8] 22) := ⟨_, rfl⟩
  have b9 : Below w8.heap.size w8 W9 := by rw [hW9]; exact below_alloc (Below.refl _ _) (Nat.le_refl _) _
  have hS9 : W9.heap[g]? = _ := (b9.block g (Array.getElem?_eq_some_iff.1 hS8).1).trans hS8
  have hrow : RowsOf W9 (some ⟨w8.heap.size, 0, none⟩) [headM.l ++ bytesBe 2 op, m1.l ++ bytesBe 4 i1, m2.l ++ bytesBe 4 i2] := by
    rw [hW9]; exact rows3 w8 a6 a7 a8 8 10 10 c6 c7 c8 _ _ _ (by simp [len_be, Mac.len]) (by simp [len_be, Mac.len]) (by simp [len_be, Mac.len]) (HY6.out.bytes.later (hb7.trans (hb8.mono hb7.size))) (hy7.bytes.later hb8) hy8.bytes
  refine nany_one 7 (by kernel_rfl) ?_
  refine nop_value' 23 (v := .slice (some ⟨w8.heap.size, 0, none⟩) 3 3) (w' := W9) rfl (by rfl) rfl (by rw [hW9]; go_simp) ?_
  refine ⟨hS9, ?_⟩
  simp only [List.setIfInBounds_toArray, List.set_cons_zero, List.set_cons_succ]
  refine nany_one 8 (by kernel_rfl) ?_
  refine nop_callE 24 (f := 29) (args := #[.slice (some ⟨w8.heap.size, 0, none⟩) 3 3]) (R := fun v w' => ∃ a2 c2, v = .slice a2 28 c2 ∧ By w' (New W9) a2 (arpL op m1 i1 m2 i2) ∧ 28 ≤ c2 ∧ Below W9.heap.size W9 w') rfl (by rfl) rfl (by go_simp) ((Concat_any W9 (some ⟨w8.heap.size, 0, none⟩) 3 3 28 [headM.l ++ bytesBe 2 op, m1.l ++ bytesBe 4 i1, m2.l ++ bytesBe 4 i2] rfl (by omega) hrow (by simp [len_be, Mac.len]) (by omega) (by omega)).mono (fun e w' h => by obtain ⟨a2, c2, h1, h2, h3, h4⟩ := h; exact ⟨_, h1, a2, c2, rfl, by rw [← arp_flat]; exact h2, h3, h4⟩)) ?_
  rintro v w10 ⟨a10, c10, rfl, hy10, hc10, hb10⟩
  have hS10 := (hb10.block g (Array.getElem?_eq_some_iff.1 hS9).1).trans hS9
  refine ⟨hS10, ?_⟩
  simp only [List.setIfInBounds_toArray, List.set_cons_zero, List.set_cons_succ]
  refine nany_take 9 2 (.slice a10 28 c10) rfl rfl (by kernel_rfl) (by kernel_rfl) (by kernel_rfl) (fun _ _ _ h => h) (Or.inl ⟨by rfl, ?_⟩) hS10 ?_
  · rintro w' hS'
    go_simp
  simp only [List.setIfInBounds_toArray, List.set_cons_zero, List.set_cons_succ]
  refine wpAnyH_done (by kernel_rfl) ?_ _
  have HY10 := hid hy10
  have HC10 := hid hc10
  have hB7 := HB6.out.trans (hb7.mono HB6.out.size)
  have hB8 := hB7.trans (hb8.mono hB7.size)
  have hB9 := hB8.trans (b9.mono hB8.size)
  have HB10 := hid (hB9.trans (hb10.mono hB9.size))
  have HB9 := hid hB9.size
  clear hy10 hc10 hb10 hB7 hB8 hB9 hb7 hb8 b9 hW9 hS hS7 hS8 hS9 hS10 hrow hy7 hy8
  go_wp2
  go_ret
  exact ⟨a10, c10, rfl, HY10.out.weak (fun x hx _ => Nat.le_trans HB9.out hx), HC10.out, HB10.out⟩
end Go.Proofs.Ytlflbpemjlgdiaa
