/- A key as the document's: theirs; keys compared. -/
import Derived.Test.YthgmghfegaemkaaQcA
import Derived.Laws.StructEq
namespace Go.Proofs.Ythgmghfegaemkaa
open Go.RowKit Go.Maps
set_option linter.unusedVariables false

theorem sizeDKy : (Try.prog.info? 40).map (·.size) = some 5 := by kernel_rfl
set_option maxRecDepth 100000 in
set_option maxHeartbeats 2000000 in
theorem theirs_any (w : World) (K : Ky) : Calls Try.prog 10 #[kV K] w fun e w' => e = .returned (kV K) ∧ Below w.heap.size w w' := by
  obtain ⟨g1, hg1⟩ : ∃ g, w.heap.size = g := ⟨_, rfl⟩
  obtain ⟨W1, hW1⟩ : ∃ W, W = w.alloc (.cells (kL K).toArray 33) := ⟨_, rfl⟩
  have b1 : Below w.heap.size w W1 := by rw [hW1]; exact below_alloc (Below.refl _ _) (Nat.le_refl _) _
  have h1 : W1.heap[g1]? = some (.cells (kL K).toArray 33 (0, 0)) := by rw [hW1, ← hg1]; exact alloc_new w _
  obtain ⟨g2, hg2⟩ : ∃ g, W1.heap.size = g := ⟨_, rfl⟩
  obtain ⟨W2, hW2⟩ : ∃ W, W = W1.alloc (.cells kZ 40) := ⟨_, rfl⟩
  have b12 : Below W1.heap.size W1 W2 := by rw [hW2]; exact below_alloc (Below.refl _ _) (Nat.le_refl _) _
  have h2 : W2.heap[g2]? = some (.cells kZ 40 (0, 0)) := by rw [hW2, ← hg2]; exact alloc_new W1 _
  have h21 := (b12.block g1 (Array.getElem?_eq_some_iff.1 h1).1).trans h1
  have k0 : W2.cell? ⟨g1, 0, none⟩ = some (.int .u32 K.ip) := cell_of h21 rfl
  have k1 : W2.cell? ⟨g1, 1, none⟩ = some (.int .i64 K.port) := cell_of h21 rfl
  have k2 : W2.cell? ⟨g1, 2, none⟩ = some (.int .u32 K.xid) := cell_of h21 rfl
  have k3 : W2.cell? ⟨g1, 3, none⟩ = some (.int .u32 K.proc) := cell_of h21 rfl
  have k4 : W2.cell? ⟨g1, 4, none⟩ = some (.int .u32 K.sum) := cell_of h21 rfl
  have HB2 := hid (b1.trans (b12.mono b1.size))
  have HG := hid (show w.heap.size ≤ g2 by rw [← hg2]; exact b1.size)
  have H2 := hid h2
  have HW := hW1.symm
  have HV := hW2.symm
  clear hW1 hW2 b1 b12 h1 h2 h21
  go_enter Try.func10, Try.ntmps10
  go_wp2_with (refine wpList_store_row rfl 40 _ _ rfl g2 (kL K).toArray rfl rfl 40 _ H2.out sizeDKy rfl (kOne K) ?_)
  refine bodyPost_ret (results_c rfl _ _ g2 (kL K).toArray _ _ rfl (setRow_heap _ g2 _ _ _ _ H2.out) Try.underlying40 sizeDKy) rfl ⟨rfl, ?_⟩
  exact (setRow_mods _ g2 _).to_below HB2.out HB2.out.size (fun y hy => by rw [hy]; exact HG.out)
set_option maxRecDepth 100000 in
theorem eqlDr (K J : Ky) (w : World) : (binOp .eql 33 (kV K) (kV J)).run Try.prog w = .ok (.bool (decide (K = J))) w := by
  have u3 := Try.underlying3
  have u32 := Try.underlying31
  have hS : Try.prog.underlying 33 = some (.struct (Try.prog.fieldsOf 33)) := by kernel_rfl
  have hp : Try.prog.stoodInHeld 33 = false := by kernel_rfl
  obtain ⟨a, b, c, d, e⟩ := K
  obtain ⟨a', b', c', d', e'⟩ := J
  rw [run_eql_struct, show (10000 : Nat) = 9999 + 1 from rfl, run_equalIn_agg w 9999 33 _ _ hS hp]
  simp only [Program.fieldsOf, Try.underlying33]
  go_simp
  by_cases h1 : a = a' <;> by_cases h2 : b = b' <;> by_cases h3 : c = c' <;> by_cases h4 : d = d' <;> by_cases h5 : e = e' <;> simp [h1, h2, h3, h4, h5]
set_option maxRecDepth 100000 in
theorem neqDr (K J : Ky) (w : World) : (binOp .neq 33 (kV K) (kV J)).run Try.prog w = .ok (.bool (!(decide (K = J)))) w := by
  have u3 := Try.underlying3
  have u32 := Try.underlying31
  have hS : Try.prog.underlying 33 = some (.struct (Try.prog.fieldsOf 33)) := by kernel_rfl
  have hp : Try.prog.stoodInHeld 33 = false := by kernel_rfl
  obtain ⟨a, b, c, d, e⟩ := K
  obtain ⟨a', b', c', d', e'⟩ := J
  rw [run_neq_struct, show (10000 : Nat) = 9999 + 1 from rfl, run_equalIn_agg w 9999 33 _ _ hS hp]
  simp only [Program.fieldsOf, Try.underlying33]
  go_simp
  by_cases h1 : a = a' <;> by_cases h2 : b = b' <;> by_cases h3 : c = c' <;> by_cases h4 : d = d' <;> by_cases h5 : e = e' <;> simp [h1, h2, h3, h4, h5]
set_option maxRecDepth 100000 in
theorem eqlD (K J : Ky) (w : World) : (binOp .eql 40 (kV K) (kV J)).run Try.prog w = .ok (.bool (decide (K = J))) w := by
  have u3 := Try.underlying3
  have u32 := Try.underlying31
  have hS : Try.prog.underlying 40 = some (.struct (Try.prog.fieldsOf 40)) := by kernel_rfl
  have hp : Try.prog.stoodInHeld 40 = false := by kernel_rfl
  obtain ⟨a, b, c, d, e⟩ := K
  obtain ⟨a', b', c', d', e'⟩ := J
  rw [run_eql_struct, show (10000 : Nat) = 9999 + 1 from rfl, run_equalIn_agg w 9999 40 _ _ hS hp]
  simp only [Program.fieldsOf, Try.underlying40]
  go_simp
  by_cases h1 : a = a' <;> by_cases h2 : b = b' <;> by_cases h3 : c = c' <;> by_cases h4 : d = d' <;> by_cases h5 : e = e' <;> simp [h1, h2, h3, h4, h5]
set_option maxRecDepth 100000 in
theorem neqD (K J : Ky) (w : World) : (binOp .neq 40 (kV K) (kV J)).run Try.prog w = .ok (.bool (!(decide (K = J)))) w := by
  have u3 := Try.underlying3
  have u32 := Try.underlying31
  have hS : Try.prog.underlying 40 = some (.struct (Try.prog.fieldsOf 40)) := by kernel_rfl
  have hp : Try.prog.stoodInHeld 40 = false := by kernel_rfl
  obtain ⟨a, b, c, d, e⟩ := K
  obtain ⟨a', b', c', d', e'⟩ := J
  rw [run_neq_struct, show (10000 : Nat) = 9999 + 1 from rfl, run_equalIn_agg w 9999 40 _ _ hS hp]
  simp only [Program.fieldsOf, Try.underlying40]
  go_simp
  by_cases h1 : a = a' <;> by_cases h2 : b = b' <;> by_cases h3 : c = c' <;> by_cases h4 : d = d' <;> by_cases h5 : e = e' <;> simp [h1, h2, h3, h4, h5]
end Go.Proofs.Ythgmghfegaemkaa
