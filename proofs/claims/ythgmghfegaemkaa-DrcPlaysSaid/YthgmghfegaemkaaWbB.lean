/- Small functions: Clone, Contains, refusalOf, refusal, filledUp. -/
import Derived.Test.YthgmghfegaemkaaWbA
import Derived.Test.YthgmghfegaemkaaCcB
namespace Go.Proofs.Ythgmghfegaemkaa
open Go.RowKit Go.Maps
set_option linter.unusedVariables false

theorem bcell {W w1 : World} (hb : Below W.heap.size W w1) : (∀ b o, b < W.heap.size → w1.cell? ⟨b, o, none⟩ = W.cell? ⟨b, o, none⟩) ∧ (∀ b o, b < W.heap.size → w1.frozen? ⟨b, o, none⟩ = W.frozen? ⟨b, o, none⟩) :=
  ⟨fun b o h => hb.cell (p := ⟨b, o, none⟩) h, fun b o h => hb.frozen (p := ⟨b, o, none⟩) h⟩
theorem info5b : ∃ i, Try.prog.info? 5 = some i ∧ i.zero = some (.int .u8 0) ∧ i.size = 1 ∧ i.bytes = 1 := by
  have := info5
  cases h : Try.prog.info? 5 with
  | none => rw [h] at this; cases this
  | some i => rw [h] at this; simp at this; exact ⟨i, rfl, this.1, this.2.1, this.2.2⟩
theorem info3b : ∃ i, Try.prog.info? 3 = some i ∧ i.zero = some (.int .i64 0) ∧ i.size = 1 ∧ i.bytes = 8 := by
  have : (Try.prog.info? 3).map (fun i => (i.zero, i.size, i.bytes)) = some (some (.int .i64 0), 1, 8) := by kernel_rfl
  cases h : Try.prog.info? 3 with
  | none => rw [h] at this; cases this
  | some i => rw [h] at this; simp at this; exact ⟨i, rfl, this.1, this.2.1, this.2.2⟩
theorem u8s_one (l : List Int) : ∀ u ∈ u8s l, u.oneCell' = true := by
  intro u hu
  obtain ⟨e, _, rfl⟩ := List.mem_map.1 hu
  rfl
/-- What is new. -/
def New (w : World) : Nat → Prop := fun b => w.heap.size ≤ b
theorem New.mono {w w' : World} (h : w.heap.size ≤ w'.heap.size) : ∀ b, New w' b → New w b := fun b hb => Nat.le_trans h hb
def idx (l : List Int) (x : Int) : Int := if x ∈ l then (l.idxOf x : Nat) else -1
theorem take_snocI {l : List Int} {k : Nat} (h : k < l.length) {x : Int} (h1 : x ∉ l.take k) (h2 : l.getD k 0 ≠ x) : x ∉ l.take (k + 1) := by
  rw [take_snoc l k h]
  simp only [List.mem_append, List.mem_singleton, not_or]
  exact ⟨h1, fun e => h2 e.symm⟩
theorem idx_at {l : List Int} {x : Int} {k : Nat} (h : k < l.length) (h1 : x ∉ l.take k) (h2 : l.getD k 0 = x) : idx l x = k := by
  have hm : x ∈ l := by
    rw [← h2]
    simp [List.getD, h]
  unfold idx
  rw [if_pos hm]
  have e : l = l.take k ++ (x :: l.drop (k + 1)) := by
    conv => lhs; rw [← List.take_append_drop k l]
    rw [List.drop_eq_getElem_cons h]
    congr 2
    simpa [List.getD, h] using h2
  rw [e, List.idxOf_append, if_neg h1]
  simp
  omega
theorem idx_none {l : List Int} {x : Int} (h : x ∉ l) : idx l x = -1 := by unfold idx; rw [if_neg h]
theorem idx_nonneg (l : List Int) (x : Int) : decide (0 ≤ idx l x) = decide (x ∈ l) := by
  unfold idx
  split
  · rename_i h; simp [h]
  · rename_i h; simp [h]
/-- A number is put behind a row of a call's own. -/
theorem push_own (w : World) (B : Nat) (v : Value) (l : List Int) (h : w.ownsRow B 3 1 v l.length (ints l)) (hB : B ≤ w.heap.size) (x : Int) (hl : l.length ≤ 1000000) :
    ∃ a n c w', (Builtin.append_ #[52, 52] 52 #[v, .slice (some ⟨w.heap.size, 0, none⟩) 1 1]).run Try.prog (w.alloc (.cells #[.int .i64 x] 3)) = .ok (.slice a n c) w' ∧ n = l.length + 1 ∧ w'.ownsRow B 3 1 (.slice a n c) (l ++ [x]).length (ints (l ++ [x])) ∧ Mods (fun b => v.ownBlock = some b) w w' := by
  have hb1 : Below w.heap.size w (w.alloc (.cells #[.int .i64 x] 3)) := (Below.refl _ _).alloc (Nat.le_refl _) _
  have hs1 : (w.alloc (.cells #[.int .i64 x] 3)).heap.size = w.heap.size + 1 := by simp
  have hr1 : (w.alloc (.cells #[.int .i64 x] 3)).ownsRow 0 3 1 v l.length (ints l) := owns_zero (owns_keep h (fun g hg => hb1.block g (owns_lt h hg).1))
  obtain ⟨v', w', hap, ho, hm, hob⟩ := app_gen (w.alloc (.cells #[.int .i64 x] 3)) 52 52 3 _ 8 Try.underlying52 info3b rfl (by omega) v (ints l) l.length (by simp) hr1 ⟨w.heap.size, 0, none⟩ 1 1 [.int .i64 x] rfl (fun j u hj => by
    have hj2 : j < 1 := (List.getElem?_eq_some_iff.1 hj).1
    obtain rfl : j = 0 := by omega
    rw [add_addr, new_cell _ _ _ _ 0 (by simp)]
    simpa using hj) (by simp [Value.oneCell']) (by omega)
  obtain ⟨a, c, rfl⟩ := owns_slice ho
  refine ⟨a, l.length + 1, c, w', hap, rfl, ?_, (Mods.of_below hb1).tr hm⟩
  have h2 := owns_base (base' := B) ho (fun g hg => by
    rcases hob with e | e
    · rw [e] at hg; exact (owns_lt h hg).2
    · rw [e] at hg; simp at hg; omega)
  simpa [ints] using h2

/-! ### refusalOf, refusal -/
theorem badFrom_hit {l : List Pt} {i k : Nat} (h : badAt l i ≠ 0) : badFrom l i (k + 1) = badAt l i := by rw [badFrom, if_pos h]
theorem badFrom_miss {l : List Pt} {i k : Nat} (h : badAt l i = 0) : badFrom l i (k + 1) = badFrom l (i + 1) k := by rw [badFrom, if_neg (by simp [h])]
theorem blks_take (L : List Pw) (k : Nat) (h : k < L.length) : ((L.map Pw.pt).take (k + 1)).map Pt.blk = ((L.map Pw.pt).take k).map Pt.blk ++ [(L.getD k default).blk] := by
  rw [List.take_succ_eq_append_getElem (by simpa using h), List.map_append]
  simp [List.getD, h, Pw.pt]
end Go.Proofs.Ythgmghfegaemkaa
