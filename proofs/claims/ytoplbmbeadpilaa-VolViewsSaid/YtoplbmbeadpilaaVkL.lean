/- What VolViews leans on: a row of numbers, the numbers that were put in their order. -/
import Derived.Test.YtoplbmbeadpilaaVkR
import Derived.Test.YtoplbmbeadpilaaVhA
namespace Go.Proofs.Ytoplbmbeadpilaa
open Go.RowKit Go.Maps
set_option linter.unusedVariables false

theorem rise_eq : ∀ {L M : List Int}, L.Pairwise (· < ·) → M.Pairwise (· < ·) → (∀ x, x ∈ L ↔ x ∈ M) → L = M
  | [], [], _, _, _ => rfl
  | [], b :: M, _, _, h => by have := (h b).2 (List.mem_cons_self ..); cases this
  | a :: L, [], _, _, h => by have := (h a).1 (List.mem_cons_self ..); cases this
  | a :: L, b :: M, hL, hM, h => by
    rw [List.pairwise_cons] at hL hM
    have e : a = b := by
      rcases List.mem_cons.1 ((h a).1 (List.mem_cons_self ..)) with e | e
      · exact e
      · rcases List.mem_cons.1 ((h b).2 (List.mem_cons_self ..)) with e2 | e2
        · exact e2.symm
        · have := hM.1 a e; have := hL.1 b e2; omega
    subst e
    congr 1
    refine rise_eq hL.2 hM.2 fun x => ⟨fun hx => ?_, fun hx => ?_⟩
    · rcases List.mem_cons.1 ((h x).1 (List.mem_cons_of_mem _ hx)) with e | e
      · have := hL.1 x hx; omega
      · exact e
    · rcases List.mem_cons.1 ((h x).2 (List.mem_cons_of_mem _ hx)) with e | e
      · have := hM.1 x hx; omega
      · exact e
/-- The numbers below n of which f holds, rising. -/
def belN (f : Nat → Bool) (n : Nat) : List Nat := (List.range n).filter f
theorem bel_at (f : Nat → Bool) {N n : Nat} (hn : n < N) (hf : f n = true) : (belN f N)[(belN f n).length]? = some n := by
  obtain ⟨m, rfl⟩ : ∃ m, N = n + (m + 1) := ⟨N - n - 1, by omega⟩
  unfold belN
  rw [List.range_add, List.filter_append, List.getElem?_append_right (Nat.le_refl _), Nat.sub_self, List.range_succ_eq_map, List.map_cons, List.filter_cons]
  rw [if_pos (by simpa using hf)]
  simp
theorem bel_succ (f : Nat → Bool) (n : Nat) : (belN f (n + 1)).length = (belN f n).length + if f n = true then 1 else 0 := by
  unfold belN
  rw [List.range_succ, List.filter_append, List.length_append]
  congr 1
  by_cases h : f n = true
  · simp [h]
  · simp [h]
theorem bel_rise (f : Nat → Bool) (n : Nat) : ((belN f n).map fun x : Nat => (x : Int)).Pairwise (· < ·) := by
  rw [List.pairwise_map]
  refine List.Pairwise.imp (R := (· < ·)) (fun h => by omega) ?_
  exact List.Pairwise.filter _ List.pairwise_lt_range
theorem bel_mem (f : Nat → Bool) (n x : Nat) : x ∈ belN f n ↔ x < n ∧ f x = true := by
  unfold belN; rw [List.mem_filter, List.mem_range]
/-- What was put, by the numbers of a row: all of them, and no others. -/
theorem putK_bel {P : Int → Option (List Int)} {L : List Int} (h : PutK P L) (N : Nat) (hN : N ≤ 100000) (f : Nat → Bool) (hf : ∀ k : Nat, k < N → f k = (P (k : Int)).isSome) (ho : ∀ k : Int, IsI k → ¬ (0 ≤ k ∧ k < N) → P k = none) : L = (belN f N).map fun x : Nat => (x : Int) := by
  refine rise_eq h.1 (bel_rise f N) fun x => ?_
  rw [h.2 x, List.mem_map]
  constructor
  · rintro ⟨h1, h2⟩
    by_cases hx : 0 ≤ x ∧ x < N
    · refine ⟨x.toNat, (bel_mem f N _).2 ⟨by omega, ?_⟩, by omega⟩
      rw [hf _ (by omega), show ((x.toNat : Nat) : Int) = x by omega]
      exact h2
    · rw [ho x h1 hx] at h2; cases h2
  · rintro ⟨y, hy, rfl⟩
    obtain ⟨h1, h2⟩ := (bel_mem f N y).1 hy
    exact ⟨isI_nat (by omega) (by omega), by rw [← hf y h1]; exact h2⟩
/-- A row of numbers. -/
def IntR (w : World) (g m : Nat) (G : Nat → Int) : Prop := ∃ cs, w.heap[g]? = some (.cells cs 3 (0, 0)) ∧ cs.size = m ∧ ∀ k, k < m → cs[k]? = some (n64 (G k))
variable {w w' : World} {g m : Nat} {G G' : Nat → Int}
theorem IntR.cell (h : IntR w g m G) {k : Nat} (hk : k < m) : w.cell? ⟨g, k, none⟩ = some (n64 (G k)) ∧ w.frozen? ⟨g, k, none⟩ = false := by
  obtain ⟨cs, h1, _, h3⟩ := h
  exact ⟨cell_of h1 (h3 k hk), froz_of h1 k⟩
theorem IntR.lt (h : IntR w g m G) : g < w.heap.size := let ⟨_, h1, _⟩ := h; (Array.getElem?_eq_some_iff.1 h1).1
theorem IntR.keep (h : IntR w g m G) (hk : w'.heap[g]? = w.heap[g]?) : IntR w' g m G := let ⟨cs, h1, h2, h3⟩ := h; ⟨cs, hk.trans h1, h2, h3⟩
theorem IntR.set (h : IntR w g m G) {k : Nat} (hk : k < m) (b : Int) (e : ∀ j, j < m → G' j = if j = k then b else G j) : IntR (w.setCell ⟨g, k, none⟩ (n64 b)) g m G' := by
  obtain ⟨cs, h1, h2, h3⟩ := h
  refine ⟨_, setc h1 k (n64 b), by simp [h2], fun j hj => ?_⟩
  by_cases e2 : j = k
  · subst e2
    rw [Array.getElem?_setIfInBounds_self_of_lt (by omega), e j hj, if_pos rfl]
  · rw [Array.getElem?_setIfInBounds_ne (by omega), h3 j hj, e j hj, if_neg e2]
theorem IntR.made (w : World) (m : Nat) : IntR (w.alloc (.cells (madeCells #[n64 0] m) 3)) w.heap.size m (fun _ => 0) :=
  ⟨_, alloc_new w _, by rw [size_madeCells], fun k hk => by rw [← Array.getElem?_toList, toList_madeCells_one]; simp [hk]⟩
end Go.Proofs.Ytoplbmbeadpilaa
