/- The heads that the document's driver tells are those that the program's tells. -/
import Derived.Test.YtjnhcbompgmknaaRefF
namespace Go.Proofs.Ytjnhcbompgmknaa
open Go.RowKit

theorem rising_eq : ∀ (L L' : List Int), L.Pairwise (· < ·) → L'.Pairwise (· < ·) → (∀ k, k ∈ L ↔ k ∈ L') → L = L'
  | [], [], _, _, _ => rfl
  | [], y :: r, _, _, h => by have := (h y).2 (by simp); simp at this
  | x :: r, [], _, _, h => by have := (h x).1 (by simp); simp at this
  | x :: r, y :: s, hL, hL', h => by
    rw [List.pairwise_cons] at hL hL'
    have hxy : x = y := by
      have h1 := (h x).1 (by simp)
      have h2 := (h y).2 (by simp)
      rcases List.mem_cons.1 h1 with e | h1
      · exact e
      · rcases List.mem_cons.1 h2 with e | h2
        · exact e.symm
        · have := hL'.1 x h1
          have := hL.1 y h2
          omega
    subst hxy
    congr 1
    refine rising_eq r s hL.2 hL'.2 (fun k => ⟨fun hk => ?_, fun hk => ?_⟩)
    · rcases List.mem_cons.1 ((h k).1 (List.mem_cons_of_mem _ hk)) with e | h1
      · have := hL.1 k hk; omega
      · exact h1
    · rcases List.mem_cons.1 ((h k).2 (List.mem_cons_of_mem _ hk)) with e | h1
      · have := hL'.1 k hk; omega
      · exact h1

theorem hk_mem (F : List (Nat × Value)) (k : Nat) (x : Int) : x ∈ hk F k F.length ↔ x = k ∧ ∃ p ∈ F, p.1 = k := by
  simp only [hk, List.take_length, List.mem_map, List.mem_filter, beq_iff_eq]
  constructor
  · rintro ⟨p, ⟨h1, h2⟩, rfl⟩
    exact ⟨rfl, p, h1, h2⟩
  · rintro ⟨rfl, p, h1, h2⟩
    exact ⟨p, ⟨h1, h2⟩, rfl⟩
theorem hk_one (F : List (Nat × Value)) (k : Nat) (hn : (F.map (·.1)).Nodup) : (hk F k F.length).length ≤ 1 := by
  unfold hk
  rw [List.length_map, List.take_length]
  induction F with
  | nil => simp
  | cons p F ih =>
    rw [List.map_cons, List.nodup_cons] at hn
    rw [List.filter_cons]
    split
    · rename_i hp
      have : F.filter (fun p => p.1 == k) = [] := by
        rw [List.filter_eq_nil_iff]
        intro r hr e
        simp only [beq_iff_eq] at e hp
        exact hn.1 (List.mem_map.2 ⟨r, hr, by omega⟩)
      rw [this]
      simp
    · exact ih hn.2
theorem hh_mem (F : List (Nat × Value)) (n : Nat) (x : Int) : x ∈ hh F n ↔ ∃ p ∈ F, (p.1 : Int) = x ∧ p.1 < n := by
  induction n with
  | zero => simp [hh]
  | succ n ih =>
    rw [hh, List.mem_append, ih, hk_mem]
    constructor
    · rintro (⟨p, h1, h2, h3⟩ | ⟨rfl, p, h1, h2⟩)
      · exact ⟨p, h1, h2, by omega⟩
      · exact ⟨p, h1, by omega, by omega⟩
    · rintro ⟨p, h1, h2, h3⟩
      by_cases e : p.1 = n
      · exact .inr ⟨by omega, p, h1, e⟩
      · exact .inl ⟨p, h1, h2, by omega⟩
theorem hh_rising (F : List (Nat × Value)) (n : Nat) (hn : (F.map (·.1)).Nodup) : (hh F n).Pairwise (· < ·) := by
  induction n with
  | zero => simp [hh]
  | succ n ih =>
    rw [hh, List.pairwise_append]
    refine ⟨ih, ?_, fun x hx y hy => ?_⟩
    · have := hk_one F n hn
      match h : hk F n F.length with
      | [] => simp
      | [a] => simp
      | a :: b :: r => rw [h] at this; simp at this
    · obtain ⟨p, _, h2, h3⟩ := (hh_mem F n x).1 hx
      obtain ⟨rfl, _⟩ := (hk_mem F n y).1 hy
      omega
theorem look_isSome (fl : List (Nat × List Nat)) (k : Int) : (look fl k).isSome = true ↔ ∃ p ∈ fl, (p.1 : Int) = k := by
  simp only [look, Option.isSome_map, List.find?_isSome, decide_eq_true_eq]
/-- Both sides tell the same heads. -/
theorem heads_same {A : Abs} {L : List Int} (h : Flies A L) (F : List (Nat × Value)) (n : Nat) (he : F.map (·.1) = A.fl.map (·.1)) (hn : (A.fl.map (·.1)).Nodup) (hb : ∀ p ∈ A.fl, p.1 < n) : L = hh F n := by
  refine rising_eq _ _ h.1 (hh_rising F n (he ▸ hn)) (fun k => ?_)
  rw [h.2 k, look_isSome, hh_mem]
  constructor
  · rintro ⟨p, h1, h2⟩
    have h3 : p.1 ∈ F.map (·.1) := by rw [he]; exact List.mem_map.2 ⟨p, h1, rfl⟩
    obtain ⟨r, h4, h5⟩ := List.mem_map.1 h3
    have := hb p h1
    exact ⟨r, h4, by omega, by omega⟩
  · rintro ⟨p, h1, h2, _⟩
    have h3 : p.1 ∈ A.fl.map (·.1) := by rw [← he]; exact List.mem_map.2 ⟨p, h1, rfl⟩
    obtain ⟨r, h4, h5⟩ := List.mem_map.1 h3
    exact ⟨r, h4, by omega⟩

/-- How many are free: as many as the list of the free ones has. -/
theorem cnt_free (t : Nat → Bool) (n : Nat) : cnt t n = ((List.range n).filter (fun i => !t i)).length := by
  induction n with
  | zero => rfl
  | succ n ih =>
    rw [List.range_succ, List.filter_append, List.length_append, ← ih, cnt]
    cases h : t n <;> simp [h]
theorem cnt_same {n : Nat} {A : Abs} (h : Wf n A) (t : Nat → Bool) (ht : ∀ i, i < n → t i = !(A.free.contains i)) : cnt t n = A.free.length := by
  rw [cnt_free]
  have hnd : (A.free ++ A.fl.flatMap (·.2)).Nodup := h.perm.nodup_iff.2 List.nodup_range
  have hf : A.free.Nodup := (List.nodup_append.1 hnd).1
  refine (List.Perm.length_eq ?_)
  rw [List.perm_ext_iff_of_nodup (List.nodup_range.filter _) hf]
  intro i
  rw [List.mem_filter, List.mem_range]
  constructor
  · rintro ⟨h1, h2⟩
    rw [ht i h1] at h2
    simpa using h2
  · intro h1
    have hm : i ∈ List.range n := h.perm.mem_iff.1 (List.mem_append_left _ h1)
    have hi := List.mem_range.1 hm
    exact ⟨hi, by rw [ht i hi]; simpa using h1⟩
end Go.Proofs.Ytjnhcbompgmknaa
