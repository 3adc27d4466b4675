/- The numbers of what was put, rising: maps.Keys, slices.Sorted at a view's map. -/
import Derived.Test.YtldlnidbeiggoaaGreatDoorVkS
import Derived.Test.YtldlnidbeiggoaaGreatDoorVkB
import Derived.Lib.SlKeysI
namespace Go.Proofs.YtldlnidbeiggoaaGreatDoor
open Go.RowKit Go.Maps
set_option linter.unusedVariables false

theorem keys_of {w : World} {b n : Nat} {M : Int → Option Value} {D : DataW Value} (h1 : w.ownsMap Tryz.prog 3 raw b n D) (h2 : ∀ k, IsI k → ∀ z, D.atKey (.int .i64 k) z = ((M k).map DataW.held).getD z) :
    (intKeys D).Nodup ∧ ∀ k, k ∈ intKeys D ↔ IsI k ∧ (M k).isSome = true := by
  obtain ⟨es, hD, hpw, _⟩ := h1.entries intKey
  obtain ⟨es', hD', hko⟩ := h1.keysOf
  obtain rfl : es = es' := by rw [hD] at hD'; simpa using hD'
  subst hD
  have hk : ∀ p ∈ es, ∃ x, p.1 = .int .i64 x ∧ IsI x := fun p hp => by
    obtain ⟨v, hv⟩ := hko p hp
    obtain ⟨x, _, hx, hw⟩ := Maps.keyOf_int_inv Tryz.underlying3 hv
    exact ⟨x, hx, hw⟩
  refine ⟨?_, fun k => ?_⟩
  · show (es.map fun p => Go.intOf p.1).Nodup
    refine List.pairwise_map.2 (hpw.imp_of_mem fun {p q} hp' hq' hne e => hne ?_)
    obtain ⟨a, ha, _⟩ := hk p hp'
    obtain ⟨b, hb, _⟩ := hk q hq'
    rw [ha, hb] at e ⊢
    exact congrArg _ e
  · have hh : ∀ (hI : IsI k), (Maps.has (.map es) (.int .i64 k) = true ↔ (M k).isSome = true) := by
      intro hI
      cases hM : M k with
      | none =>
        rw [has_false_of_atKey (D := .map es) (k := .int .i64 k) (fun z => by rw [h2 k hI z, hM]; rfl)]
        simp
      | some v =>
        rw [has_true_of_atKey (D := .map es) (k := .int .i64 k) (y := .held v) (fun z => by rw [h2 k hI z, hM]; rfl)]
        simp
    show k ∈ es.map (fun p => Go.intOf p.1) ↔ _
    rw [List.mem_map]
    constructor
    · rintro ⟨p, hp', e⟩
      obtain ⟨a, ha, hI⟩ := hk p hp'
      rw [ha] at e
      obtain rfl : a = k := e
      refine ⟨hI, (hh hI).1 ?_⟩
      rw [has_eq, List.any_eq_true]
      exact ⟨p, hp', by rw [ha]; simp [Lit.sameKey]⟩
    · rintro ⟨hI, hs⟩
      have := (hh hI).2 hs
      rw [has_eq, List.any_eq_true] at this
      obtain ⟨p, hp', hs'⟩ := this
      obtain ⟨a, ha, _⟩ := hk p hp'
      rw [ha] at hs'
      exact ⟨p, hp', by rw [ha]; simpa [Lit.sameKey, Go.intOf] using hs'⟩


open Go.Sort Go.Shelf
theorem sorts_any (m : Nat) : AnyZI.SortsIn Tryz.prog Tryz.sortedA_ren Fence.wide m :=
  ⟨fun blk off cap ss W hH hblk hsz => callsIn_wide.2 (AnyM.slices_Sort_int Tryz.sortA blk off cap ss W hH hblk hsz),
   fun p cap W => callsIn_wide.2 (AnyM.slices_Sort_int_none Tryz.sortA p cap W)⟩
/-- L: the numbers that have something, rising. -/
def KeysL (M : Int → Option Value) (L : List Int) : Prop := L.Pairwise (· < ·) ∧ ∀ k, k ∈ L ↔ IsI k ∧ (M k).isSome = true
theorem Keys_any (mb : Option Nat) (W : World) : Calls Tryz.prog 133 #[.map mb] W fun e w' => e = .returned (.func (.func 156) #[] #[.pointer (some ⟨W.heap.size, 0, none⟩)]) ∧ w' = W.alloc (.cells #[.map mb] 180) :=
  (callsIn_wide (n := 5)).1 (AnyZI.keys_in Tryz.keysD Fence.wide 5 trivial rfl mb W)
set_option maxHeartbeats 1000000 in
theorem Sorted_any {w : World} {m n : Nat} {MV : Int → Option Value} (h : MapIs w m n MV) (hn : n ≤ 1099511627776) :
    Calls Tryz.prog 132 #[.func (.func 156) #[] #[.pointer (some ⟨w.heap.size, 0, none⟩)]] (w.alloc (.cells #[.map (some m)] 180)) fun e w' => ∃ (v : Value) (L : List Int), e = .returned v ∧ KeysL MV L ∧ L.length ≤ n ∧ w'.ownsRow w.heap.size 3 1 v L.length (L.map encZ) ∧ Below w.heap.size w w' := by
  obtain ⟨D0, hown, hat⟩ := h
  have hsz := hown.size_le
  have hmax : Maps.size D0 ≤ maxLen := by unfold maxLen; omega
  have hbytes : Maps.size D0 * 8 ≤ 140737488355328 := by omega
  have hbl := hown.lt
  have hseq : SeqGives Fence.wide 2 Tryz.prog 156 #[.pointer (some ⟨w.heap.size, 0, none⟩)] encZ (fun ss => ss.Perm (intKeys D0)) (Maps.size D0) (w.alloc (.cells #[.map (some m)] 180)) :=
    AnyZI.keys_gives (ρ := Tryz.keysD_ren) { Tryz.keysD with } Fence.wide _ trivial rfl (by omega) w.heap.size m n D0 _ (by simp) (by simp) (by
      obtain ⟨es, clock, hb, Ft, hs, hD⟩ := hown
      exact ⟨es, clock, (Below.heap_alloc _ _ m hbl).trans hb, Ft, hs, hD⟩)
  have cS := AnyZI.sorted_in Tryz.sortedA Fence.wide 5 trivial trivial trivial trivial rfl (by omega) (sorts_any _) (enters_of Tryz.func155 (by kernel_rfl) rfl) 156 #[.pointer (some ⟨w.heap.size, 0, none⟩)] trivial (enters_of Tryz.func156 (by kernel_rfl) rfl) _ _ hmax hbytes _ hseq
  change CallsIn _ _ Tryz.prog 132 _ _ _ at cS
  refine (callsIn_wide.1 cS).mono ?_
  rintro e w' ⟨v, ss, rfl, hS, hrow, hnil, hb⟩
  obtain ⟨hnd, hm⟩ := keys_of hown hat
  have hp2 : (ss.mergeSort (fun x y => decide (x ≤ y))).Perm (intKeys D0) := (List.mergeSort_perm _ _).trans hS
  refine ⟨v, ss.mergeSort (fun x y => decide (x ≤ y)), rfl, ⟨?_, fun k => ?_⟩, ?_, ?_, ((Below.refl _ w).alloc (Nat.le_refl _) _).trans (hb.mono (by simp))⟩
  · have hs : (ss.mergeSort (fun x y => decide (x ≤ y))).Pairwise (fun x y => decide (x ≤ y) = true) := List.pairwise_mergeSort (le := fun x y : Int => decide (x ≤ y)) (fun a b c h h' => by simp at *; omega) (fun a b => by simp; omega) ss
    have hn2 : (ss.mergeSort (fun x y => decide (x ≤ y))).Nodup := hp2.nodup_iff.2 hnd
    exact (hs.and hn2).imp fun ⟨h, h'⟩ => by simp at h; omega
  · rw [hp2.mem_iff, hm k]
  · rw [hp2.length_eq]
    have e : (intKeys D0).length = Maps.size D0 := by cases D0 <;> simp [intKeys, Maps.size]
    omega
  · rw [List.length_mergeSort]
    exact owns_base hrow (fun g hg => by have := (owns_lt hrow hg).2; simp at this; omega)
end Go.Proofs.YtldlnidbeiggoaaGreatDoor
