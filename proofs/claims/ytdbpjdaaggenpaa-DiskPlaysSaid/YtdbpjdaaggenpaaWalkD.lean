/- Dirty: the blocks that have versions, rising. -/
import Derived.Test.YtdbpjdaaggenpaaShelf
import Derived.Test.YtdbpjdaaggenpaaWalkB
namespace Go.Proofs.Ytdbpjdaaggenpaa
open Go.RowKit Go.Maps Go.Sort Go.Shelf

theorem sorts_any (m : Nat) : AnyZI.SortsIn Try.prog Try.sortedA_ren Fence.wide m :=
  ⟨fun blk off cap ss W hH hblk hsz => callsIn_wide.2 (AnyM.slices_Sort_int Try.sortA blk off cap ss W hH hblk hsz),
   fun p cap W => callsIn_wide.2 (AnyM.slices_Sort_int_none Try.sortA p cap W)⟩

/-- L: the dirty blocks, rising. -/
def DirtyL (A : Abs) (L : List Int) : Prop := L.Pairwise (· < ·) ∧ ∀ k, k ∈ L ↔ A.V k ≠ []

theorem dirty_of {w : World} {pd bp bv : Nat} {MP MV : Int → Option Value} {A : Abs} {n : Nat} {al : Nat → Prop} (d : DiskAt w pd bp bv MP MV A n al) {D : DataW Value} (h1 : w.ownsMap Try.prog 3 raw bv n D)
    (h2 : ∀ k, IsI k → ∀ z, D.atKey (.int .i64 k) z = ((MV k).map DataW.held).getD z) {ss : List Int} (hp : ss.Perm (intKeys D)) : DirtyL A (ss.mergeSort (fun x y => decide (x ≤ y))) := by
  obtain ⟨hnd, hm⟩ := keys_of h1 h2
  have hp2 : (ss.mergeSort (fun x y => decide (x ≤ y))).Perm (intKeys D) := (List.mergeSort_perm _ _).trans hp
  refine ⟨?_, fun k => ?_⟩
  · have hs : (ss.mergeSort (fun x y => decide (x ≤ y))).Pairwise (fun x y => decide (x ≤ y) = true) := List.pairwise_mergeSort (le := fun x y : Int => decide (x ≤ y)) (fun a b c h h' => by simp at *; omega) (fun a b => by simp; omega) ss
    have hn2 : (ss.mergeSort (fun x y => decide (x ≤ y))).Nodup := hp2.nodup_iff.2 hnd
    exact (hs.and hn2).imp fun ⟨h, h'⟩ => by simp at h; omega
  · rw [hp2.mem_iff, hm k]
    constructor
    · rintro ⟨hI, hs⟩ h0
      rcases d.rv k hI with ⟨e, _⟩ | ⟨v, _, hv, _⟩
      · rw [e] at hs; cases hs
      · exact hv h0
    · intro hv
      have hb := d.vN k hv
      have hI : IsI k := isI_of (by omega) (by have := d.hN; omega)
      rcases d.rv k hI with ⟨_, e⟩ | ⟨v, e, _, _⟩
      · exact absurd e hv
      · exact ⟨hI, by rw [e]; rfl⟩

set_option maxHeartbeats 1000000 in
theorem Dirty_any (w : World) (pd : Nat) (A : Abs) (n : Nat) (al : Nat → Prop) (hd : Disk w pd A n al) (hn : n ≤ 1099511627776) :
    Calls Try.prog 17 #[.pointer (some ⟨pd, 0, none⟩)] w fun e w' => ∃ (v : Value) (L : List Int), e = .returned v ∧ DirtyL A L ∧
      w'.ownsRow w.heap.size 3 1 v L.length (L.map encZ) ∧ (v = .slice none 0 0 ↔ L = []) ∧ Below w.heap.size w w' := by
  obtain ⟨bp, bv, MP, MV, d⟩ := hd
  obtain ⟨_, _, hc2, _⟩ := d.cells
  obtain ⟨D0, hown, hat⟩ := d.mv
  have hsz := hown.size_le
  have hmax : Maps.size D0 ≤ maxLen := by unfold maxLen; omega
  have hbytes : Maps.size D0 * 8 ≤ 140737488355328 := by omega
  have HD := hid (fun ss (hp : List.Perm ss (intKeys D0)) => dirty_of d hown hat hp)
  clear hat d hsz
  refine (callsIn_wide (n := 6)).1 ?_
  have hbl := hown.lt
  have hseq : SeqGives Fence.wide 2 Try.prog 43 #[.pointer (some ⟨w.heap.size, 0, none⟩)] encZ (fun ss => ss.Perm (intKeys D0)) (Maps.size D0) (w.alloc (.cells #[.map (some bv)] 58)) :=
    AnyZI.keys_gives (ρ := Try.keysA_ren) { Try.keysA with } Fence.wide _ trivial rfl (by omega) w.heap.size bv n D0 _ (by simp) (by simp) (by
      obtain ⟨es, clock, hb, Ft, hs, hD⟩ := hown
      exact ⟨es, clock, (Below.heap_alloc _ _ bv hbl).trans hb, Ft, hs, hD⟩)
  have cK : ∀ mb W, CallsIn Fence.wide 5 Try.prog 38 #[.map mb] W fun e w' => e = .returned (.func (.func 43) #[] #[.pointer (some ⟨W.heap.size, 0, none⟩)]) ∧ w' = W.alloc (.cells #[.map mb] 58) := fun mb W => AnyZI.keys_in Try.keysA Fence.wide 5 trivial rfl mb W
  have cS := AnyZI.sorted_in Try.sortedA Fence.wide 5 trivial trivial trivial trivial rfl (by omega) (sorts_any _) (enters_of Try.func42 (by kernel_rfl) rfl) 43 #[.pointer (some ⟨w.heap.size, 0, none⟩)] trivial (enters_of Try.func43 (by kernel_rfl) rfl) _ _ hmax hbytes _ hseq
  change CallsIn _ _ Try.prog 37 _ _ _ at cS
  have hfK : Fence.wide.fn 38 := trivial
  have hfS : Fence.wide.fn 37 := trivial
  refine callsIn_of_wp Try.func17 rfl trivial ?_ rfl
  simp only [Try.ntmps17, List.size_toArray, List.length_cons, List.length_nil, Nat.reduceAdd, Nat.reduceSub, Array.replicate_succ, Array.replicate_zero, List.push_toArray, List.append_toArray, List.nil_append, List.cons_append]
  gi_wp2_with (first
    | (gi_at_call 38; refine (cK _ _).mono ?_; rintro e w' ⟨rfl, rfl⟩)
    | (gi_at_call 37; refine cS.mono ?_; rintro e w' ⟨v, ss, rfl, hS, hrow, hnil, hb⟩))
  go_ret
  refine ⟨v, ss.mergeSort (fun x y => decide (x ≤ y)), rfl, HD.out ss hS, ?_, ?_, ((Below.refl _ w).alloc (Nat.le_refl _) _).trans (hb.mono (by simp))⟩
  · rw [List.length_mergeSort]
    exact ownsRow_base_a hrow (by simp)
  · rw [hnil, ← List.length_eq_zero_iff, ← List.length_eq_zero_iff (l := ss.mergeSort _), List.length_mergeSort]
end Go.Proofs.Ytdbpjdaaggenpaa
