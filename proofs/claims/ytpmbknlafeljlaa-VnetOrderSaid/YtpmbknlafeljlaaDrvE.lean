/- Free, Flying: how many are free, which heads are in flight. -/
import Derived.Test.YtpmbknlafeljlaaDrvD
namespace Go.Proofs.Ytpmbknlafeljlaa
open Go.RowKit Go.Maps Go.Sort Go.Shelf

set_option maxRecDepth 100000 in
set_option maxHeartbeats 400000 in
theorem Free_any (w : World) (pd : Nat) (q : Qu) (A : Abs) (c : Nat) (al : Nat → Prop) (hd : Drv w pd q A c al) :
    Calls Try.prog 29 #[.pointer (some ⟨pd, 0, none⟩)] w fun e w' => e = .returned (.int .i64 A.free.length) ∧ w' = w := by
  obtain ⟨vf, bm, M, d⟩ := hd
  obtain ⟨g, base, n, N, po, pu, Ld, Lo, Lu, geo⟩ := q
  obtain ⟨_, _, _, _, _, _, _, _, _, _, d10, _, _⟩ := d.cells
  obtain ⟨va, vc, rfl⟩ := d.fr.shape
  generalize A.free.length = len at *
  clear d
  go_enter Try.func29, Try.ntmps29
  go_wp2
  go_ret
  exact ⟨rfl, rfl⟩

theorem sorts_any (m : Nat) : AnyZI.SortsIn Try.prog Try.sortedA_ren Fence.wide m :=
  ⟨fun blk off cap ss W hH hblk hsz => callsIn_wide.2 (AnyM.slices_Sort_int Try.sortA blk off cap ss W hH hblk hsz),
   fun p cap W => callsIn_wide.2 (AnyM.slices_Sort_int_none Try.sortA p cap W)⟩

/-- L: the heads in flight, rising. -/
def Flies (A : Abs) (L : List Int) : Prop := L.Pairwise (· < ·) ∧ ∀ k, k ∈ L ↔ (look A.fl k).isSome = true

theorem flies_of {w : World} {pd bm : Nat} {vf : Value} {M : Int → Option Value} {q : Qu} {A : Abs} {c : Nat} {al : Nat → Prop} (d : DrvAt w pd vf bm M q A c al) {D : DataW Value} (h1 : w.ownsMap Try.prog 3 raw bm c D)
    (h2 : ∀ k, IsI k → ∀ z, D.atKey (.int .i64 k) z = ((M k).map DataW.held).getD z) {ss : List Int} (hp : ss.Perm (intKeys D)) : Flies A (ss.mergeSort (fun x y => decide (x ≤ y))) := by
  obtain ⟨hnd, hm⟩ := keys_of h1 h2
  have hp2 : (ss.mergeSort (fun x y => decide (x ≤ y))).Perm (intKeys D) := (List.mergeSort_perm _ _).trans hp
  refine ⟨?_, fun k => ?_⟩
  · have hs : (ss.mergeSort (fun x y => decide (x ≤ y))).Pairwise (fun x y => decide (x ≤ y) = true) := List.pairwise_mergeSort (le := fun x y : Int => decide (x ≤ y)) (fun a b c h h' => by simp at *; omega) (fun a b => by simp; omega) ss
    have hn2 : (ss.mergeSort (fun x y => decide (x ≤ y))).Nodup := hp2.nodup_iff.2 hnd
    exact (hs.and hn2).imp fun ⟨h, h'⟩ => by simp at h; omega
  · rw [hp2.mem_iff, hm k]
    constructor
    · rintro ⟨hI, hs⟩
      rcases d.ch k hI with ⟨e, _⟩ | ⟨v, l, _, hl, _⟩
      · rw [e] at hs; cases hs
      · rw [hl]; rfl
    · intro hs
      obtain ⟨l, hl⟩ := Option.isSome_iff_exists.1 hs
      obtain ⟨x, l1, l2, hfl, hx, _, _⟩ := look_some hl
      have hxl : x < q.n := by
        have := d.wf.perm.mem_iff (a := x)
        have hm1 : x ∈ A.free ++ A.fl.flatMap (·.2) := List.mem_append_right _ (List.mem_flatMap.2 ⟨(x, l), by rw [hfl]; simp, head_mem (d.wf.hd (x, l) (by rw [hfl]; simp))⟩)
        simpa using this.1 hm1
      have hI : IsI k := isI_of (by omega) (by have := q.geo.n2; omega)
      rcases d.ch k hI with ⟨_, e⟩ | ⟨v, _, e, _, _⟩
      · rw [hl] at e; cases e
      · exact ⟨hI, by rw [e]; rfl⟩

set_option maxRecDepth 100000 in
set_option maxHeartbeats 1000000 in
theorem Flying_any (w : World) (pd : Nat) (q : Qu) (A : Abs) (c : Nat) (al : Nat → Prop) (hd : Drv w pd q A c al) (hn : c ≤ 1099511627776) :
    Calls Try.prog 48 #[.pointer (some ⟨pd, 0, none⟩)] w fun e w' => ∃ (v : Value) (L : List Int), e = .returned v ∧ Flies A L ∧ w'.ownsRow w.heap.size 3 1 v L.length (L.map encZ) ∧ Below w.heap.size w w' := by
  obtain ⟨vf, bm, M, d⟩ := hd
  obtain ⟨g, base, n, N, po, pu, Ld, Lo, Lu, geo⟩ := q
  obtain ⟨_, _, _, _, _, _, _, _, _, _, _, d11, _⟩ := d.cells
  obtain ⟨D0, hown, hat⟩ := d.mp
  have hsz := hown.size_le
  have hmax : Maps.size D0 ≤ maxLen := by unfold maxLen; omega
  have hbytes : Maps.size D0 * 8 ≤ 140737488355328 := by omega
  have HD := hid (fun ss (hp : List.Perm ss (intKeys D0)) => flies_of d hown hat hp)
  clear hat d hsz
  refine (callsIn_wide (n := 6)).1 ?_
  have hbl := hown.lt
  have hseq : SeqGives Fence.wide 2 Try.prog 75 #[.pointer (some ⟨w.heap.size, 0, none⟩)] encZ (fun ss => ss.Perm (intKeys D0)) (Maps.size D0) (w.alloc (.cells #[.map (some bm)] 92)) :=
    AnyZI.keys_gives (ρ := Try.keysA_ren) { Try.keysA with } Fence.wide _ trivial rfl (by omega) w.heap.size bm c D0 _ (by simp) (by simp) (by
      obtain ⟨es, clock, hb, Ft, hs, hD⟩ := hown
      exact ⟨es, clock, (Below.heap_alloc _ _ bm hbl).trans hb, Ft, hs, hD⟩)
  have cK : ∀ mb W, CallsIn Fence.wide 5 Try.prog 66 #[.map mb] W fun e w' => e = .returned (.func (.func 75) #[] #[.pointer (some ⟨W.heap.size, 0, none⟩)]) ∧ w' = W.alloc (.cells #[.map mb] 92) := fun mb W => AnyZI.keys_in Try.keysA Fence.wide 5 trivial rfl mb W
  have cS := AnyZI.sorted_in Try.sortedA Fence.wide 5 trivial trivial trivial trivial rfl (by omega) (sorts_any _) (enters_of Try.func51 (by kernel_rfl) rfl) 75 #[.pointer (some ⟨w.heap.size, 0, none⟩)] trivial (enters_of Try.func75 (by kernel_rfl) rfl) _ _ hmax hbytes _ hseq
  change CallsIn _ _ Try.prog 65 _ _ _ at cS
  have hfK : Fence.wide.fn 66 := trivial
  have hfS : Fence.wide.fn 65 := trivial
  refine callsIn_of_wp Try.func48 rfl trivial ?_ rfl
  simp only [Try.ntmps48, List.size_toArray, List.length_cons, List.length_nil, Nat.reduceAdd, Nat.reduceSub, Array.replicate_succ, Array.replicate_zero, List.push_toArray, List.append_toArray, List.nil_append, List.cons_append]
  gi_wp2_with (first
    | (gi_at_call 66; refine (cK _ _).mono ?_; rintro e w' ⟨rfl, rfl⟩)
    | (gi_at_call 65; refine cS.mono ?_; rintro e w' ⟨v, ss, rfl, hS, hrow, hnil, hb⟩))
  go_ret
  refine ⟨v, ss.mergeSort (fun x y => decide (x ≤ y)), rfl, HD.out ss hS, ?_, ((Below.refl _ w).alloc (Nat.le_refl _) _).trans (hb.mono (by simp))⟩
  rw [List.length_mergeSort]
  exact ownsRow_base_a hrow (by simp)
end Go.Proofs.Ytpmbknlafeljlaa
