/- Rows of numbers: slices.Clone, slices.Delete and slices.Sort of them; which pieces may not be. -/
import Derived.Test.YtpmbknlafeljlaaDrvB
import Derived.Sort.OwnSortedInts
namespace Go.Proofs.Ytpmbknlafeljlaa
open Go.RowKit Go.Sort Go.Shelf

theorem map_cast (l : List Nat) : (l.map fun (k : Nat) => Value.int .i64 (k : Int)) = (l.map fun (k : Nat) => (k : Int)).map (Value.int .i64) := by simp
theorem IRow.parts {w : World} {gf n cap : Nat} {l : List Nat} (h : IRow w (.slice (some ⟨gf, 0, none⟩) n cap) l) : ∃ cur, w.heap[gf]? = some (.cells cur 3 (0, 0)) ∧ l.length ≤ cap ∧ cap ≤ maxLen ∧ cur.size = cap * 1 ∧ cur.toList.take l.length = (l.map fun (k : Nat) => (k : Int)).map (Value.int .i64) := by
  rcases h.2 with ⟨e, _⟩ | ⟨g, cap', cur, e, _, hh, hc1, hc2, hcs, ht⟩
  · cases e
  · simp only [Value.slice.injEq, Option.some.injEq, Addr.mk.injEq] at e
    obtain ⟨⟨rfl, _⟩, _, rfl⟩ := e
    exact ⟨cur, hh, hc1, hc2, hcs, by rw [← map_cast, ← ht, Nat.mul_one]⟩
theorem Mods.of_grown {w w' : World} {g : Nat} (h : w.grownBy w' (some g)) : Mods (fun b => b = g) w w' :=
  ⟨h.os, h.tape, h.output, h.size, fun b hb hn => h.block b hb (fun e => hn (by simpa using e))⟩

theorem Clone_row (w : World) (gf cap m : Nat) (l : List Nat) (n : Nat) (h : IRow w (.slice (some ⟨gf, 0, none⟩) n cap) l) (hm : m ≤ l.length) (hb : l.length ≤ 65536) :
    Calls Try.prog 56 #[.slice (some ⟨gf, 0, none⟩) m cap] w fun e w' => ∃ v, e = .returned v ∧ w'.ownsRow w.heap.size 3 1 v m ((l.take m).map fun (k : Nat) => Value.int .i64 (k : Int)) ∧ Below w.heap.size w w' := by
  obtain ⟨cur, hh, h1, h2, h3, h4⟩ := h.parts
  have hH := holds_of_blockI (ss := l.map fun (k : Nat) => (k : Int)) hh (by rw [List.length_map]; exact h4)
  refine (Any.slices_Clone_int Try.cloneA gf 0 m cap (l.map fun (k : Nat) => (k : Int)) w (by simpa using hm) (by omega) (fun j hj => ?_)).mono ?_
  · have := (hH j (by simpa using hj)).1
    rw [this]
    simp at hj
    simp [hj, List.getD]
  · rintro e w' ⟨v, rfl, h5, _, h6⟩
    refine ⟨v, rfl, ?_, h6⟩
    rw [← List.map_take] at h5
    rw [map_cast]
    exact h5

theorem Delete_row (w : World) (gf cap m : Nat) (l : List Nat) (n : Nat) (hn : n = l.length) (h : IRow w (.slice (some ⟨gf, 0, none⟩) n cap) l) (hm : m ≤ l.length) :
    Calls Try.prog 57 #[.slice (some ⟨gf, 0, none⟩) n cap, .int .i64 0, .int .i64 m] w fun e w' => e = .returned (.slice (some ⟨gf, 0, none⟩) (n - m) cap) ∧ IRow w' (.slice (some ⟨gf, 0, none⟩) (n - m) cap) (l.drop m) ∧ Mods (fun b => b = gf) w w' := by
  subst hn
  obtain ⟨cur, hh, h1, h2, h3, h4⟩ := h.parts
  have hH := holds_of_blockI (ss := l.map fun (k : Nat) => (k : Int)) hh (by rw [List.length_map]; exact h4)
  have hc := Any.slices_Delete_int Try.deleteA gf 0 cap 0 m (l.map fun (k : Nat) => (k : Int)) w hH (by simpa using h1) (by unfold maxLen at h2; omega) (Nat.zero_le _) (by simpa using hm)
  rw [List.length_map] at hc
  refine hc.mono ?_
  rintro e w' ⟨rfl, q, rfl⟩
  rw [Nat.sub_zero]
  have hb := heap_sortedI (n := q) (os := #[]) ((l.map fun (k : Nat) => (k : Int)).take 0 ++ (l.map fun (k : Nat) => (k : Int)).drop m ++ List.replicate m 0).toArray hh
  rw [grow_empty] at hb
  refine ⟨rfl, ⟨by simp, .inr ⟨gf, cap, _, by rw [List.length_drop], Nat.zero_le _, hb, by simp; omega, h2, by simp [putCells, h3], ?_⟩⟩, ?_⟩
  · have := take_putCellsI cur ((l.map fun (k : Nat) => (k : Int)).take 0 ++ (l.map fun (k : Nat) => (k : Int)).drop m ++ List.replicate m 0) (by simp; omega)
    have h7 := congrArg (List.take (l.length - m)) this
    rw [List.take_take] at h7
    rw [Nat.mul_one, List.length_drop]
    rw [show min (l.length - m) _ = l.length - m from Nat.min_eq_left (by simp)] at h7
    rw [h7]
    simp
    rfl
  · have := grownBy_sortedI (w := w) (g := gf) (n := q) (os := #[]) ((l.map fun (k : Nat) => (k : Int)).take 0 ++ (l.map fun (k : Nat) => (k : Int)).drop m ++ List.replicate m 0).toArray
    rw [grow_empty] at this
    exact Mods.of_grown this

def srt (l : List Nat) : List Nat := l.mergeSort (fun x y => decide (x ≤ y))
theorem srt_cast (l : List Nat) : (l.map fun (k : Nat) => (k : Int)).mergeSort (fun x y => decide (x ≤ y)) = (srt l).map fun (k : Nat) => (k : Int) := by
  unfold srt
  rw [List.map_mergeSort (s := fun x y : Int => decide (x ≤ y))]
  intro a _ b _
  simp
theorem Sort_row (w : World) (gf cap : Nat) (l : List Nat) (n : Nat) (hn : n = l.length) (h : IRow w (.slice (some ⟨gf, 0, none⟩) n cap) l) (hb : l.length ≤ 65536) :
    Calls Try.prog 51 #[.slice (some ⟨gf, 0, none⟩) n cap] w fun e w' => e = .returned (.tuple #[]) ∧ IRow w' (.slice (some ⟨gf, 0, none⟩) n cap) (srt l) ∧ Mods (fun b => b = gf) w w' := by
  subst hn
  obtain ⟨cur, hh, h1, h2, h3, h4⟩ := h.parts
  have hH := holds_of_blockI (ss := l.map fun (k : Nat) => (k : Int)) hh (by rw [List.length_map]; exact h4)
  have hc := AnyM.slices_Sort_int Try.sortA gf 0 cap (l.map fun (k : Nat) => (k : Int)) w hH (Array.getElem?_eq_some_iff.1 hh).1 (by simp; omega)
  rw [List.length_map] at hc
  refine hc.mono ?_
  rintro e w' ⟨rfl, q, os, rfl⟩
  have hl : (srt l).length = l.length := by unfold srt; exact List.length_mergeSort _
  rw [srt_cast]
  refine ⟨rfl, ?_, Mods.of_grown (grownBy_sortedI _)⟩
  have := ownsRow_sortedI (w := w) (base := 0) (n := q) (os := os) (ss := l.map fun (k : Nat) => (k : Int)) (ts := (srt l).map fun (k : Nat) => (k : Int)) (by simp [hl]) (Nat.zero_le _) hh (by simpa using h1) h2 h3
  unfold IRow
  rw [map_cast, hl]
  simpa using this

/-! ### which pieces may not be -/
def anyB (l : List Bf) : Bool := l.any badB
theorem anyB_snoc (l : List Bf) (k : Nat) (h : k < l.length) : anyB (l.take (k + 1)) = (anyB (l.take k) || badB (l.getD k default)) := by
  unfold anyB
  rw [List.take_succ_eq_append_getElem h, List.any_append]
  simp [List.getD, h]
theorem anyB_has (l : List Bf) (k : Nat) (h : k < l.length) (hb : badB (l.getD k default) = true) : anyB l = true := by
  unfold anyB
  rw [List.any_eq_true]
  exact ⟨_, getD_mem l default k h, hb⟩

set_option maxRecDepth 100000 in
set_option maxHeartbeats 1000000 in
theorem IndexFunc_any (w : World) (ab : Option Addr) (m cap g : Nat) (bufs : List Bf) (hb : bufs.length = m) (hB : Bufs w ab bufs g) (h64 : ∀ b ∈ bufs, Is64 b.len) (hm : m ≤ 65536) :
    Calls Try.prog 71 #[.slice ab m cap, .func (.func 55) #[] #[]] w fun e w' => ∃ r : Int, e = .returned (.int .i64 r) ∧ decide (0 ≤ r) = anyB bufs ∧ Below w.heap.size w w' := by
  have Hb := hid hb
  have HBu := hid hB
  have H64 := hid h64
  clear hb hB h64
  go_enter Try.func71, Try.ntmps71
  go_wp2
  go_loopw [8] (fun x wr => ∃ k : Nat, k ≤ m ∧ x = .int .i64 k ∧ Below w.heap.size w wr ∧ anyB (bufs.take k) = false) (fun x _ => m - (RowKit.intOf x).toNat)
  case atStart => exact ⟨0, Nat.zero_le _, rfl, Below.refl _ _, by simp [anyB]⟩
  case round =>
    obtain ⟨k, hk, rfl, hbel, hany⟩ := hrel
    have HBL := hid hbel
    have HA := hid hany
    clear hbel hany
    by_cases hlt : k < m
    · have hki : (k : Int) < m := by omega
      have hkl : k < bufs.length := by rw [Hb.out]; exact hlt
      obtain ⟨bb, ob, hab, _, c0, c1, c2⟩ := HBu.out k hkl
      subst hab
      replace c0 := cell_later HBL.out c0
      replace c1 := cell_later HBL.out c1
      replace c2 := cell_later HBL.out c2
      have hcon := hid (mayNotBe_any wr (bufs.getD k default) (H64.out _ (getD_mem bufs default k hkl)))
      have HS := hid (anyB_snoc bufs k hkl)
      have HH := hid (anyB_has bufs k hkl)
      generalize bufs.getD k default = bf at *
      obtain ⟨a1, a2, a3⟩ := bf
      simp only at c0 c1 c2 hcon
      cases hbad : badB ⟨a1, a2, a3⟩
      · have HBD := hid hbad
        clear hbad
        go_wp2_with (go_at_call 55; refine hcon.out.mono ?_; rintro e w1 ⟨rfl, hb1⟩; rw [HBD.out]; have HB1 := hid hb1; clear hb1)
        go_roundw
        case rel =>
          refine ⟨k + 1, by omega, by go_num, HBL.out.trans (HB1.out.mono HBL.out.size), ?_⟩
          rw [HS.out, HA.out, HBD.out]
          rfl
        case measure => simp [RowKit.intOf]; omega
      · have HBD := hid hbad
        clear hbad
        go_wp2_with (go_at_call 55; refine hcon.out.mono ?_; rintro e w1 ⟨rfl, hb1⟩; rw [HBD.out]; have HB1 := hid hb1; clear hb1)
        go_ret
        exact ⟨_, rfl, by rw [HH.out HBD.out]; simp, HBL.out.trans (HB1.out.mono HBL.out.size)⟩
    · have hki : ¬ ((k : Int) < m) := by omega
      go_wp2
      go_ret
      refine ⟨_, rfl, ?_, HBL.out⟩
      have := HA.out
      rw [List.take_of_length_le (by rw [Hb.out]; omega)] at this
      rw [this]
      rfl
set_option maxRecDepth 100000 in
set_option maxHeartbeats 1000000 in
theorem ContainsFunc_any (w : World) (ab : Option Addr) (m cap g : Nat) (bufs : List Bf) (hb : bufs.length = m) (hB : Bufs w ab bufs g) (h64 : ∀ b ∈ bufs, Is64 b.len) (hm : m ≤ 65536) :
    Calls Try.prog 54 #[.slice ab m cap, .func (.func 55) #[] #[]] w fun e w' => e = .returned (.bool (anyB bufs)) ∧ Below w.heap.size w w' := by
  have HC := hid (IndexFunc_any w ab m cap g bufs hb hB h64 hm)
  clear hb hB h64
  go_enter Try.func54, Try.ntmps54
  go_wp2_with fail
  refine HC.out.mono ?_
  rintro e w1 ⟨r, rfl, hr, hb1⟩
  have HR := hid hr
  have HB1 := hid hb1
  clear hr hb1
  go_wp2
  go_ret
  exact ⟨ret_bool HR.out, HB1.out⟩
end Go.Proofs.Ytpmbknlafeljlaa
