/- RowA, PureA in one text. -/
import Derived.Test.YtdjghkngiicncaaGreatDrvB
import Derived.Sort.OwnSortedInts
/- Rows of numbers: slices.Clone, slices.Delete and slices.Sort of them; which pieces may not be. -/
namespace Go.Proofs.YtdjghkngiicncaaGreat
open Go.RowKit Go.Sort Go.Shelf

theorem map_cast (l : List Nat) : (l.map fun (k : Nat) => Value.int .i64 (k : Int)) = (l.map fun (k : Nat) => (k : Int)).map (Value.int .i64) := by simp
theorem IRow.parts {w : World} {gf n cap : Nat} {l : List Nat} (h : IRow w (.slice (some ⟨gf, 0, none⟩) n cap) l) : ∃ cur, w.heap[gf]? = some (.cells cur 3 (0, 0)) ∧ l.length ≤ cap ∧ cap ≤ maxLen ∧ cur.size = cap * 1 ∧ cur.toList.take l.length = (l.map fun (k : Nat) => (k : Int)).map (Value.int .i64) := by
  rcases h.2 with ⟨e, _⟩ | ⟨g, cap', cur, e, _, hh, hc1, hc2, hcs, ht⟩
  · cases e
  · simp only [Value.slice.injEq, Option.some.injEq, Addr.mk.injEq] at e
    obtain ⟨⟨rfl, _⟩, _, rfl⟩ := e
    exact ⟨cur, hh, hc1, hc2, hcs, by rw [← map_cast, ← ht, Nat.mul_one]⟩
theorem Mods.of_grown {w w' : World} {g : Nat} (h : w.grownBy w' (some g)) : Mods (fun b => b = g) w w' :=
  ⟨h.os, h.tape, h.output, h.size, fun b hb hn => h.block b hb (fun e => hn (by simpa using e))⟩

theorem Clone_row (w : World) (gf cap m : Nat) (l : List Nat) (n : Nat) (h : IRow w (.slice (some ⟨gf, 0, none⟩) n cap) l) (hm : m ≤ l.length) (hb : l.length ≤ 65536) :
    Calls Tryz.prog 76 #[.slice (some ⟨gf, 0, none⟩) m cap] w fun e w' => ∃ v, e = .returned v ∧ w'.ownsRow w.heap.size 3 1 v m ((l.take m).map fun (k : Nat) => Value.int .i64 (k : Int)) ∧ Below w.heap.size w w' := by
  obtain ⟨cur, hh, h1, h2, h3, h4⟩ := h.parts
  have hH := holds_of_blockI (ss := l.map fun (k : Nat) => (k : Int)) hh (by rw [List.length_map]; exact h4)
  refine (Any.slices_Clone_int Tryz.cloneA gf 0 m cap (l.map fun (k : Nat) => (k : Int)) w (by simpa using hm) (by omega) (fun j hj => ?_)).mono ?_
  · have := (hH j (by simpa using hj)).1
    rw [this]
    simp at hj
    simp [hj, List.getD]
  · rintro e w' ⟨v, rfl, h5, _, h6⟩
    refine ⟨v, rfl, ?_, h6⟩
    rw [← List.map_take] at h5
    rw [map_cast]
    exact h5

theorem Delete_row (w : World) (gf cap m : Nat) (l : List Nat) (n : Nat) (hn : n = l.length) (h : IRow w (.slice (some ⟨gf, 0, none⟩) n cap) l) (hm : m ≤ l.length) :
    Calls Tryz.prog 77 #[.slice (some ⟨gf, 0, none⟩) n cap, .int .i64 0, .int .i64 m] w fun e w' => e = .returned (.slice (some ⟨gf, 0, none⟩) (n - m) cap) ∧ IRow w' (.slice (some ⟨gf, 0, none⟩) (n - m) cap) (l.drop m) ∧ Mods (fun b => b = gf) w w' := by
  subst hn
  obtain ⟨cur, hh, h1, h2, h3, h4⟩ := h.parts
  have hH := holds_of_blockI (ss := l.map fun (k : Nat) => (k : Int)) hh (by rw [List.length_map]; exact h4)
  have hc := Any.slices_Delete_int Tryz.deleteA gf 0 cap 0 m (l.map fun (k : Nat) => (k : Int)) w hH (by simpa using h1) (by unfold maxLen at h2; omega) (Nat.zero_le _) (by simpa using hm)
  rw [List.length_map] at hc
  refine hc.mono ?_
  rintro e w' ⟨rfl, q, rfl⟩
  rw [Nat.sub_zero]
  have hb := heap_sortedI (n := q) (os := #[]) ((l.map fun (k : Nat) => (k : Int)).take 0 ++ (l.map fun (k : Nat) => (k : Int)).drop m ++ List.replicate m 0).toArray hh
  rw [grow_empty] at hb
  refine ⟨rfl, ⟨by simp, .inr ⟨gf, cap, _, by rw [List.length_drop], Nat.zero_le _, hb, by simp; omega, h2, by simp [putCells, h3], ?_⟩⟩, ?_⟩
  · have := take_putCellsI cur ((l.map fun (k : Nat) => (k : Int)).take 0 ++ (l.map fun (k : Nat) => (k : Int)).drop m ++ List.replicate m 0) (by simp; omega)
    have h7 := congrArg (List.take (l.length - m)) this
    rw [List.take_take] at h7
    rw [Nat.mul_one, List.length_drop]
    rw [show min (l.length - m) _ = l.length - m from Nat.min_eq_left (by simp)] at h7
    rw [h7]
    simp
    rfl
  · have := grownBy_sortedI (w := w) (g := gf) (n := q) (os := #[]) ((l.map fun (k : Nat) => (k : Int)).take 0 ++ (l.map fun (k : Nat) => (k : Int)).drop m ++ List.replicate m 0).toArray
    rw [grow_empty] at this
    exact Mods.of_grown this

def srt (l : List Nat) : List Nat := l.mergeSort (fun x y => decide (x ≤ y))
theorem srt_cast (l : List Nat) : (l.map fun (k : Nat) => (k : Int)).mergeSort (fun x y => decide (x ≤ y)) = (srt l).map fun (k : Nat) => (k : Int) := by
  unfold srt
  rw [List.map_mergeSort (s := fun x y : Int => decide (x ≤ y))]
  intro a _ b _
  simp
theorem Sort_row (w : World) (gf cap : Nat) (l : List Nat) (n : Nat) (hn : n = l.length) (h : IRow w (.slice (some ⟨gf, 0, none⟩) n cap) l) (hb : l.length ≤ 65536) :
    Calls Tryz.prog 65 #[.slice (some ⟨gf, 0, none⟩) n cap] w fun e w' => e = .returned (.tuple #[]) ∧ IRow w' (.slice (some ⟨gf, 0, none⟩) n cap) (srt l) ∧ Mods (fun b => b = gf) w w' := by
  subst hn
  obtain ⟨cur, hh, h1, h2, h3, h4⟩ := h.parts
  have hH := holds_of_blockI (ss := l.map fun (k : Nat) => (k : Int)) hh (by rw [List.length_map]; exact h4)
  have hc := AnyM.slices_Sort_int Tryz.sortA gf 0 cap (l.map fun (k : Nat) => (k : Int)) w hH (Array.getElem?_eq_some_iff.1 hh).1 (by simp; omega)
  rw [List.length_map] at hc
  refine hc.mono ?_
  rintro e w' ⟨rfl, q, os, rfl⟩
  have hl : (srt l).length = l.length := by unfold srt; exact List.length_mergeSort _
  rw [srt_cast]
  refine ⟨rfl, ?_, Mods.of_grown (grownBy_sortedI _)⟩
  have := ownsRow_sortedI (w := w) (base := 0) (n := q) (os := os) (ss := l.map fun (k : Nat) => (k : Int)) (ts := (srt l).map fun (k : Nat) => (k : Int)) (by simp [hl]) (Nat.zero_le _) hh (by simpa using h1) h2 h3
  unfold IRow
  rw [map_cast, hl]
  simpa using this

/-! ### which pieces may not be -/
def anyB (l : List Bf) : Bool := l.any badB
theorem anyB_snoc (l : List Bf) (k : Nat) (h : k < l.length) : anyB (l.take (k + 1)) = (anyB (l.take k) || badB (l.getD k default)) := by
  unfold anyB
  rw [List.take_succ_eq_append_getElem h, List.any_append]
  simp [List.getD, h]
theorem anyB_has (l : List Bf) (k : Nat) (h : k < l.length) (hb : badB (l.getD k default) = true) : anyB l = true := by
  unfold anyB
  rw [List.any_eq_true]
  exact ⟨_, getD_mem l default k h, hb⟩

set_option maxRecDepth 100000 in
set_option maxHeartbeats 1000000 in
theorem IndexFunc_any (w : World) (ab : Option Addr) (m cap g : Nat) (bufs : List Bf) (hb : bufs.length = m) (hB : Bufs w ab bufs g) (h64 : ∀ b ∈ bufs, Is64 b.len) (hm : m ≤ 65536) :
    Calls Tryz.prog 92 #[.slice ab m cap, .func (.func 75) #[] #[]] w fun e w' => ∃ r : Int, e = .returned (.int .i64 r) ∧ decide (0 ≤ r) = anyB bufs ∧ Below w.heap.size w w' := by
  have Hb := hid hb
  have HBu := hid hB
  have H64 := hid h64
  clear hb hB h64
  go_enter Tryz.func92, Tryz.ntmps92
  go_wp2
  go_loopw [8] (fun x wr => ∃ k : Nat, k ≤ m ∧ x = .int .i64 k ∧ Below w.heap.size w wr ∧ anyB (bufs.take k) = false) (fun x _ => m - (RowKit.intOf x).toNat)
  case atStart => exact ⟨0, Nat.zero_le _, rfl, Below.refl _ _, by simp [anyB]⟩
  case round =>
    obtain ⟨k, hk, rfl, hbel, hany⟩ := hrel
    have HBL := hid hbel
    have HA := hid hany
    clear hbel hany
    by_cases hlt : k < m
    · have hki : (k : Int) < m := by omega
      have hkl : k < bufs.length := by rw [Hb.out]; exact hlt
      obtain ⟨bb, ob, hab, _, c0, c1, c2⟩ := HBu.out k hkl
      subst hab
      replace c0 := cell_later HBL.out c0
      replace c1 := cell_later HBL.out c1
      replace c2 := cell_later HBL.out c2
      have hcon := hid (mayNotBe_any wr (bufs.getD k default) (H64.out _ (getD_mem bufs default k hkl)))
      have HS := hid (anyB_snoc bufs k hkl)
      have HH := hid (anyB_has bufs k hkl)
      generalize bufs.getD k default = bf at *
      obtain ⟨a1, a2, a3⟩ := bf
      simp only at c0 c1 c2 hcon
      cases hbad : badB ⟨a1, a2, a3⟩
      · have HBD := hid hbad
        clear hbad
        go_wp2_with (go_at_call 75; refine hcon.out.mono ?_; rintro e w1 ⟨rfl, hb1⟩; rw [HBD.out]; have HB1 := hid hb1; clear hb1)
        go_roundw
        case rel =>
          refine ⟨k + 1, by omega, by go_num, HBL.out.trans (HB1.out.mono HBL.out.size), ?_⟩
          rw [HS.out, HA.out, HBD.out]
          rfl
        case measure => simp [RowKit.intOf]; omega
      · have HBD := hid hbad
        clear hbad
        go_wp2_with (go_at_call 75; refine hcon.out.mono ?_; rintro e w1 ⟨rfl, hb1⟩; rw [HBD.out]; have HB1 := hid hb1; clear hb1)
        go_ret
        exact ⟨_, rfl, by rw [HH.out HBD.out]; simp, HBL.out.trans (HB1.out.mono HBL.out.size)⟩
    · have hki : ¬ ((k : Int) < m) := by omega
      go_wp2
      go_ret
      refine ⟨_, rfl, ?_, HBL.out⟩
      have := HA.out
      rw [List.take_of_length_le (by rw [Hb.out]; omega)] at this
      rw [this]
      rfl
set_option maxRecDepth 100000 in
set_option maxHeartbeats 1000000 in
theorem ContainsFunc_any (w : World) (ab : Option Addr) (m cap g : Nat) (bufs : List Bf) (hb : bufs.length = m) (hB : Bufs w ab bufs g) (h64 : ∀ b ∈ bufs, Is64 b.len) (hm : m ≤ 65536) :
    Calls Tryz.prog 74 #[.slice ab m cap, .func (.func 75) #[] #[]] w fun e w' => e = .returned (.bool (anyB bufs)) ∧ Below w.heap.size w w' := by
  have HC := hid (IndexFunc_any w ab m cap g bufs hb hB h64 hm)
  clear hb hB h64
  go_enter Tryz.func74, Tryz.ntmps74
  go_wp2_with fail
  refine HC.out.mono ?_
  rintro e w1 ⟨r, rfl, hr, hb1⟩
  have HR := hid hr
  have HB1 := hid hb1
  clear hr hb1
  go_wp2
  go_ret
  exact ⟨ret_bool HR.out, HB1.out⟩
end Go.Proofs.YtdjghkngiicncaaGreat

/- What a driver knows behind Add and behind Used, in plain mathematics of lists. -/
namespace Go.Proofs.YtdjghkngiicncaaGreat

def AddA (A : Abs) (m : Nat) : Abs := { A with free := A.free.drop m, fl := A.fl ++ [(A.free.getD 0 0, A.free.take m)], offers := (A.offers + 1) % 65536 }
def hp (hd : Int) : Nat × List Nat → Bool := fun p => decide ((p.1 : Int) = hd)
def UseA (A : Abs) (hd : Int) (ch : List Nat) : Abs := { A with free := srt (A.free ++ ch), fl := A.fl.eraseP (hp hd), uses := (A.uses + 1) % 65536 }
def BadA (A : Abs) : Abs := { A with uses := (A.uses + 1) % 65536 }

theorem look_eq (fl : List (Nat × List Nat)) (k : Int) : look fl k = (fl.find? (hp k)).map (·.2) := rfl
theorem look_some {fl : List (Nat × List Nat)} {k : Int} {l : List Nat} (h : look fl k = some l) : ∃ (x : Nat) (l1 l2 : List (Nat × List Nat)), fl = l1 ++ (x, l) :: l2 ∧ (x : Int) = k ∧ (∀ b ∈ l1, hp k b = false) ∧ fl.eraseP (hp k) = l1 ++ l2 := by
  rw [look_eq] at h
  cases hf : fl.find? (hp k) with
  | none => rw [hf] at h; cases h
  | some p =>
    rw [hf] at h
    simp at h
    obtain ⟨hp1, l1, l2, hfl, hl1⟩ := List.find?_eq_some_iff_append.1 hf
    obtain ⟨x, l'⟩ := p
    simp at h
    subst h
    refine ⟨x, l1, l2, hfl, by simpa [hp] using hp1, fun b hb => by simpa using hl1 b hb, ?_⟩
    rw [hfl, List.eraseP_append_right _ (fun b hb => by have := hl1 b hb; simpa using this), List.eraseP_cons_of_pos hp1]
theorem look_none {fl : List (Nat × List Nat)} {k : Int} (h : look fl k = none) : ∀ p ∈ fl, (p.1 : Int) ≠ k := by
  intro p hpm e
  rw [look_eq] at h
  simp only [Option.map_eq_none_iff, List.find?_eq_none] at h
  exact h p hpm (by simp [hp, e])
theorem look_none_of {fl : List (Nat × List Nat)} {k : Int} (h : ∀ p ∈ fl, (p.1 : Int) ≠ k) : look fl k = none := by
  rw [look_eq]
  simp only [Option.map_eq_none_iff, List.find?_eq_none]
  intro p hpm
  simpa [hp] using h p hpm
theorem look_append (l1 l2 : List (Nat × List Nat)) (k : Int) : look (l1 ++ l2) k = (look l1 k).or (look l2 k) := by
  rw [look_eq, look_eq, look_eq, List.find?_append]
  cases List.find? (hp k) l1 <;> rfl

theorem Wf.nodup {n : Nat} {A : Abs} (h : Wf n A) : (A.free ++ A.fl.flatMap (·.2)).Nodup := h.perm.nodup_iff.2 List.nodup_range
theorem head_mem {l : List Nat} {x : Nat} (h : l.head? = some x) : x ∈ l := List.mem_of_mem_head? (by simp [h])
theorem Wf.free_not {n : Nat} {A : Abs} (h : Wf n A) {x : Nat} (hx : x ∈ A.free) : look A.fl x = none := by
  apply look_none_of
  intro p hpm e
  have h1 := h.nodup
  rw [List.nodup_append] at h1
  have h2 : p.1 = x := by omega
  exact h1.2.2 x hx p.1 (List.mem_flatMap.2 ⟨p, hpm, head_mem (h.hd p hpm)⟩) h2.symm
theorem Wf.free_lt {n : Nat} {A : Abs} (h : Wf n A) {x : Nat} (hx : x ∈ A.free) : x < n := by
  have := h.perm.mem_iff.1 (List.mem_append_left _ hx)
  simpa using this
theorem Wf.len {n : Nat} {A : Abs} (h : Wf n A) : A.free.length + (A.fl.flatMap (·.2)).length = n := by
  have := h.perm.length_eq
  simpa using this

theorem AddA_wf {n : Nat} {A : Abs} (h : Wf n A) (m : Nat) (h0 : 0 < m) (hm : m ≤ A.free.length) : Wf n (AddA A m) where
  srt := h.srt.sublist (List.drop_sublist _ _)
  perm := by
    have e : (AddA A m).free ++ (AddA A m).fl.flatMap (·.2) = A.free.drop m ++ (A.fl.flatMap (·.2) ++ A.free.take m) := by simp [AddA]
    rw [e]
    refine List.Perm.trans ?_ h.perm
    refine (List.perm_append_comm (l₁ := A.free.drop m)).trans ?_
    rw [List.append_assoc, List.take_append_drop]
    exact List.perm_append_comm
  hd := by
    intro p hpm
    simp only [AddA, List.mem_append, List.mem_singleton] at hpm
    rcases hpm with hpm | rfl
    · exact h.hd p hpm
    · match hA : A.free, m with
      | [], _ => rw [hA] at hm; simp at hm; omega
      | x :: r, 0 => omega
      | x :: r, m + 1 => simp
  o := Nat.mod_lt _ (by omega)
  u := h.u
theorem AddA_look {n : Nat} {A : Abs} (h : Wf n A) (m : Nat) (h0 : 0 < m) (hm : m ≤ A.free.length) (k : Int) : look (AddA A m).fl k = if k = (A.free.getD 0 0 : Nat) then some (A.free.take m) else look A.fl k := by
  show look (A.fl ++ [(A.free.getD 0 0, A.free.take m)]) k = _
  rw [look_append]
  by_cases e : k = (A.free.getD 0 0 : Nat)
  · rw [if_pos e]
    have hx : A.free.getD 0 0 ∈ A.free := by rw [show A.free.getD 0 0 = A.free[0] by simp [List.getD, show 0 < A.free.length by omega]]; exact List.getElem_mem _
    rw [e, h.free_not hx]
    simp [look]
  · rw [if_neg e]
    have : look [(A.free.getD 0 0, A.free.take m)] k = none := look_none_of (fun p hpm => by simp at hpm; subst hpm; exact fun e' => e e'.symm)
    rw [this, Option.or_none]

theorem srt_perm (l : List Nat) : (srt l).Perm l := List.mergeSort_perm _ _
theorem srt_sorted (l : List Nat) (h : l.Nodup) : (srt l).Pairwise (· < ·) := by
  have hs : (srt l).Pairwise (fun x y => decide (x ≤ y) = true) := List.pairwise_mergeSort (le := fun x y : Nat => decide (x ≤ y)) (fun a b c h h' => by simp at *; omega) (fun a b => by simp; omega) l
  have hn2 : (srt l).Nodup := (srt_perm l).nodup_iff.2 h
  exact (hs.and hn2).imp fun ⟨h, h'⟩ => by simp at h; omega
theorem UseA_perm {A : Abs} {hd : Int} {ch : List Nat} (hl : look A.fl hd = some ch) : (srt (A.free ++ ch) ++ (A.fl.eraseP (hp hd)).flatMap (·.2)).Perm (A.free ++ A.fl.flatMap (·.2)) := by
  obtain ⟨x, l1, l2, hfl, _, _, he⟩ := look_some hl
  rw [he, hfl]
  simp only [List.flatMap_append, List.flatMap_cons]
  refine ((srt_perm _).append_right _).trans ?_
  rw [List.append_assoc]
  refine List.Perm.append_left _ ?_
  rw [← List.append_assoc, ← List.append_assoc]
  exact List.perm_append_comm.append_right _
theorem UseA_wf {n : Nat} {A : Abs} (h : Wf n A) {hd : Int} {ch : List Nat} (hl : look A.fl hd = some ch) : Wf n (UseA A hd ch) where
  srt := by
    refine srt_sorted _ ?_
    have h1 := (UseA_perm hl).nodup_iff.2 h.nodup
    rw [List.nodup_append] at h1
    exact (srt_perm _).nodup_iff.1 h1.1
  perm := (UseA_perm hl).trans h.perm
  hd := fun p hpm => h.hd p (List.mem_of_mem_eraseP hpm)
  o := h.o
  u := Nat.mod_lt _ (by omega)
theorem UseA_look {n : Nat} {A : Abs} (h : Wf n A) {hd : Int} {ch : List Nat} (hl : look A.fl hd = some ch) (k : Int) : look (UseA A hd ch).fl k = if k = hd then none else look A.fl k := by
  obtain ⟨x, l1, l2, hfl, hx, hl1, he⟩ := look_some hl
  show look (A.fl.eraseP (hp hd)) k = _
  rw [he]
  by_cases e : k = hd
  · rw [if_pos e, e]
    apply look_none_of
    intro p hpm e2
    rw [List.mem_append] at hpm
    rcases hpm with hpm | hpm
    · have := hl1 p hpm
      simp [hp] at this
      exact this e2
    · have hn := h.nodup
      rw [List.nodup_append] at hn
      have hn := hn.2.1
      rw [hfl] at hn
      simp only [List.flatMap_append, List.flatMap_cons] at hn
      rw [List.nodup_append] at hn
      have hn := hn.2.1
      rw [List.nodup_append] at hn
      have m1 : x ∈ ch := head_mem (h.hd (x, ch) (by rw [hfl]; simp))
      have m2 : p.1 ∈ l2.flatMap (·.2) := List.mem_flatMap.2 ⟨p, hpm, head_mem (h.hd p (by rw [hfl]; simp [hpm]))⟩
      exact hn.2.2 x m1 p.1 m2 (by omega)
  · rw [if_neg e, hfl, look_append, look_append]
    congr 1
    have : look ((x, ch) :: l2) k = (look [(x, ch)] k).or (look l2 k) := look_append [(x, ch)] l2 k
    rw [this, look_none_of (fl := [(x, ch)]) (fun p hpm => by simp at hpm; subst hpm; simp; omega)]
    rfl
theorem BadA_wf {n : Nat} {A : Abs} (h : Wf n A) : Wf n (BadA A) where
  srt := h.srt
  perm := h.perm
  hd := h.hd
  o := h.o
  u := Nat.mod_lt _ (by omega)
end Go.Proofs.YtdjghkngiicncaaGreat
