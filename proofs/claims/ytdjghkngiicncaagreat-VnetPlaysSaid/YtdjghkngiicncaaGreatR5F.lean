/- R5E, R5F in one text. -/
import Derived.Test.YtdjghkngiicncaaGreatR5B
import Derived.Test.YtdjghkngiicncaaGreatR5D
import Derived.Test.YtdjghkngiicncaaGreatNetQ
/- The document's card: a place is offered. -/
namespace Go.Proofs.YtdjghkngiicncaaGreat
open Go.RowKit

theorem card_set5 (B : Rb) (H : Nh) (v1 v2 v' : Value) : (rcardC B H v1 v2).setIfInBounds 5 v' = rcardC B H v' v2 := rfl
theorem card_set6 (B : Rb) (H : Nh) (v1 v2 v' : Value) : (rcardC B H v1 v2).setIfInBounds 6 v' = rcardC B H v1 v' := rfl
theorem two_cells (w : World) (x : Nat) : (w.alloc (.cells #[.int .i64 (x : Int), .int .i64 (x : Int)] 84)).cell? ⟨w.heap.size, 0, none⟩ = some (.int .i64 x) ∧ (w.alloc (.cells #[.int .i64 (x : Int), .int .i64 (x : Int)] 84)).cell? ⟨w.heap.size, 1, none⟩ = some (.int .i64 x) :=
  ⟨new_cell w _ _ _ 0 (by simp), new_cell w _ _ _ 1 (by simp)⟩
/-- A pair is put behind the row in cell 5: the world that is left. -/
theorem put_pair1 {w : World} {lab : Nat → Nat} {B : Rb} {H : Nh} {S : Ns} {v1 v2 : Value} {l1 l2 : List Nat} (h : RNetAt w lab B H S v1 v2 l1 l2) (x : Nat) (hl : l1.length ≤ 65535) (ty : TypeId) :
    ∃ a c w7, (Builtin.append_ #[58, 58] ty #[v1, .slice (some ⟨w.heap.size, 0, none⟩) 1 1]).run Tryz.prog (w.alloc (.cells #[.int .i64 (x : Int), .int .i64 (x : Int)] 84)) = .ok (.slice a (l1.length + 1) c) w7 ∧
      w7.cell? ⟨B.pc, 5, none⟩ = some v1 ∧ w7.frozen? ⟨B.pc, 5, none⟩ = false ∧ ∃ lab', RNetAt (w7.setCell ⟨B.pc, 5, none⟩ (.slice a (l1.length + 1) c)) lab' B H S (.slice a (l1.length + 1) c) v2 (l1 ++ [x]) l2 ∧ Keep lab w lab' (w7.setCell ⟨B.pc, 5, none⟩ (.slice a (l1.length + 1) c)) := by
  obtain ⟨t0, t1⟩ := two_cells w x
  have hb : Below w.heap.size w (w.alloc (.cells #[.int .i64 (x : Int), .int .i64 (x : Int)] 84)) := (Below.refl _ _).alloc (Nat.le_refl _) _
  obtain ⟨v', w7, hr, ho, hg, hbk⟩ := append_off_run (w.alloc (.cells #[.int .i64 (x : Int), .int .i64 (x : Int)] 84)) 0 v1 l1 (owns_below h.r1 hb) w.heap.size 0 1 1 [x] rfl (fun i hi => by
    obtain rfl : i = 0 := by omega
    exact ⟨t0, t1⟩) (by omega) (Nat.zero_le _) ty
  obtain ⟨a, c, hv⟩ := owns_slice ho
  rw [List.length_append, List.length_singleton] at hv
  subst hv
  have hpcl := h.lt B.pc (by rw [h.l6]; omega)
  have hpb : ∀ b, v1.ownBlock = some b → b ≠ B.pc := fun b e e2 => by have h1 := h.l8 b e; rw [e2, h.l6] at h1; omega
  have hm7 : Mods (fun b => v1.ownBlock = some b) (w.alloc (.cells #[.int .i64 (x : Int), .int .i64 (x : Int)] 84)) w7 := (Mods.refl _ _).grown hg (fun b e => .inl e)
  have hm : Mods (fun b => v1.ownBlock = some b) w w7 := (Mods.of_below hb).tr hm7
  have hcard : w7.heap[B.pc]? = some (.cells (rcardC B H v1 v2) 60 (0, 0)) := (hm.block B.pc hpcl (fun e => hpb _ e rfl)).trans h.card
  refine ⟨a, c, w7, hr, cell_of hcard rfl, by unfold World.frozen?; simp [hcard], ?_⟩
  have hc8 := setc hcard 5 (.slice a (l1.length + 1) c)
  rw [card_set5] at hc8
  refine h.toR1 hc8 ?_ ((hm.weak (fun b e => .inl (.inr e))).setCell B.pc 5 _ (.inl rfl)) (fun b e => ?_)
  · refine PRow.keep (w := w7) (l := l1 ++ [x]) (by show w7.ownsRow 0 _ 2 _ _ _; rw [List.length_append, List.length_singleton] at ho ⊢; exact ho) (fun b e => Below.heap_setCell _ _ _ _ ?_)
    show b ≠ B.pc
    rcases hbk with hbk | hbk
    · rw [hbk] at e; exact hpb b e
    · rw [hbk] at e; simp at e; omega
  · rcases hbk with hbk | hbk
    · rw [hbk] at e; exact .inl e
    · rw [hbk] at e; simp at e; exact .inr (by omega)
theorem put_pair2 {w : World} {lab : Nat → Nat} {B : Rb} {H : Nh} {S : Ns} {v1 v2 : Value} {l1 l2 : List Nat} (h : RNetAt w lab B H S v1 v2 l1 l2) (x : Nat) (hl : l2.length ≤ 65535) (ty : TypeId) :
    ∃ a c w7, (Builtin.append_ #[58, 58] ty #[v2, .slice (some ⟨w.heap.size, 0, none⟩) 1 1]).run Tryz.prog (w.alloc (.cells #[.int .i64 (x : Int), .int .i64 (x : Int)] 84)) = .ok (.slice a (l2.length + 1) c) w7 ∧
      w7.cell? ⟨B.pc, 6, none⟩ = some v2 ∧ w7.frozen? ⟨B.pc, 6, none⟩ = false ∧ ∃ lab', RNetAt (w7.setCell ⟨B.pc, 6, none⟩ (.slice a (l2.length + 1) c)) lab' B H S v1 (.slice a (l2.length + 1) c) l1 (l2 ++ [x]) ∧ Keep lab w lab' (w7.setCell ⟨B.pc, 6, none⟩ (.slice a (l2.length + 1) c)) := by
  obtain ⟨t0, t1⟩ := two_cells w x
  have hb : Below w.heap.size w (w.alloc (.cells #[.int .i64 (x : Int), .int .i64 (x : Int)] 84)) := (Below.refl _ _).alloc (Nat.le_refl _) _
  obtain ⟨v', w7, hr, ho, hg, hbk⟩ := append_off_run (w.alloc (.cells #[.int .i64 (x : Int), .int .i64 (x : Int)] 84)) 0 v2 l2 (owns_below h.r2 hb) w.heap.size 0 1 1 [x] rfl (fun i hi => by
    obtain rfl : i = 0 := by omega
    exact ⟨t0, t1⟩) (by omega) (Nat.zero_le _) ty
  obtain ⟨a, c, hv⟩ := owns_slice ho
  rw [List.length_append, List.length_singleton] at hv
  subst hv
  have hpcl := h.lt B.pc (by rw [h.l6]; omega)
  have hpb : ∀ b, v2.ownBlock = some b → b ≠ B.pc := fun b e e2 => by have h1 := h.l9 b e; rw [e2, h.l6] at h1; omega
  have hm7 : Mods (fun b => v2.ownBlock = some b) (w.alloc (.cells #[.int .i64 (x : Int), .int .i64 (x : Int)] 84)) w7 := (Mods.refl _ _).grown hg (fun b e => .inl e)
  have hm : Mods (fun b => v2.ownBlock = some b) w w7 := (Mods.of_below hb).tr hm7
  have hcard : w7.heap[B.pc]? = some (.cells (rcardC B H v1 v2) 60 (0, 0)) := (hm.block B.pc hpcl (fun e => hpb _ e rfl)).trans h.card
  refine ⟨a, c, w7, hr, cell_of hcard rfl, by unfold World.frozen?; simp [hcard], ?_⟩
  have hc8 := setc hcard 6 (.slice a (l2.length + 1) c)
  rw [card_set6] at hc8
  refine h.toR2 hc8 ?_ ((hm.weak (fun b e => .inl (.inr e))).setCell B.pc 6 _ (.inl rfl)) (fun b e => ?_)
  · refine PRow.keep (w := w7) (l := l2 ++ [x]) (by show w7.ownsRow 0 _ 2 _ _ _; rw [List.length_append, List.length_singleton] at ho ⊢; exact ho) (fun b e => Below.heap_setCell _ _ _ _ ?_)
    show b ≠ B.pc
    rcases hbk with hbk | hbk
    · rw [hbk] at e; exact hpb b e
    · rw [hbk] at e; simp at e; omega
  · rcases hbk with hbk | hbk
    · rw [hbk] at e; exact .inl e
    · rw [hbk] at e; simp at e; exact .inr (by omega)
set_option maxRecDepth 100000 in
set_option maxHeartbeats 4000000 in
theorem roffer_any (w : World) (lab : Nat → Nat) (B : Rb) (H : Nh) (S : Ns) (v1 v2 : Value) (l1 l2 : List Nat) (h : RNetAt w lab B H S v1 v2 l1 l2) (p : Nat) (hp : p < H.n) (hfr : 0 < S.Ai.free.length) (hf0 : S.Ai.free.getD 0 0 = p) (hl : l1.length ≤ 65535) :
    Calls Tryz.prog 28 #[.pointer (some ⟨B.pc, 0, none⟩), .int .i64 p] w fun e w' => e = .returned (.tuple #[]) ∧ ∃ lab' v', RNetAt w' lab' B H { S with Ai := AddA S.Ai 1, f := addF S.f H.qi S.Ai [inB H p] } v' v2 (l1 ++ [p]) l2 ∧ Keep lab w lab' w' := by
  have hfit := H.fi_fit p hp
  have hbd := H.bd
  have hbig := H.big
  obtain ⟨c0, _, _, c3, c4, _⟩ := h.cells
  have HH := hid h
  obtain ⟨z, hz⟩ : ∃ z, H.fi + p * 1528 = z := ⟨_, rfl⟩
  have HZ := hid hz
  have HAT := hid (rat_any w.drew B.pc H p z c3 c4 (by omega) hz)
  have hib : inB H p = ⟨(z : Nat), 1526, true⟩ := by unfold inB; rw [hz]
  have HIB := hid hib
  have HADD : Hid (∀ w5, Below w.heap.size w w5 → Calls Tryz.prog 39 #[.pointer (some ⟨B.di, 0, none⟩), .slice (some ⟨w5.heap.size, 0, none⟩) 1 1] (w5.alloc (.cells #[.int .i64 z, .int .i64 1526, .bool true] 88)) fun e w' => e = .returned (.tuple #[.int .i64 p, .int .i64 0]) ∧ ∃ lab', RNetAt w' lab' B H { S with Ai := AddA S.Ai 1, f := addF S.f H.qi S.Ai [inB H p] } v1 v2 l1 l2 ∧ Keep lab w lab' w') := hid (fun w5 h5 => by
    have h6 := HH.out.below h5
    have hcon := rAdd_S w5 _ B.di B.g H.qi S.i (fun b => lab b = 1) ⟨z, 1526, true⟩ rfl h6.di h6.wi h6.mem ⟨by simp, by simp; omega, by simp, by simp⟩ hfr
    rw [show S.i.A.free.getD 0 0 = p from hf0] at hcon
    refine hcon.mono ?_
    rintro e w' ⟨rfl, hs, hm⟩
    rw [← hib] at hs hm
    obtain ⟨lab', h7, h8⟩ := h6.toDI hs hm (AddA_wf h6.wi 1 (by omega) hfr) (One.add h6.oi hfr)
    exact ⟨rfl, lab', h7, (Keep.below h5).trans h8⟩)
  clear h hz hib
  go_enter Tryz.func28, Tryz.ntmps28
  go_wp2_with fail
  go_region_held3 (fun w' => w'.cell? ⟨B.pc, 0, none⟩ = some (.pointer (some ⟨B.di, 0, none⟩))) ((first | exact c0 | exact HS4.out | exact HS5.out | exact HS6.out))
    ((first
      | (go_at_call 38; refine HAT.out.mono ?_; rintro e w4 ⟨rfl, q4, hw4⟩; have HB4 : Hid (Below w.heap.size w w4) := hid (by rw [hw4]; exact below_drewN ((Below.refl _ w).drew) q4); have HS4 := hid (cell_later HB4.out c0); have HS5 := hid (cell_later ((Below.refl _ w4).alloc (Nat.le_refl _) (.cells #[.int .i64 z, .int .i64 1526, .bool true] 88)) HS4.out); clear hw4)
      | (go_at_call 39; refine (HADD.out w4 HB4.out).mono ?_; rintro e w6 ⟨rfl, lab6, h6, hk6⟩; obtain ⟨d0, _, _, _, _, d5, _, _, _⟩ := h6.cells; have HS6 := hid d0; have HN6 := hid h6; have HK6 := hid hk6; clear h6 hk6)))
  obtain ⟨a7, c7, w7, hr7, k7, z7, lab8, h8, hk8⟩ := put_pair1 HN6.out p hl 58
  have HN8 := hid h8
  have HK8 := hid hk8
  clear h8 hk8
  go_wp2_with (at_builtin; refine nappend_run rfl (.tmp 23) (.tmp 27) 58 rfl rfl rfl hr7 ?_)
  go_end0
  exact ⟨rfl, lab8, _, HN8.out, HK6.out.trans HK8.out⟩
end Go.Proofs.YtdjghkngiicncaaGreat

/- The document's card: Send. -/
namespace Go.Proofs.YtdjghkngiicncaaGreat
open Go.RowKit

theorem hds_add (A : Abs) : hds (AddA A 1) = hds A ++ [A.free.getD 0 0] := by simp [hds, AddA]
theorem hds_use {A : Abs} {hd : Int} {ch : List Nat} (hl : look A.fl hd = some ch) : ∃ (x : Nat) (l1 l2 : List Nat), (x : Int) = hd ∧ hds A = l1 ++ x :: l2 ∧ x ∉ l1 ∧ hds (UseA A hd ch) = l1 ++ l2 := by
  obtain ⟨x, l1, l2, e1, e2, e3, e4⟩ := look_some hl
  refine ⟨x, l1.map (·.1), l2.map (·.1), e2, by unfold hds; rw [e1]; simp, fun hx => ?_, ?_⟩
  · obtain ⟨b, hb, hbx⟩ := List.mem_map.1 hx
    have := e3 b hb
    simp [hp] at this
    omega
  · show (A.fl.eraseP (hp hd)).map (·.1) = _
    rw [e4]
    simp
theorem flat_hds {A : Abs} (h : One A) : A.fl.flatMap (·.2) = hds A := by
  unfold hds
  unfold One at h
  generalize A.fl = fl at *
  induction fl with
  | nil => rfl
  | cons a fl ih => rw [List.flatMap_cons, List.map_cons, ih (fun p hp => h p (by simp [hp])), h a (by simp)]; rfl
theorem hds_len {n : Nat} {A : Abs} (hw : Wf n A) (h : One A) : A.free.length + (hds A).length = n := by
  have := hw.len
  rw [flat_hds h] at this
  exact this
theorem hds_mem {n : Nat} {A : Abs} (hw : Wf n A) (h : One A) {p : Nat} (hp : p < n) : p ∈ hds A ↔ p ∉ A.free := by
  have h1 := hw.perm.mem_iff (a := p)
  have h2 := hw.nodup
  rw [flat_hds h] at h1 h2
  rw [List.nodup_append] at h2
  constructor
  · intro h3 h4
    exact h2.2.2 p h4 p h3 rfl
  · intro h3
    rcases List.mem_append.1 (h1.2 (by simpa using hp)) with h4 | h4
    · exact absurd h4 h3
    · exact h4
/-- The first place that is not offered; n, if there is none. -/
def fst0 (n : Nat) (A : Abs) : Nat := if A.free.length = 0 then n else A.free.getD 0 0
theorem fst0_lt {n : Nat} {A : Abs} (hw : Wf n A) (h : One A) {p : Nat} (hp : p < fst0 n A) : p ∈ hds A := by
  unfold fst0 at hp
  split at hp
  · rename_i h0
    rw [hds_mem hw h hp]
    intro h1
    have := List.length_pos_of_mem h1
    omega
  · rename_i h0
    have hx := hw.free_lt (getD_mem A.free 0 0 (by omega))
    rw [hds_mem hw h (by omega)]
    intro h1
    obtain ⟨j, hj, hji⟩ := List.getElem_of_mem h1
    have h4 : A.free[0] = A.free.getD 0 0 := by simp [List.getD, show 0 < A.free.length by omega]
    by_cases e : j = 0
    · subst e; omega
    · have := List.pairwise_iff_getElem.1 hw.srt 0 j (by omega) hj (by omega)
      omega
theorem fst0_eq {n : Nat} {A : Abs} (hw : Wf n A) (h : One A) (hlt : fst0 n A < n) : 0 < A.free.length ∧ fst0 n A = A.free.getD 0 0 ∧ fst0 n A ∉ hds A := by
  unfold fst0 at *
  split at hlt
  · omega
  · rename_i h0
    rw [if_neg h0]
    refine ⟨by omega, rfl, fun h1 => ?_⟩
    exact (hds_mem hw h hlt).1 h1 (getD_mem A.free 0 0 (by omega))
theorem fst0_le {n : Nat} {A : Abs} (hw : Wf n A) : fst0 n A ≤ n := by
  unfold fst0
  split
  · omega
  · have := hw.free_lt (getD_mem A.free 0 0 (by omega)); omega
theorem puts_take (f : Nat → Int) (a : Nat) (L : List Int) (k : Nat) (hk : k < L.length) (i : Nat) : puts f a (L.take (k + 1)) i = if i = a + k then L.getD k 0 else puts f a (L.take k) i := by
  unfold puts
  rw [List.length_take, List.length_take, Nat.min_eq_left (by omega), Nat.min_eq_left (by omega)]
  by_cases e : i = a + k
  · rw [if_pos e, if_pos (by omega), e]
    simp [List.getD]
  · rw [if_neg e]
    by_cases h : a ≤ i ∧ i < a + k
    · rw [if_pos (by omega), if_pos h]
      simp only [List.getD, List.getElem?_take]
      rw [if_pos (by omega), if_pos (by omega)]
    · rw [if_neg (by omega), if_neg h]
theorem puts_zero (f : Nat → Int) (a : Nat) (L : List Int) : puts f a (L.take 0) = f := by
  funext i
  unfold puts
  rw [if_neg (by simp)]
theorem rowL_get (L : List Int) (k : Nat) : (rowL L).getD k 0 = if k < 12 then 0 else L.getD (k - 12) 0 := by
  unfold rowL
  simp only [List.getD]
  by_cases h : k < 12
  · rw [if_pos h, List.getElem?_append_left (by rw [List.length_replicate]; exact h), List.getElem?_replicate, if_pos h]
    rfl
  · rw [if_neg h, List.getElem?_append_right (by rw [List.length_replicate]; omega), List.length_replicate]
theorem hds_usedS {q : Qu} {S : Sd} (he : (usedR q S).2.2 = 0) : ∃ (x : Nat) (l1 l2 : List Nat), (usedR q S).1 = x ∧ hds S.A = l1 ++ x :: l2 ∧ x ∉ l1 ∧ hds (usedS q S).A = l1 ++ l2 := by
  unfold usedR usedS at *
  split at he
  · simp at he
  · rename_i hne
    simp only [if_neg hne] at *
    cases hl : look S.A.fl (rd S.f (q.pu + (4 + S.A.uses % q.n * 8)) 4) with
    | none => rw [hl] at he; simp at he
    | some ch =>
      obtain ⟨x, l1, l2, e1, e2, e3, e4⟩ := hds_use hl
      exact ⟨x, l1, l2, e1.symm, e2, e3, e4⟩
theorem hds_bad {q : Qu} {S : Sd} (he : ¬ (usedR q S).2.2 = 0) : hds (usedS q S).A = hds S.A := by
  unfold usedR usedS at *
  split
  · rfl
  · rename_i hne
    rw [if_neg hne] at he
    cases hl : look S.A.fl (rd S.f (q.pu + (4 + S.A.uses % q.n * 8)) 4) with
    | none => rfl
    | some ch => rw [hl] at he; simp at he
/-- taken: the world that is left behind its store into cell 6. -/
theorem RNetAt.took2 {w w' : World} {lab : Nat → Nat} {B : Rb} {H : Nh} {S : Ns} {v1 v2 v' : Value} {l1 l2 l' : List Nat} (h : RNetAt w lab B H S v1 v2 l1 l2) (hb : Below w.heap.size w w') (hr : PRow w' v' l') (hv : ∀ b, v'.ownBlock = some b → w.heap.size ≤ b) :
    ∃ lab', RNetAt (w'.setCell ⟨B.pc, 6, none⟩ v') lab' B H S v1 v' l1 l' ∧ Keep lab w lab' (w'.setCell ⟨B.pc, 6, none⟩ v') := by
  have hpcl := h.lt B.pc (by rw [h.l6]; omega)
  have hcard : w'.heap[B.pc]? = some (.cells (rcardC B H v1 v2) 60 (0, 0)) := (hb.block B.pc hpcl).trans h.card
  have hc8 := setc hcard 6 v'
  rw [card_set6] at hc8
  exact h.toR2 hc8 (hr.keep (fun b e => Below.heap_setCell _ _ _ _ (by have := hv b e; show b ≠ B.pc; omega))) ((Mods.of_below hb).setCell B.pc 6 _ (.inl rfl)) (fun b e => .inr (hv b e))
theorem RNetAt.took1 {w w' : World} {lab : Nat → Nat} {B : Rb} {H : Nh} {S : Ns} {v1 v2 v' : Value} {l1 l2 l' : List Nat} (h : RNetAt w lab B H S v1 v2 l1 l2) (hb : Below w.heap.size w w') (hr : PRow w' v' l') (hv : ∀ b, v'.ownBlock = some b → w.heap.size ≤ b) :
    ∃ lab', RNetAt (w'.setCell ⟨B.pc, 5, none⟩ v') lab' B H S v' v2 l' l2 ∧ Keep lab w lab' (w'.setCell ⟨B.pc, 5, none⟩ v') := by
  have hpcl := h.lt B.pc (by rw [h.l6]; omega)
  have hcard : w'.heap[B.pc]? = some (.cells (rcardC B H v1 v2) 60 (0, 0)) := (hb.block B.pc hpcl).trans h.card
  have hc8 := setc hcard 5 v'
  rw [card_set5] at hc8
  exact h.toR1 hc8 (hr.keep (fun b e => Below.heap_setCell _ _ _ _ (by have := hv b e; show b ≠ B.pc; omega))) ((Mods.of_below hb).setCell B.pc 5 _ (.inl rfl)) (fun b e => .inr (hv b e))
theorem RNetAt.usedO {w : World} {lab : Nat → Nat} {B : Rb} {H : Nh} {S : Ns} {v1 v2 : Value} {l1 l2 : List Nat} {T : Sd} (h : RNetAt w lab B H (S.setO T) v1 v2 l1 l2) :
    Calls Tryz.prog 36 #[.pointer (some ⟨B.dq, 0, none⟩)] w fun e w' => e = .returned (.tuple #[.int .i64 (usedR H.qo T).1, .int .i64 (usedR H.qo T).2.1, .int .i64 (usedR H.qo T).2.2]) ∧ ∃ lab', RNetAt w' lab' B H (S.setO (usedS H.qo T)) v1 v2 l1 l2 ∧ Keep lab w lab' w' := by
  refine (rUsed_S w B.dq B.g H.qo T (fun b => lab b = 2) h.dq h.wo h.mem).mono ?_
  rintro e w' ⟨rfl, hs, hm⟩
  have hok : Ok H.qo T := h.oko
  obtain ⟨lab', h1, h2⟩ := h.toDO hs hm hok.used.wf (One.used (S := T) h.oo)
  have h3 := usedS_o H.qo T
  have he : S.setO (usedS H.qo T) = { S.setO T with Ao := (usedS H.qo T).A, f := (usedS H.qo T).f } := by unfold Ns.setO; rw [h3.1, h3.2]
  exact ⟨rfl, lab', he ▸ h1, h2⟩
theorem RNetAt.usedI {w : World} {lab : Nat → Nat} {B : Rb} {H : Nh} {S : Ns} {v1 v2 : Value} {l1 l2 : List Nat} {T : Sd} (h : RNetAt w lab B H (S.setI T) v1 v2 l1 l2) :
    Calls Tryz.prog 36 #[.pointer (some ⟨B.di, 0, none⟩)] w fun e w' => e = .returned (.tuple #[.int .i64 (usedR H.qi T).1, .int .i64 (usedR H.qi T).2.1, .int .i64 (usedR H.qi T).2.2]) ∧ ∃ lab', RNetAt w' lab' B H (S.setI (usedS H.qi T)) v1 v2 l1 l2 ∧ Keep lab w lab' w' := by
  refine (rUsed_S w B.di B.g H.qi T (fun b => lab b = 1) h.di h.wi h.mem).mono ?_
  rintro e w' ⟨rfl, hs, hm⟩
  have hok : Ok H.qi T := h.oki
  obtain ⟨lab', h1, h2⟩ := h.toDI hs hm hok.used.wf (One.used (S := T) h.oi)
  have h3 := usedS_o H.qi T
  have he : S.setI (usedS H.qi T) = { S.setI T with Ai := (usedS H.qi T).A, f := (usedS H.qi T).f } := by unfold Ns.setI; rw [h3.1, h3.2]
  exact ⟨rfl, lab', he ▸ h1, h2⟩
end Go.Proofs.YtdjghkngiicncaaGreat
