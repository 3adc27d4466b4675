/- The document's card alone: NewCard. -/
import Derived.Test.YtdjghkngiicncaaGreatR5L
namespace Go.Proofs.YtdjghkngiicncaaGreat
open Go.RowKit

structure RCrdAt (w : World) (lab : Nat → Nat) (B : Rb) (H : Nh) (S : Ns) (v1 v2 : Value) (l1 l2 : List Nat) : Prop where
  lt : ∀ b, lab b ≠ 0 → b < w.heap.size
  di : RDrv w B.di B.g H.qi S.Ai (fun b => lab b = 1)
  dq : RDrv w B.dq B.g H.qo S.Ao (fun b => lab b = 2)
  mem : Mem w B.g H.N S.f
  card : w.heap[B.pc]? = some (.cells (rcardC B H v1 v2) 60 (0, 0))
  r1 : PRow w v1 l1
  r2 : PRow w v2 l2
  l5 : lab B.g = 5
  l6 : lab B.pc = 6
  l8 : ∀ b, v1.ownBlock = some b → lab b = 8
  l9 : ∀ b, v2.ownBlock = some b → lab b = 9
  wi : Wf H.n S.Ai
  wo : Wf H.n S.Ao
  oi : One S.Ai
  oo : One S.Ao
section
variable {w w' : World} {lab : Nat → Nat} {B : Rb} {H : Nh} {S : Ns} {v1 v2 : Value} {l1 l2 : List Nat}
theorem RCrdAt.cells (h : RCrdAt w lab B H S v1 v2 l1 l2) : w.cell? ⟨B.pc, 0, none⟩ = some (.pointer (some ⟨B.di, 0, none⟩)) ∧ w.cell? ⟨B.pc, 1, none⟩ = some (.pointer (some ⟨B.dq, 0, none⟩)) ∧ w.cell? ⟨B.pc, 2, none⟩ = some (.slice (some ⟨B.g, 0, none⟩) H.N H.N) ∧ w.cell? ⟨B.pc, 3, none⟩ = some (.int .i64 H.base) ∧ w.cell? ⟨B.pc, 4, none⟩ = some (.int .i64 H.n) ∧ w.cell? ⟨B.pc, 5, none⟩ = some v1 ∧ w.cell? ⟨B.pc, 6, none⟩ = some v2 ∧ w.frozen? ⟨B.pc, 5, none⟩ = false ∧ w.frozen? ⟨B.pc, 6, none⟩ = false :=
  ⟨cell_of h.card rfl, cell_of h.card rfl, cell_of h.card rfl, cell_of h.card rfl, cell_of h.card rfl, cell_of h.card rfl, cell_of h.card rfl, by unfold World.frozen?; simp [h.card], by unfold World.frozen?; simp [h.card]⟩
theorem RCrdAt.toDI (h : RCrdAt w lab B H S v1 v2 l1 l2) {A' : Abs} {f' : Nat → Int} (hs : RStep w w' B.di B.g H.qi A' (fun b => lab b = 1)) (hm : Mem w' B.g H.N f') (hw : Wf H.n A') (h1 : One A') :
    ∃ lab', RCrdAt w' lab' B H { S with Ai := A', f := f' } v1 v2 l1 l2 ∧ Keep lab w lab' w' := by
  obtain ⟨nw, hd, ha, hmo⟩ := hs
  have hnw := hd.lt
  have hP : ∀ b, (lab b = 1 ∨ b = B.g) → lab b = 1 ∨ lab b = 5 := fun b e => by
    rcases e with e | e
    · exact .inl e
    · exact .inr (by rw [e]; exact h.l5)
  have old : ∀ {b j}, lab b = j → j ≠ 0 → relab w lab nw 1 b = j := fun {b j} e hj => by rw [relab_old (h.lt b (by omega))]; exact e
  have hlt : ∀ b, relab w lab nw 1 b ≠ 0 → b < w'.heap.size := fun b hb => by
    by_cases e : b < w.heap.size
    · exact Nat.lt_of_lt_of_le e hmo.size
    · exact hnw b (relab_new (by omega) hb)
  have kp : ∀ b, lab b ≠ 0 → lab b ≠ 1 → lab b ≠ 5 → w'.heap[b]? = w.heap[b]? := fun b e1 n0 n1 => hmo.block b (h.lt b e1) (fun e => by have := hP b e; omega)
  refine ⟨relab w lab nw 1, ⟨hlt, (hd.up (fun b hb => (ha b hb).elim (fun e => old e (by omega)) (fun e => relab_yes e hb)) (fun b hb => hlt b (by rw [hb]; omega)) (by show ¬ _ = 1; rw [old h.l5 (by omega)]; omega)), (h.dq.mods hmo (fun b e1 e2 => by have := hP b e2; omega)).up (fun b hb => old hb (by omega)) (fun b hb => hlt b (by rw [hb]; omega)) (by show ¬ _ = 2; rw [old h.l5 (by omega)]; omega), hm, (kp _ (by rw [h.l6]; omega) (by rw [h.l6]; omega) (by rw [h.l6]; omega)).trans h.card, h.r1.keep (fun b hb => kp b (by rw [h.l8 b hb]; omega) (by rw [h.l8 b hb]; omega) (by rw [h.l8 b hb]; omega)), h.r2.keep (fun b hb => kp b (by rw [h.l9 b hb]; omega) (by rw [h.l9 b hb]; omega) (by rw [h.l9 b hb]; omega)), old h.l5 (by omega), old h.l6 (by omega), fun b hb => old (h.l8 b hb) (by omega), fun b hb => old (h.l9 b hb) (by omega), hw, h.wo, h1, h.oo⟩, ⟨fun b hb => relab_old hb, hmo.weak (fun b e => .inl (by have := hP b e; omega))⟩⟩
theorem RCrdAt.toR1 (h : RCrdAt w lab B H S v1 v2 l1 l2) {v' : Value} {l' : List Nat} (hc : w'.heap[B.pc]? = some (.cells (rcardC B H v' v2) 60 (0, 0))) (hr : PRow w' v' l') (hmo : Mods (fun b => b = B.pc ∨ v1.ownBlock = some b) w w') (hv : ∀ b, v'.ownBlock = some b → v1.ownBlock = some b ∨ w.heap.size ≤ b) :
    ∃ lab', RCrdAt w' lab' B H S v' v2 l' l2 ∧ Keep lab w lab' w' := by
  have hnw : ∀ b, v'.ownBlock = some b → b < w'.heap.size := fun b hb => hr.lt hb
  obtain ⟨nw, hnn⟩ : ∃ nw : Nat → Prop, nw = (fun b => v'.ownBlock = some b) := ⟨_, rfl⟩
  replace hnw : ∀ b, nw b → b < w'.heap.size := by rw [hnn]; exact hnw
  have hP : ∀ b, (b = B.pc ∨ v1.ownBlock = some b) → lab b = 6 ∨ lab b = 8 := fun b e => by
    rcases e with e | e
    · exact .inl (by rw [e]; exact h.l6)
    · exact .inr (h.l8 b e)
  have old : ∀ {b j}, lab b = j → j ≠ 0 → relab w lab nw 8 b = j := fun {b j} e hj => by rw [relab_old (h.lt b (by omega))]; exact e
  have hlt : ∀ b, relab w lab nw 8 b ≠ 0 → b < w'.heap.size := fun b hb => by
    by_cases e : b < w.heap.size
    · exact Nat.lt_of_lt_of_le e hmo.size
    · exact hnw b (relab_new (by omega) hb)
  have kp : ∀ b, lab b ≠ 0 → lab b ≠ 6 → lab b ≠ 8 → w'.heap[b]? = w.heap[b]? := fun b e1 n0 n1 => hmo.block b (h.lt b e1) (fun e => by have := hP b e; omega)
  refine ⟨relab w lab nw 8, ⟨hlt, (h.di.mods hmo (fun b e1 e2 => by have := hP b e2; omega)).up (fun b hb => old hb (by omega)) (fun b hb => hlt b (by rw [hb]; omega)) (by show ¬ _ = 1; rw [old h.l5 (by omega)]; omega), (h.dq.mods hmo (fun b e1 e2 => by have := hP b e2; omega)).up (fun b hb => old hb (by omega)) (fun b hb => hlt b (by rw [hb]; omega)) (by show ¬ _ = 2; rw [old h.l5 (by omega)]; omega), h.mem.keep (kp _ (by rw [h.l5]; omega) (by rw [h.l5]; omega) (by rw [h.l5]; omega)), hc, hr, h.r2.keep (fun b hb => kp b (by rw [h.l9 b hb]; omega) (by rw [h.l9 b hb]; omega) (by rw [h.l9 b hb]; omega)), old h.l5 (by omega), old h.l6 (by omega), fun b hb => (hv b hb).elim (fun e => old (h.l8 b e) (by omega)) (fun e => relab_yes e (by rw [hnn]; exact hb)), fun b hb => old (h.l9 b hb) (by omega), h.wi, h.wo, h.oi, h.oo⟩, ⟨fun b hb => relab_old hb, hmo.weak (fun b e => .inl (by have := hP b e; omega))⟩⟩
theorem RCrdAt.outside (h : RCrdAt w lab B H S v1 v2 l1 l2) {P : Nat → Prop} (hm : Mods P w w') (hP : ∀ b, P b → lab b = 0) : RCrdAt w' lab B H S v1 v2 l1 l2 :=
  have kp : ∀ b, lab b ≠ 0 → w'.heap[b]? = w.heap[b]? := fun b e => hm.block b (h.lt b e) (fun e2 => e (hP b e2))
  ⟨fun b e => Nat.lt_of_lt_of_le (h.lt b e) hm.size, h.di.mods hm (fun b e1 e2 => by have := hP b e2; omega), h.dq.mods hm (fun b e1 e2 => by have := hP b e2; omega), h.mem.keep (kp _ (by rw [h.l5]; omega)), (kp _ (by rw [h.l6]; omega)).trans h.card, h.r1.keep (fun b hb => kp b (by rw [h.l8 b hb]; omega)), h.r2.keep (fun b hb => kp b (by rw [h.l9 b hb]; omega)), h.l5, h.l6, h.l8, h.l9, h.wi, h.wo, h.oi, h.oo⟩
theorem RCrdAt.below (h : RCrdAt w lab B H S v1 v2 l1 l2) (hb : Below w.heap.size w w') : RCrdAt w' lab B H S v1 v2 l1 l2 := h.outside (Mods.of_below (al := fun _ => False) hb) (fun _ e => e.elim)
end
theorem cput_pair1 {w : World} {lab : Nat → Nat} {B : Rb} {H : Nh} {S : Ns} {v1 v2 : Value} {l1 l2 : List Nat} (h : RCrdAt w lab B H S v1 v2 l1 l2) (x : Nat) (hl : l1.length ≤ 65535) (ty : TypeId) :
    ∃ a c w7, (Builtin.append_ #[58, 58] ty #[v1, .slice (some ⟨w.heap.size, 0, none⟩) 1 1]).run Tryz.prog (w.alloc (.cells #[.int .i64 (x : Int), .int .i64 (x : Int)] 84)) = .ok (.slice a (l1.length + 1) c) w7 ∧
      w7.cell? ⟨B.pc, 5, none⟩ = some v1 ∧ w7.frozen? ⟨B.pc, 5, none⟩ = false ∧ ∃ lab', RCrdAt (w7.setCell ⟨B.pc, 5, none⟩ (.slice a (l1.length + 1) c)) lab' B H S (.slice a (l1.length + 1) c) v2 (l1 ++ [x]) l2 ∧ Keep lab w lab' (w7.setCell ⟨B.pc, 5, none⟩ (.slice a (l1.length + 1) c)) := by
  obtain ⟨t0, t1⟩ := two_cells w x
  have hb : Below w.heap.size w (w.alloc (.cells #[.int .i64 (x : Int), .int .i64 (x : Int)] 84)) := (Below.refl _ _).alloc (Nat.le_refl _) _
  obtain ⟨v', w7, hr, ho, hg, hbk⟩ := append_off_run (w.alloc (.cells #[.int .i64 (x : Int), .int .i64 (x : Int)] 84)) 0 v1 l1 (owns_below h.r1 hb) w.heap.size 0 1 1 [x] rfl (fun i hi => by
    obtain rfl : i = 0 := by omega
    exact ⟨t0, t1⟩) (by omega) (Nat.zero_le _) ty
  obtain ⟨a, c, hv⟩ := owns_slice ho
  rw [List.length_append, List.length_singleton] at hv
  subst hv
  have hpcl := h.lt B.pc (by rw [h.l6]; omega)
  have hpb : ∀ b, v1.ownBlock = some b → b ≠ B.pc := fun b e e2 => by have h1 := h.l8 b e; rw [e2, h.l6] at h1; omega
  have hm7 : Mods (fun b => v1.ownBlock = some b) (w.alloc (.cells #[.int .i64 (x : Int), .int .i64 (x : Int)] 84)) w7 := (Mods.refl _ _).grown hg (fun b e => .inl e)
  have hm : Mods (fun b => v1.ownBlock = some b) w w7 := (Mods.of_below hb).tr hm7
  have hcard : w7.heap[B.pc]? = some (.cells (rcardC B H v1 v2) 60 (0, 0)) := (hm.block B.pc hpcl (fun e => hpb _ e rfl)).trans h.card
  refine ⟨a, c, w7, hr, cell_of hcard rfl, by unfold World.frozen?; simp [hcard], ?_⟩
  have hc8 := setc hcard 5 (.slice a (l1.length + 1) c)
  rw [card_set5] at hc8
  refine h.toR1 hc8 ?_ ((hm.weak (fun b e => .inl (.inr e))).setCell B.pc 5 _ (.inl rfl)) (fun b e => ?_)
  · refine PRow.keep (w := w7) (l := l1 ++ [x]) (by show w7.ownsRow 0 _ 2 _ _ _; rw [List.length_append, List.length_singleton] at ho ⊢; exact ho) (fun b e => Below.heap_setCell _ _ _ _ ?_)
    show b ≠ B.pc
    rcases hbk with hbk | hbk
    · rw [hbk] at e; exact hpb b e
    · rw [hbk] at e; simp at e; omega
  · rcases hbk with hbk | hbk
    · rw [hbk] at e; exact .inl e
    · rw [hbk] at e; simp at e; exact .inr (by omega)
set_option maxRecDepth 100000 in
set_option maxHeartbeats 4000000 in
theorem coffer_any (w : World) (lab : Nat → Nat) (B : Rb) (H : Nh) (S : Ns) (v1 v2 : Value) (l1 l2 : List Nat) (h : RCrdAt w lab B H S v1 v2 l1 l2) (p : Nat) (hp : p < H.n) (hfr : 0 < S.Ai.free.length) (hf0 : S.Ai.free.getD 0 0 = p) (hl : l1.length ≤ 65535) :
    Calls Tryz.prog 28 #[.pointer (some ⟨B.pc, 0, none⟩), .int .i64 p] w fun e w' => e = .returned (.tuple #[]) ∧ ∃ lab' v', RCrdAt w' lab' B H { S with Ai := AddA S.Ai 1, f := addF S.f H.qi S.Ai [inB H p] } v' v2 (l1 ++ [p]) l2 ∧ Keep lab w lab' w' := by
  have hfit := H.fi_fit p hp
  have hbd := H.bd
  have hbig := H.big
  obtain ⟨c0, _, _, c3, c4, _⟩ := h.cells
  have HH := hid h
  obtain ⟨z, hz⟩ : ∃ z, H.fi + p * 1528 = z := ⟨_, rfl⟩
  have HZ := hid hz
  have HAT := hid (rat_any w.drew B.pc H p z c3 c4 (by omega) hz)
  have hib : inB H p = ⟨(z : Nat), 1526, true⟩ := by unfold inB; rw [hz]
  have HIB := hid hib
  have HADD : Hid (∀ w5, Below w.heap.size w w5 → Calls Tryz.prog 39 #[.pointer (some ⟨B.di, 0, none⟩), .slice (some ⟨w5.heap.size, 0, none⟩) 1 1] (w5.alloc (.cells #[.int .i64 z, .int .i64 1526, .bool true] 88)) fun e w' => e = .returned (.tuple #[.int .i64 p, .int .i64 0]) ∧ ∃ lab', RCrdAt w' lab' B H { S with Ai := AddA S.Ai 1, f := addF S.f H.qi S.Ai [inB H p] } v1 v2 l1 l2 ∧ Keep lab w lab' w') := hid (fun w5 h5 => by
    have h6 := HH.out.below h5
    have hcon := rAdd_S w5 _ B.di B.g H.qi S.i (fun b => lab b = 1) ⟨z, 1526, true⟩ rfl h6.di h6.wi h6.mem ⟨by simp, by simp; omega, by simp, by simp⟩ hfr
    rw [show S.i.A.free.getD 0 0 = p from hf0] at hcon
    refine hcon.mono ?_
    rintro e w' ⟨rfl, hs, hm⟩
    rw [← hib] at hs hm
    obtain ⟨lab', h7, h8⟩ := h6.toDI hs hm (AddA_wf h6.wi 1 (by omega) hfr) (One.add h6.oi hfr)
    exact ⟨rfl, lab', h7, (Keep.below h5).trans h8⟩)
  clear h hz hib
  go_enter Tryz.func28, Tryz.ntmps28
  go_wp2_with fail
  go_region_held3 (fun w' => w'.cell? ⟨B.pc, 0, none⟩ = some (.pointer (some ⟨B.di, 0, none⟩))) ((first | exact c0 | exact HS4.out | exact HS5.out | exact HS6.out))
    ((first
      | (go_at_call 38; refine HAT.out.mono ?_; rintro e w4 ⟨rfl, q4, hw4⟩; have HB4 : Hid (Below w.heap.size w w4) := hid (by rw [hw4]; exact below_drewN ((Below.refl _ w).drew) q4); have HS4 := hid (cell_later HB4.out c0); have HS5 := hid (cell_later ((Below.refl _ w4).alloc (Nat.le_refl _) (.cells #[.int .i64 z, .int .i64 1526, .bool true] 88)) HS4.out); clear hw4)
      | (go_at_call 39; refine (HADD.out w4 HB4.out).mono ?_; rintro e w6 ⟨rfl, lab6, h6, hk6⟩; obtain ⟨d0, _, _, _, _, d5, _, _, _⟩ := h6.cells; have HS6 := hid d0; have HN6 := hid h6; have HK6 := hid hk6; clear h6 hk6)))
  obtain ⟨a7, c7, w7, hr7, k7, z7, lab8, h8, hk8⟩ := cput_pair1 HN6.out p hl 58
  have HN8 := hid h8
  have HK8 := hid hk8
  clear h8 hk8
  go_wp2_with (at_builtin; refine nappend_run rfl (.tmp 23) (.tmp 27) 58 rfl rfl rfl hr7 ?_)
  go_end0
  exact ⟨rfl, lab8, _, HN8.out, HK6.out.trans HK8.out⟩
end Go.Proofs.YtdjghkngiicncaaGreat
