/- slices.Index of a row of entries; use, letGo; mayGo, slices.IndexFunc, makeRoom. -/
import Derived.Test.YtdfnfcimajomeaaCcC
namespace Go.Proofs.Ytdfnfcimajomeaa
open Go.RowKit Go.Maps
section
variable {w w' : World} {p m : Nat} {S : Nat → Prop} {A : Cs} {ad : Int → Nat} {bm : Nat} {vr : Value} {M : Int → Option Value}
theorem CaAt.slice (h : CaAt w p S A m ad bm vr M) : ∃ a c, vr = .slice a A.row.length c := owns_slice h.row
/-- A place of the row. -/
theorem CaAt.place (h : CaAt w p S A m ad bm vr M) {i : Nat} (hi : i < A.row.length) : ∃ g c, vr = .slice (some ⟨g, 0, none⟩) A.row.length c ∧ w.cell? ⟨g, i, none⟩ = some (pv (ad (A.row.getD i default).num)) ∧ S g ∧ ∀ j, w.frozen? ⟨g, j, none⟩ = false := by
  obtain ⟨g, c, e, _, _, _, _, hc, hf⟩ := owns_cells h.row (by omega)
  exact ⟨g, c, e, hc i _ (ptrs_get ad hi), h.sr g (by rw [e]; rfl), hf⟩
theorem infoE : (Try.prog.info? 66).map (·.size) = some (514 + 1) := by kernel_rfl
/-- The place of a number. -/
def pos (l : List Ec) (k : Int) : Nat := l.findIdx fun e => decide (e.num = k)
theorem pos_spec {l : List Ec} {k : Int} (h : k ∈ nums l) : pos l k < l.length ∧ (l.getD (pos l k) default).num = k ∧ ∀ j, j < pos l k → (l.getD j default).num ≠ k := by
  unfold nums at h
  obtain ⟨e, he, hk⟩ := List.mem_map.1 h
  have h1 : pos l k < l.length := List.findIdx_lt_length_of_exists ⟨e, he, by simpa using hk⟩
  refine ⟨h1, ?_, fun j hj => ?_⟩
  · have := List.findIdx_getElem (xs := l) (p := fun e : Ec => decide (e.num = k)) (w := h1)
    simp only [List.getD, List.getElem?_eq_getElem h1, Option.getD_some]
    exact of_decide_eq_true this
  · have := List.not_of_lt_findIdx (xs := l) (p := fun e : Ec => decide (e.num = k)) hj
    simp only [List.getD, List.getElem?_eq_getElem (Nat.lt_trans hj h1), Option.getD_some]
    simpa using this
set_option maxRecDepth 100000 in
set_option maxHeartbeats 1000000 in
theorem IndexE_any (h : CaAt w p S A m ad bm vr M) (k : Int) (hk : k ∈ nums A.row) :
    Calls Try.prog 39 #[vr, pv (ad k)] w fun e w' => e = .returned (.int .i64 (pos A.row k : Nat)) ∧ w' = w := by
  obtain ⟨a, c, rfl⟩ := h.slice
  obtain ⟨h1, h2, h3⟩ := pos_spec hk
  have HC : Hid (∀ j, j < A.row.length → ∃ g, a = some ⟨g, 0, none⟩ ∧ w.cell? ⟨g, j, none⟩ = some (pv (ad (A.row.getD j default).num))) := hid (fun j hj => by
    obtain ⟨g, c', e, hc, _⟩ := h.place hj
    simp only [Value.slice.injEq] at e
    exact ⟨g, e.1, hc⟩)
  have HN : Hid (∀ j, j < pos A.row k → (binOp .eql 61 (pv (ad k)) (pv (ad (A.row.getD j default).num))).run Try.prog w = .ok (.bool false) w) := hid (fun j hj => by
    have hjl : j < A.row.length := by omega
    have hm1 := getD_memE h1
    have b1 := (h.ent _ hm1).1
    rw [h2] at b1
    refine ptr_other Try.underlying61 infoE (fun e => ?_) b1 (h.ent _ (getD_memE hjl)).1
    have := h.inj hm1 (getD_memE hjl) (by rw [h2]; exact e)
    rw [h2] at this
    exact h3 j hj this.symm)
  have HE : Hid (ad (A.row.getD (pos A.row k) default).num = ad k) := hid (by rw [h2])
  have hlen : A.row.length ≤ 1024 := Nat.le_trans h.len h.hn
  clear h h2 h3 hk
  generalize pos A.row k = pk at *
  generalize A.row.length = len at *
  go_enter Try.func39, Try.ntmps39
  go_wp2
  go_loopw [8] (fun z wr => ∃ j : Nat, j ≤ pk ∧ z = .int .i64 j ∧ wr = w) (fun z _ => len - (RowKit.intOf z).toNat)
  case atStart => exact ⟨0, Nat.zero_le _, rfl, rfl⟩
  case round =>
    obtain ⟨j, hj, rfl, hww⟩ := hrel
    subst hww
    have hlt : j < len := by omega
    have hki : (j : Int) < len := by omega
    obtain ⟨g, ha, hc⟩ := HC.out j hlt
    subst ha
    by_cases e : j = pk
    · subst e
      rw [HE.out] at hc
      have heq := ptr_same (tp := 61) Try.underlying61 infoE wr (ad k)
      go_wp2
      go_ret
      exact ⟨rfl, rfl⟩
    · have hne := HN.out j (by omega)
      generalize ad (A.row.getD j default).num = y at *
      go_wp2
      go_roundw
      case rel => exact ⟨j + 1, by omega, by go_num, by first | trivial | rfl⟩
      case measure => simp [RowKit.intOf]; omega
theorem nums_use {A : Cs} {k : Int} (hk : k ∈ nums A.row) : nums (A.use k).row = nums (wo A.row k) ++ [k] := by
  unfold Cs.use Cs.at
  rw [nums_app]
  simp [nums, (atL_mem hk).2]
theorem use_mem {A : Cs} {k : Int} (hk : k ∈ nums A.row) (x : Int) : x ∈ nums (A.use k).row ↔ x ∈ nums A.row := by
  rw [nums_use hk, List.mem_append, nums_mem_wo, List.mem_singleton]
  constructor
  · rintro (h | rfl)
    · exact h.1
    · exact hk
  · intro h
    by_cases e : x = k
    · exact .inr e
    · exact .inl ⟨h, e⟩
theorem wo_len {l : List Ec} (hn : (nums l).Nodup) {k : Int} (hk : k ∈ nums l) : (wo l k).length = l.length - 1 ∧ 0 < l.length := by
  obtain ⟨h1, h2, _⟩ := pos_spec hk
  rw [show wo l k = l.eraseIdx (pos l k) by rw [wo_erase hn h1, h2], List.length_eraseIdx, if_pos h1]
  exact ⟨rfl, by omega⟩
set_option maxRecDepth 100000 in
set_option maxHeartbeats 1000000 in
theorem use_any (h : CaAt w p S A m ad bm vr M) (k : Int) (hk : k ∈ nums A.row) :
    Calls Try.prog 40 #[pv p, pv (ad k)] w fun e w' => e = .returned undef ∧ ∃ vr' S', CaAt w' p S' (A.use k) m ad bm vr' M ∧ Kp S w S' w' := by
  obtain ⟨c0, c1, c2⟩ := h.cells
  obtain ⟨h1, h2, h3⟩ := pos_spec hk
  have HI := hid (IndexE_any h k hk)
  obtain ⟨g, c, rfl, _⟩ := h.place h1
  have HD := hid (DeleteE_any w g A.row.length c (pos A.row k) (ptrs ad A.row) h.row h1 (ptrs_one ad A.row))
  rw [ptrs_erase, wo_erase h.nd h1, h2] at HD
  have hlen : A.row.length ≤ 1024 := Nat.le_trans h.len h.hn
  have hwl := wo_len h.nd hk
  -- the append and the store, in whatever world stands behind Delete
  have HA : Hid (∀ w1, w1.ownsRow 0 61 1 (.slice (some ⟨g, 0, none⟩) (A.row.length - 1) c) (A.row.length - 1) (ptrs ad (wo A.row k)) → Mods (fun b => b = g) w w1 →
      ∃ v' w2, (Builtin.append_ #[51, 51] 51 #[.slice (some ⟨g, 0, none⟩) (A.row.length - 1) c, .slice (some ⟨w1.heap.size, 0, none⟩) 1 1]).run Try.prog (w1.alloc (.cells #[pv (ad k)] 61)) = .ok v' w2 ∧ (∃ a n c, v' = .slice a n c) ∧ w2.frozen? ⟨p, 2, none⟩ = false ∧ (∃ u, w2.cell? ⟨p, 2, none⟩ = some u ∧ ∃ a n c, u = .slice a n c) ∧ ∃ S', CaAt (w2.setCell ⟨p, 2, none⟩ v') p S' (A.use k) m ad bm v' M ∧ Kp S w S' (w2.setCell ⟨p, 2, none⟩ v')) := hid (by
    intro w1 hr1 hm1
    have hb1 : Below w1.heap.size w1 (w1.alloc (.cells #[pv (ad k)] 61)) := (Below.refl _ _).alloc (Nat.le_refl _) _
    have hr2 : (w1.alloc (.cells #[pv (ad k)] 61)).ownsRow 0 61 1 (.slice (some ⟨g, 0, none⟩) (A.row.length - 1) c) (A.row.length - 1) (ptrs ad (wo A.row k)) := owns_keep hr1 (fun b hb => hb1.block b (owns_lt hr1 hb).1)
    obtain ⟨v', w2, hap, ho, hm2, hob⟩ := app_gen (w1.alloc (.cells #[pv (ad k)] 61)) 51 51 61 _ 8 Try.underlying51 infoPb rfl (by omega) _ (ptrs ad (wo A.row k)) (A.row.length - 1) (by rw [ptrs_len]; omega) hr2 ⟨w1.heap.size, 0, none⟩ 1 1 [pv (ad k)] rfl (cell_one_new w1 _ _) (by simp [Value.oneCell']) (by omega)
    have hm12 : Mods (fun b => b = g) w w2 := (hm1.below hb1).tr (hm2.weak (fun b e => .inl (by simp [Value.ownBlock] at e; exact e.symm)))
    have hpg : p ≠ g := h.p_ne_r rfl
    have hbox : w2.heap[p]? = some (.cells #[.int .i64 A.n, .map (some bm), .slice (some ⟨g, 0, none⟩) A.row.length c] 53 (0, 0)) := (hm12.block p (h.lt p h.sp) hpg).trans h.box
    obtain ⟨a', c', e'⟩ := owns_slice ho
    refine ⟨v', w2, hap, ⟨_, _, _, e'⟩, froz_of hbox 2, ⟨_, cell_of hbox rfl, _, _, _, rfl⟩, ?_⟩
    have hob' : ∀ b, v'.ownBlock = some b → b = g ∨ w.heap.size ≤ b := fun b hb => by
      rcases hob with e | e
      · rw [e] at hb; simp [Value.ownBlock] at hb; exact .inl hb.symm
      · rw [e] at hb
        simp at hb
        have := hm1.size
        exact .inr (by omega)
    have hvp : v'.ownBlock ≠ some p := fun e => by
      rcases hob' p e with e | e
      · exact hpg e
      · have := h.lt p h.sp; omega
    have hm3 : Mods (fun b => b = p ∨ b = g) w (w2.setCell ⟨p, 2, none⟩ v') := (hm12.weak (fun b e => .inl (.inr e))).setCell p 2 v' (.inl rfl)
    refine h.toRow (A' := A.use k) (P := fun b => b = p ∨ b = g) rfl (setc hbox 2 v') ?_ ?_ hm3 (fun b e => e.imp id (fun e => .inl (by rw [e]; rfl))) (fun b hb => (hob' b hb).imp (fun e => by rw [e]; rfl) id) (fun e he => ?_) ?_ (fun j hj => ?_) ?_
    · exact h.map.keep (hm3.block bm (h.lt bm h.sm) (fun e => by
        rcases e with e | e
        · exact h.p_ne_m e.symm
        · exact h.m_ne_r rfl e))
    · have e1 : (A.use k).row.length = A.row.length - 1 + 1 := by unfold Cs.use; simp; omega
      have e2 : ptrs ad (A.use k).row = ptrs ad (wo A.row k) ++ [pv (ad k)] := by
        unfold Cs.use Cs.at
        rw [ptrs_app]
        simp [ptrs, (atL_mem hk).2]
      rw [e1, e2]
      exact owns_keep ho (fun b hb => ((Mods.refl (fun b => b = p) w2).setCell p 2 v' rfl).block b (owns_lt ho hb).1 (fun e => hvp (by rw [← e]; exact hb)))
    · unfold Cs.use at he
      rcases List.mem_append.1 he with h4 | h4
      · exact (mem_wo.1 h4).1
      · rw [List.mem_singleton.1 h4]; exact (atL_mem hk).1
    · rw [nums_use hk, List.nodup_append]
      exact ⟨nd_wo h.nd k, by simp, fun a ha b hb e => by
        simp at hb
        rw [e, hb] at ha
        exact (nums_mem_wo.1 ha).2 rfl⟩
    · rw [h.key j hj]
      by_cases e : j ∈ nums A.row
      · rw [if_pos e, if_pos ((use_mem hk j).2 e)]
      · rw [if_neg e, if_neg (fun e2 => e ((use_mem hk j).1 e2))]
    · have := h.len
      unfold Cs.use
      simp
      omega)
  have hw1 : IntKind.i64.wrap (((pos A.row k : Nat) : Int) + 1) = ((pos A.row k : Nat) : Int) + 1 := IntWalk.i64_in _ (by omega)
  have HB2 : Hid (∀ w1, Mods (fun b => b = g) w w1 → w1.cell? ⟨p, 2, none⟩ = some (.slice (some ⟨g, 0, none⟩) A.row.length c)) := hid (fun w1 hm => hm.cell c2 (h.p_ne_r rfl))
  clear h h2 h3 hk hwl
  generalize pos A.row k = pk at *
  generalize A.row.length = len at *
  generalize len - 1 = ln1 at *
  go_enter Try.func40, Try.ntmps40
  go_wp2_with (first
    | (go_at_call 39; refine HI.out.mono ?_; rintro e w1 ⟨rfl, hw1⟩; rw [hw1]; clear hw1)
    | (go_at_call 50; refine HD.out.mono ?_; rintro e w1 ⟨rfl, hr1, hm1⟩; obtain ⟨v', w2, hap, ⟨a3, n3, c3, e3⟩, f3, ⟨u3, c23, a4, n4, c4, e4⟩, hS⟩ := HA.out w1 hr1 hm1; subst e3 e4; have HS := hid hS; clear hr1 hm1 hS)
    | (at_builtin; refine wpList_append_run rfl _ _ 51 rfl rfl rfl hap ?_))
  go_end0
  obtain ⟨S', h1, h2⟩ := HS.out
  exact ⟨rfl, _, S', h1, h2⟩
end
end Go.Proofs.Ytdfnfcimajomeaa
