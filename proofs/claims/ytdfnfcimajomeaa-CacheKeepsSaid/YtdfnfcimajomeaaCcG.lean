/- place. -/
import Derived.Test.YtdfnfcimajomeaaCcF
namespace Go.Proofs.Ytdfnfcimajomeaa
open Go.RowKit Go.Maps
section
variable {w w' : World} {p m : Nat} {S : Nat → Prop} {A : Cs} {ad : Int → Nat} {bm : Nat} {vr : Value} {M : Int → Option Value}
theorem zeroPE (w : World) : (zeroValue 61).run Try.prog w = .ok (.pointer none) w := by kernel_rfl
/-- What the map tells of a number. -/
theorem CaAt.look (h : CaAt w p S A m ad bm vr M) {k : Int} (hk : IsI k) : (k ∈ nums A.row → (Instr.lookup 50 (.map (some bm)) (.int .i64 k) true).run Try.prog w = .ok (.tuple #[pv (ad k), .bool true]) w) ∧ (k ∉ nums A.row → (Instr.lookup 50 (.map (some bm)) (.int .i64 k) true).run Try.prog w = .ok (.tuple #[.pointer none, .bool false]) w) := by
  have := h.map.look_ok mapTE (zeroPE w) hk
  rw [h.key k hk] at this
  refine ⟨fun e => ?_, fun e => ?_⟩
  · rw [if_pos e] at this; exact this
  · rw [if_neg e] at this; exact this
theorem room_sub {A1 : Cs} (h : A.room = some A1) : (∀ e, e ∈ A1.row → e ∈ A.row) ∧ A1.n = A.n := by
  unfold Cs.room at h
  split at h
  · simp at h; subst h; exact ⟨fun _ h => h, rfl⟩
  · cases hf : A.row.find? may with
    | none => rw [hf] at h; cases h
    | some x => rw [hf] at h; simp at h; subst h; exact ⟨fun e he => (mem_wo.1 he).1, rfl⟩
theorem room_len {A1 : Cs} (h : A.room = some A1) (hn : (nums A.row).Nodup) (hl : A.row.length ≤ A.n) : A1.row.length < A.n := by
  unfold Cs.room at h
  split at h
  · simp at h; subst h; assumption
  · cases hf : A.row.find? may with
    | none => rw [hf] at h; cases h
    | some x =>
      rw [hf] at h
      simp at h
      subst h
      have := wo_len hn (k := x.num) (List.mem_map.2 ⟨x, List.mem_of_find?_eq_some hf, rfl⟩)
      rw [nums_cut]
      omega
set_option maxRecDepth 100000 in
theorem place_has (h : CaAt w p S A m ad bm vr M) (k : Int) (hk : IsI k) (hm : k ∈ nums A.row) :
    Calls Try.prog 35 #[pv p, .int .i64 k] w fun e w' => e = .returned (.tuple #[pv (ad k), .int .i64 0]) ∧ ∃ vr' S', CaAt w' p S' (A.use k) m ad bm vr' M ∧ Kp S w S' w' := by
  obtain ⟨c0, c1, c2⟩ := h.cells
  have hlook := (h.look hk).1 hm
  have HU := hid (use_any h k hm)
  clear h hm
  go_enter Try.func35, Try.ntmps35
  go_wp2_with (go_at_call 40; refine HU.out.mono ?_; rintro e w1 ⟨rfl, hS⟩; have HS := hid hS; clear hS)
  go_ret2
  exact ⟨rfl, HS.out⟩
set_option maxRecDepth 100000 in
theorem place_full (h : CaAt w p S A m ad bm vr M) (k : Int) (hk : IsI k) (hm : k ∉ nums A.row) (hr : A.room = none) :
    Calls Try.prog 35 #[pv p, .int .i64 k] w fun e w' => e = .returned (.tuple #[.pointer none, .int .i64 7]) ∧ ∃ vr' M' S', CaAt w' p S' A m ad bm vr' M' ∧ Kp S w S' w' := by
  obtain ⟨c0, c1, c2⟩ := h.cells
  have hlook := (h.look hk).2 hm
  have HU := hid (makeRoom_any h)
  rw [hr] at HU
  simp only [Option.isSome_none, Option.getD_none] at HU
  clear h hm hr
  go_enter Try.func35, Try.ntmps35
  go_wp2_with (go_at_call 49; refine HU.out.mono ?_; rintro e w1 ⟨rfl, hS⟩; have HS := hid hS; clear hS)
  go_ret2
  exact ⟨rfl, HS.out⟩
/-- A new entry, as the walk builds it. -/
theorem ent0 (k : Int) : (entC ⟨k, z512, false, 0⟩).toArray = Array.foldl (fun cs x => cs.setIfInBounds x.snd x.fst) Try.zeroCells66 (Try.zeroCells64.setIfInBounds 0 (Value.int IntKind.i64 k)).zipIdx 0 513 := by kernel_rfl
/-- One more is taken in. -/
theorem CaAt.add (h : CaAt w p S A m ad bm vr M) (k : Int) (hk : IsI k) (hm : k ∉ nums A.row) (hl : A.row.length < A.n) (hmm : m < 1000000000) (w1 : World) (hw1 : w1 = w.alloc (.cells (entC ⟨k, z512, false, 0⟩).toArray 66)) :
    ∃ w2, (Instr.mapUpdate 50 (.map (some bm)) (.int .i64 k) (pv w.heap.size)).run Try.prog w1 = .ok () w2 ∧ w2.cell? ⟨p, 2, none⟩ = some vr ∧
      ∃ v' w3, (Builtin.append_ #[51, 51] 51 #[vr, .slice (some ⟨w2.heap.size, 0, none⟩) 1 1]).run Try.prog (w2.alloc (.cells #[pv w.heap.size] 61)) = .ok v' w3 ∧ (∃ a n c, v' = .slice a n c) ∧ w3.frozen? ⟨p, 2, none⟩ = false ∧ w3.cell? ⟨p, 2, none⟩ = some vr ∧
        ∃ S', CaAt (w3.setCell ⟨p, 2, none⟩ v') p S' (A.add ⟨k, z512, false, 0⟩) (m + 1) (upd ad k w.heap.size) bm v' (upd M k (some (pv w.heap.size))) ∧ Kp S w S' (w3.setCell ⟨p, 2, none⟩ v') := by
  have hb1 : Below w.heap.size w w1 := by rw [hw1]; exact (Below.refl _ _).alloc (Nat.le_refl _) _
  have hs1 : w1.heap.size = w.heap.size + 1 := by rw [hw1]; simp
  have hnew1 : w1.heap[w.heap.size]? = some (.cells (entC ⟨k, z512, false, 0⟩).toArray 66 (0, 0)) := by rw [hw1]; exact alloc_new w _
  have h1 := h.below hb1
  obtain ⟨w2, hup, hM2, hg2⟩ := h1.map.put mapTE (by unfold maxLen; omega) hk (pv w.heap.size)
  have hm2 : Mods (fun b => b = bm) w1 w2 := Mods.of_grown' hg2
  have hp1 := h.lt p h.sp
  have hbm1 := h.lt bm h.sm
  have hpm := h.p_ne_m
  have hbox2 : w2.heap[p]? = some (.cells #[.int .i64 A.n, .map (some bm), vr] 53 (0, 0)) := (hm2.block p (by omega) hpm).trans h1.box
  refine ⟨w2, hup, cell_of hbox2 rfl, ?_⟩
  have hrow2 : w2.ownsRow 0 61 1 vr A.row.length (ptrs ad A.row) := owns_keep h1.row (fun g hg => hm2.block g (owns_lt h1.row hg).1 (fun e => h.m_ne_r hg e.symm))
  have hb3 : Below w2.heap.size w2 (w2.alloc (.cells #[pv w.heap.size] 61)) := (Below.refl _ _).alloc (Nat.le_refl _) _
  have hrow3 : (w2.alloc (.cells #[pv w.heap.size] 61)).ownsRow 0 61 1 vr A.row.length (ptrs ad A.row) := owns_keep hrow2 (fun g hg => hb3.block g (owns_lt hrow2 hg).1)
  have hlen : A.row.length ≤ 1024 := Nat.le_trans h.len h.hn
  obtain ⟨v', w3, hap, ho, hm3, hob⟩ := app_gen (w2.alloc (.cells #[pv w.heap.size] 61)) 51 51 61 _ 8 Try.underlying51 infoPb rfl (by omega) vr (ptrs ad A.row) A.row.length (ptrs_len _ _) hrow3 ⟨w2.heap.size, 0, none⟩ 1 1 [pv w.heap.size] rfl (cell_one_new w2 _ _) (by simp [Value.oneCell']) (by omega)
  have hsz2 : w.heap.size < w2.heap.size := by have := hm2.size; omega
  have hsz3 : (w2.alloc (.cells #[pv w.heap.size] 61)).heap.size = w2.heap.size + 1 := by simp
  have hm23 : Mods (fun b => vr.ownBlock = some b) w2 w3 := (Mods.of_below hb3).tr hm3
  have hbox3 : w3.heap[p]? = some (.cells #[.int .i64 A.n, .map (some bm), vr] 53 (0, 0)) := (hm23.block p (by omega) (fun e => h.p_ne_r e rfl)).trans hbox2
  obtain ⟨a', c', e'⟩ := owns_slice ho
  refine ⟨v', w3, hap, ⟨_, _, _, e'⟩, froz_of hbox3 2, cell_of hbox3 rfl, ?_⟩
  have hset : Mods (fun b => b = p) w3 (w3.setCell ⟨p, 2, none⟩ v') := (Mods.refl (fun b => b = p) w3).setCell p 2 v' rfl
  have hm13 : Mods (fun b => b = bm ∨ vr.ownBlock = some b) w1 w3 := (hm2.weak (fun b e => .inl (.inl e))).tr (hm23.weak (fun b e => .inl (.inr e)))
  have hm14 : Mods (fun b => b = p ∨ b = bm ∨ vr.ownBlock = some b) w1 (w3.setCell ⟨p, 2, none⟩ v') := (hm13.weak (fun b e => .inl (.inr e))).tr (hset.weak (fun b e => .inl (.inl e)))
  have hm04 : Mods (fun b => b = p ∨ b = bm ∨ vr.ownBlock = some b) w (w3.setCell ⟨p, 2, none⟩ v') := (Mods.of_below hb1).tr hm14
  have hob' : ∀ b, v'.ownBlock = some b → vr.ownBlock = some b ∨ w.heap.size < b := fun b hb => by
    rcases hob with e | e
    · exact .inl (by rw [← e]; exact hb)
    · rw [e] at hb; simp at hb; exact .inr (by omega)
  have hvp : v'.ownBlock ≠ some p := fun e => by
    rcases hob' p e with e | e
    · exact h.p_ne_r e rfl
    · omega
  have hPS : ∀ b, (b = p ∨ b = bm ∨ vr.ownBlock = some b) → S b := fun b e => by
    rcases e with rfl | rfl | e
    · exact h.sp
    · exact h.sm
    · exact h.sr b e
  have had : ∀ e ∈ A.row, upd ad k w.heap.size e.num = ad e.num := fun e he => upd_other _ _ (fun e2 => hm (List.mem_map.2 ⟨e, he, e2⟩))
  refine ⟨fun b => S b ∨ v'.ownBlock = some b ∨ b = w.heap.size, ⟨fun b hb => ?_, setc hbox3 2 v', .inl h.sp, ?_, .inl h.sm, ?_, fun g hg => .inr (.inl hg), fun e he => ?_, ?_, fun j hj => ?_, h.hn, ?_⟩, fun b hb => ?_, hm04.weak (fun b e => .inl (hPS b e))⟩
  · rcases hb with e | e | e
    · exact Nat.lt_of_lt_of_le (h.lt b e) hm04.size
    · exact Nat.lt_of_lt_of_le (owns_lt ho e).1 hset.size
    · rw [e]; have := hm14.size; omega
  · exact (hM2.keep (hm23.block bm hM2.lt (fun e => h.m_ne_r e rfl))).keep (hset.block bm (by have := hm23.size; have := hM2.lt; omega) (fun e => hpm e.symm))
  · have e1 : (A.add ⟨k, z512, false, 0⟩).row.length = A.row.length + 1 := by unfold Cs.add; simp
    have e2 : ptrs (upd ad k w.heap.size) (A.add ⟨k, z512, false, 0⟩).row = ptrs ad A.row ++ [pv w.heap.size] := by
      have e3 : ptrs (upd ad k w.heap.size) A.row = ptrs ad A.row := List.map_congr_left (fun e he => by rw [had e he])
      have e4 : ptrs (upd ad k w.heap.size) [⟨k, z512, false, 0⟩] = [pv (upd ad k w.heap.size k)] := rfl
      unfold Cs.add
      rw [ptrs_app, e3, e4, upd_same]
    rw [e1, e2]
    exact owns_keep ho (fun b hb => hset.block b (owns_lt ho hb).1 (fun e => hvp (by rw [← e]; exact hb)))
  · unfold Cs.add at he
    rcases List.mem_append.1 he with h4 | h4
    · obtain ⟨g1, g2, g3, g4⟩ := h.ent e h4
      rw [had e h4]
      refine ⟨(hm04.block _ (h.lt _ g2) (fun e2 => ?_)).trans g1, .inl g2, g3, g4⟩
      rcases e2 with e3 | e3 | e3
      · exact h.e_ne_p h4 e3
      · exact h.e_ne_m h4 e3
      · exact h.e_ne_r h4 e3 rfl
    · obtain rfl := List.mem_singleton.1 h4
      rw [upd_same]
      refine ⟨(hm14.block _ (by omega) (fun e2 => ?_)).trans hnew1, .inr (.inr rfl), List.length_replicate, hk⟩
      have := h.lt _ (hPS _ e2)
      omega
  · unfold Cs.add
    rw [nums_app, List.nodup_append]
    exact ⟨h.nd, by simp [nums], fun a ha b hb e => by
      simp [nums] at hb
      rw [e, hb] at ha
      exact hm ha⟩
  · unfold Cs.add
    rw [nums_app]
    by_cases e : j = k
    · subst e
      rw [upd_same, upd_same, if_pos (by simp [nums])]
    · rw [upd_other _ _ e, upd_other _ _ e, h.key j hj]
      have : (j ∈ nums A.row ++ nums [⟨k, z512, false, 0⟩]) ↔ j ∈ nums A.row := by simp [nums, e]
      by_cases e2 : j ∈ nums A.row
      · rw [if_pos e2, if_pos (this.2 e2)]
      · rw [if_neg e2, if_neg (fun e3 => e2 (this.1 e3))]
  · unfold Cs.add
    simp
    omega
  · rcases hb with e | e | e
    · exact .inl e
    · rcases hob' b e with e2 | e2
      · exact .inl (h.sr b e2)
      · exact .inr (by omega)
    · exact .inr (by omega)
set_option maxRecDepth 100000 in
set_option maxHeartbeats 1000000 in
theorem place_new (h : CaAt w p S A m ad bm vr M) (k : Int) (hk : IsI k) (hm : k ∉ nums A.row) (A1 : Cs) (hr : A.room = some A1) (hmm : m < 1000000000) :
    Calls Try.prog 35 #[pv p, .int .i64 k] w fun e w' => ∃ nb ad' vr' M' S' z, e = .returned (.tuple #[pv nb, .int .i64 0]) ∧ ad' k = nb ∧ CaAt w' p S' (A1.add ⟨k, z, false, 0⟩) (m + 1) ad' bm vr' M' ∧ Kp S w S' w' := by
  obtain ⟨c0, c1, c2⟩ := h.cells
  have hlook := (h.look hk).2 hm
  have HU := hid (makeRoom_any h)
  rw [hr] at HU
  simp only [Option.isSome_some, Option.getD_some] at HU
  have hsub := room_sub hr
  have hlen := room_len hr h.nd h.len
  have hm1 : k ∉ nums A1.row := fun e => by
    obtain ⟨x, hx, e2⟩ := List.mem_map.1 e
    exact hm (List.mem_map.2 ⟨x, hsub.1 x hx, e2⟩)
  rw [← hsub.2] at hlen
  have HM1 := hid hm1
  have HLN := hid hlen
  clear h hm hr hsub hlen hm1
  go_enter Try.func35, Try.ntmps35
  go_wp2_with fail
  refine HU.out.mono ?_
  rintro e w1 ⟨rfl, vr1, M1, S1, h1, hk1⟩
  obtain ⟨W2, hW2⟩ : ∃ W2, W2 = w1.alloc (.cells (entC ⟨k, z512, false, 0⟩).toArray 66) := ⟨_, rfl⟩
  obtain ⟨w2, hup, c22, v', w3, hap, ⟨a3, n3, c3, e3⟩, f3, c33, S', hS, hK⟩ := h1.add k hk HM1.out HLN.out hmm W2 hW2
  have c11 : W2.cell? ⟨p, 1, none⟩ = some (.map (some bm)) := by
    rw [hW2]
    exact cell_later ((Below.refl _ _).alloc (Nat.le_refl _) _) h1.cells.2.1
  have c12 := h1.cells.2.1
  have hpl := h1.lt p h1.sp
  obtain ⟨a4, c4, e4⟩ := h1.slice
  rw [ent0 k] at hW2
  subst e3 e4 hW2
  have HS := hid hS
  have HK := hid (hk1.trans hK)
  clear h1 hS hK hk1 HU
  generalize A1.row.length = ln at *
  go_wp2_with (at_builtin; refine wpList_append_run rfl _ _ 51 rfl rfl rfl hap ?_)
  go_ret2
  exact ⟨_, _, _, _, S', z512, rfl, upd_same _ _ _, HS.out, HK.out⟩
end
end Go.Proofs.Ytdfnfcimajomeaa
