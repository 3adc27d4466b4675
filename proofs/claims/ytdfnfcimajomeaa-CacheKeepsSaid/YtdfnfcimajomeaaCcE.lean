/- letGo; mayGo, slices.IndexFunc, makeRoom. -/
import Derived.Test.YtdfnfcimajomeaaCcD
namespace Go.Proofs.Ytdfnfcimajomeaa
open Go.RowKit Go.Maps
section
variable {w w' : World} {p m : Nat} {S : Nat → Prop} {A : Cs} {ad : Int → Nat} {bm : Nat} {vr : Value} {M : Int → Option Value}
theorem mapTE : Try.prog.underlying 50 = some (.map 3 61) := Try.underlying50
theorem entC_len (e : Ec) (h : e.dat.length = 512) : (entC e).length = 515 := by simp [entC, h]
theorem entC_num (e : Ec) : (entC e).toArray[0]? = some (.int .i64 e.num) := by simp [entC]
theorem entC_dirty (e : Ec) (h : e.dat.length = 512) : (entC e).toArray[513]? = some (.bool e.dirty) := by
  unfold entC
  rw [List.getElem?_toArray, List.getElem?_cons_succ, List.getElem?_append_right (by simp [h])]
  simp [h]
theorem entC_pins (e : Ec) (h : e.dat.length = 512) : (entC e).toArray[514]? = some (.int .i64 e.pins) := by
  unfold entC
  rw [List.getElem?_toArray, List.getElem?_cons_succ, List.getElem?_append_right (by simp [h])]
  simp [h]
theorem entC_dat (e : Ec) (h : e.dat.length = 512) {j : Nat} (hj : j < 512) : (entC e).toArray[1 + j]? = some (.int .u8 (e.dat.getD j 0)) := by
  unfold entC
  rw [List.getElem?_toArray, Nat.add_comm, List.getElem?_cons_succ, List.getElem?_append_left (by simp [h]; omega), u8s_get (by omega)]
/-- An entry's cells. -/
theorem CaAt.entry (h : CaAt w p S A m ad bm vr M) {e : Ec} (he : e ∈ A.row) : w.cell? ⟨ad e.num, 0, none⟩ = some (.int .i64 e.num) ∧ w.cell? ⟨ad e.num, 513, none⟩ = some (.bool e.dirty) ∧ w.cell? ⟨ad e.num, 514, none⟩ = some (.int .i64 e.pins) ∧ ∀ j, w.frozen? ⟨ad e.num, j, none⟩ = false := by
  obtain ⟨h1, h2, h3, h4⟩ := h.ent e he
  exact ⟨cell_of h1 (entC_num e), cell_of h1 (entC_dirty e h3), cell_of h1 (entC_pins e h3), fun j => froz_of h1 j⟩
theorem nums_cut (A : Cs) (k : Int) : (A.cut k).row = wo A.row k := rfl
set_option maxRecDepth 100000 in
set_option maxHeartbeats 2000000 in
theorem letGo_any (h : CaAt w p S A m ad bm vr M) (i : Nat) (hi : i < A.row.length) :
    Calls Try.prog 38 #[pv p, .int .i64 i] w fun e w' => e = .returned undef ∧ ∃ vr' M' S', CaAt w' p S' (A.cut (A.row.getD i default).num) m ad bm vr' M' ∧ Kp S w S' w' := by
  obtain ⟨c0, c1, c2⟩ := h.cells
  have hmem := getD_memE hi
  obtain ⟨n0, _, _, _⟩ := h.entry hmem
  obtain ⟨_, _, _, hIs⟩ := h.ent _ hmem
  obtain ⟨g, c, rfl, cg, _, _⟩ := h.place hi
  have hkm : (A.row.getD i default).num ∈ nums A.row := List.mem_map.2 ⟨_, hmem, rfl⟩
  obtain ⟨W1, hdel, hM1, hg1⟩ := (h.map.keep (w' := w.drew) rfl).del mapTE hIs 0
  have hm1 : Mods (fun b => b = bm) w W1 := (Mods.refl (fun b => b = bm) w).drew.tr (Mods.of_grown' hg1)
  have hpm := h.p_ne_m
  have hpg : p ≠ g := h.p_ne_r rfl
  have hmg : bm ≠ g := h.m_ne_r rfl
  have hr1 : W1.ownsRow 0 61 1 (.slice (some ⟨g, 0, none⟩) A.row.length c) A.row.length (ptrs ad A.row) := owns_keep h.row (fun b hb => hm1.block b (owns_lt h.row hb).1 (fun e => by simp [Value.ownBlock] at hb; exact hmg (e.symm.trans hb.symm)))
  have HD := hid (DeleteE_any W1 g A.row.length c i (ptrs ad A.row) hr1 hi (ptrs_one ad A.row))
  rw [ptrs_erase, wo_erase h.nd hi] at HD
  have hwl := wo_len h.nd hkm
  have hlen : A.row.length ≤ 1024 := Nat.le_trans h.len h.hn
  have c2' : W1.cell? ⟨p, 2, none⟩ = some (.slice (some ⟨g, 0, none⟩) A.row.length c) := hm1.cell c2 hpm
  have HA : Hid (∀ w1, w1.ownsRow 0 61 1 (.slice (some ⟨g, 0, none⟩) (A.row.length - 1) c) (A.row.length - 1) (ptrs ad (wo A.row (A.row.getD i default).num)) → Mods (fun b => b = g) W1 w1 →
      w1.frozen? ⟨p, 2, none⟩ = false ∧ w1.cell? ⟨p, 2, none⟩ = some (.slice (some ⟨g, 0, none⟩) A.row.length c) ∧ ∃ S', CaAt (w1.setCell ⟨p, 2, none⟩ (.slice (some ⟨g, 0, none⟩) (A.row.length - 1) c)) p S' (A.cut (A.row.getD i default).num) m ad bm (.slice (some ⟨g, 0, none⟩) (A.row.length - 1) c) (upd M (A.row.getD i default).num none) ∧ Kp S w S' (w1.setCell ⟨p, 2, none⟩ (.slice (some ⟨g, 0, none⟩) (A.row.length - 1) c))) := hid (by
    intro w1 hr2 hm2
    have hm12 : Mods (fun b => b = bm ∨ b = g) w w1 := (hm1.weak (fun b e => .inl (.inl e))).tr (hm2.weak (fun b e => .inl (.inr e)))
    have hbox : w1.heap[p]? = some (.cells #[.int .i64 A.n, .map (some bm), .slice (some ⟨g, 0, none⟩) A.row.length c] 53 (0, 0)) := (hm12.block p (h.lt p h.sp) (fun e => e.elim hpm hpg)).trans h.box
    refine ⟨froz_of hbox 2, cell_of hbox rfl, ?_⟩
    have hm3 : Mods (fun b => b = p ∨ b = bm ∨ b = g) w (w1.setCell ⟨p, 2, none⟩ (.slice (some ⟨g, 0, none⟩) (A.row.length - 1) c)) := (hm12.weak (fun b e => .inl (.inr e))).setCell p 2 _ (.inl rfl)
    have hset : Mods (fun b => b = p) w1 (w1.setCell ⟨p, 2, none⟩ (.slice (some ⟨g, 0, none⟩) (A.row.length - 1) c)) := (Mods.refl (fun b => b = p) w1).setCell p 2 _ rfl
    have hml : bm < w1.heap.size := Nat.lt_of_lt_of_le (h.lt bm h.sm) hm12.size
    refine h.toRow (A' := A.cut (A.row.getD i default).num) (P := fun b => b = p ∨ b = bm ∨ b = g) rfl (setc hbox 2 _) ?_ ?_ hm3 (fun b e => by rcases e with e | e | e; exact .inl e; exact .inr (.inr e); exact .inr (.inl (by rw [e]; rfl))) (fun b hb => .inl hb) (fun e he => (mem_wo.1 he).1) (nd_wo h.nd _) (fun j hj => ?_) ?_
    · exact (hM1.keep (hm2.block bm hM1.lt hmg)).keep (hset.block bm hml (fun e => hpm e.symm))
    · rw [nums_cut, hwl.1]
      exact owns_keep hr2 (fun b hb => hset.block b (owns_lt hr2 hb).1 (fun e => by simp [Value.ownBlock] at hb; exact hpg (e.symm.trans hb.symm)))
    · rw [nums_cut]
      by_cases e : j = (A.row.getD i default).num
      · rw [← e, upd_same, if_neg]
        rw [nums_mem_wo]
        exact fun e2 => e2.2 rfl
      · rw [upd_other _ _ e, h.key j hj]
        by_cases e2 : j ∈ nums A.row
        · rw [if_pos e2, if_pos (nums_mem_wo.2 ⟨e2, e⟩)]
        · rw [if_neg e2, if_neg (fun e3 => e2 (nums_mem_wo.1 e3).1)]
    · have := h.len
      rw [nums_cut]
      omega)
  have hw1 : IntKind.i64.wrap ((i : Int) + 1) = (i : Int) + 1 := IntWalk.i64_in _ (by omega)
  have hii : (i : Int) < (A.row.length : Int) := by omega
  clear h hwl hr1 hM1 hg1 hm1 hkm hmem hIs hpm hpg hmg
  generalize A.cut (A.row.getD i default).num = A2 at *
  generalize wo A.row (A.row.getD i default).num = l2 at *
  generalize upd M (A.row.getD i default).num none = M2 at *
  generalize ad (A.row.getD i default).num = be at *
  generalize (A.row.getD i default).num = k at *
  generalize A.row.length = len at *
  generalize len - 1 = ln1 at *
  go_enter Try.func38, Try.ntmps38
  go_wp2_with fail
  go_region
  go_wp2_with (go_at_call 50; refine HD.out.mono ?_; rintro e w1 ⟨rfl, hr1, hm1⟩; obtain ⟨f3, c3, hS⟩ := HA.out w1 hr1 hm1; have HS := hid hS; clear hr1 hm1 hS)
  go_end0
  obtain ⟨S', h1, h2⟩ := HS.out
  exact ⟨rfl, _, _, S', h1, h2⟩

theorem may_any (w : World) (b : Nat) (d : Bool) (n : Int) (h1 : w.cell? ⟨b, 513, none⟩ = some (.bool d)) (h2 : w.cell? ⟨b, 514, none⟩ = some (.int .i64 n)) :
    Calls Try.prog 37 #[pv b] w fun e w' => e = .returned (.bool (!d && decide (n = 0))) ∧ w' = w := by
  cases d with
  | true =>
    go_enter Try.func37, Try.ntmps37
    go_wp2
    go_ret
    exact ⟨rfl, rfl⟩
  | false =>
    by_cases e : n = 0
    · subst e
      go_enter Try.func37, Try.ntmps37
      go_wp2
      go_ret
      exact ⟨rfl, rfl⟩
    · go_enter Try.func37, Try.ntmps37
      go_wp2
      go_ret
      exact ⟨by simp [e], rfl⟩
/-- The first one that may go. -/
def posM (l : List Ec) : Nat := l.findIdx may
theorem posM_spec (l : List Ec) : (posM l < l.length → l.find? may = some (l.getD (posM l) default) ∧ may (l.getD (posM l) default) = true) ∧ (¬ posM l < l.length → l.find? may = none) ∧ (∀ j, j < l.length → j < posM l → may (l.getD j default) = false) ∧ posM l ≤ l.length := by
  refine ⟨fun h => ?_, fun h => ?_, fun j hj h => ?_, List.findIdx_le_length⟩
  · have h1 := List.findIdx_getElem (xs := l) (p := may) (w := h)
    have h2 : l.getD (posM l) default = l[List.findIdx may l] := by unfold posM at h ⊢; simp only [List.getD, List.getElem?_eq_getElem h, Option.getD_some]
    rw [h2]
    refine ⟨?_, h1⟩
    rw [List.find?_eq_some_iff_getElem]
    exact ⟨h1, _, h, rfl, fun j hj => by have := List.not_of_lt_findIdx hj; simpa using this⟩
  · rw [List.find?_eq_none]
    have : l.findIdx may = l.length := by
      have := List.findIdx_le_length (xs := l) (p := may)
      unfold posM at h
      omega
    rw [List.findIdx_eq_length] at this
    intro x hx
    rw [this x hx]
    simp
  · have := List.not_of_lt_findIdx h
    simp only [List.getD, List.getElem?_eq_getElem hj, Option.getD_some]
    simpa using this
def idxM (l : List Ec) : Int := if posM l < l.length then (posM l : Nat) else -1
set_option maxRecDepth 100000 in
set_option maxHeartbeats 1000000 in
theorem IndexFuncE_any (h : CaAt w p S A m ad bm vr M) :
    Calls Try.prog 63 #[vr, .func (.func 37) #[] #[]] w fun e w' => e = .returned (.int .i64 (idxM A.row)) ∧ w' = w := by
  obtain ⟨a, c, rfl⟩ := h.slice
  have HC : Hid (∀ j, j < A.row.length → ∃ g, a = some ⟨g, 0, none⟩ ∧ w.cell? ⟨g, j, none⟩ = some (pv (ad (A.row.getD j default).num)) ∧ Calls Try.prog 37 #[pv (ad (A.row.getD j default).num)] w fun e w' => e = .returned (.bool (may (A.row.getD j default))) ∧ w' = w) := hid (fun j hj => by
    obtain ⟨g, c', e, hc, _⟩ := h.place hj
    simp only [Value.slice.injEq] at e
    obtain ⟨_, c1, c2, _⟩ := h.entry (getD_memE hj)
    exact ⟨g, e.1, hc, may_any w _ _ _ c1 c2⟩)
  obtain ⟨q1, q2, q3, q4⟩ := posM_spec A.row
  have Q1 := hid q1
  have Q3 := hid q3
  have hlen : A.row.length ≤ 1024 := Nat.le_trans h.len h.hn
  unfold idxM
  clear h q1 q2 q3
  generalize posM A.row = pk at *
  generalize A.row.length = len at *
  go_enter Try.func63, Try.ntmps63
  go_wp2
  go_loopw [8] (fun z wr => ∃ j : Nat, j ≤ pk ∧ z = .int .i64 j ∧ wr = w) (fun z _ => len - (RowKit.intOf z).toNat)
  case atStart => exact ⟨0, Nat.zero_le _, rfl, rfl⟩
  case round =>
    obtain ⟨j, hj, rfl, hww⟩ := hrel
    subst hww
    by_cases hlt : j < len
    · have hki : (j : Int) < len := by omega
      obtain ⟨g, ha, hc, hcall⟩ := HC.out j hlt
      have HCA := hid hcall
      subst ha
      clear hcall
      by_cases e : j = pk
      · subst e
        rw [((Q1.out hlt)).2] at HCA
        generalize ad (A.row.getD j default).num = y at *
        go_wp2_with (go_at_call 37; refine HCA.out.mono ?_; rintro e w1 ⟨rfl, hw1⟩; rw [hw1]; clear hw1)
        go_ret
        exact ⟨by first | rfl | (rw [if_pos hlt]; rfl), rfl⟩
      · rw [Q3.out j hlt (by omega)] at HCA
        generalize ad (A.row.getD j default).num = y at *
        go_wp2_with (go_at_call 37; refine HCA.out.mono ?_; rintro e w1 ⟨rfl, hw1⟩; rw [hw1]; clear hw1)
        go_roundw
        case rel => exact ⟨j + 1, by omega, by go_num, by first | trivial | rfl⟩
        case measure => simp [RowKit.intOf]; omega
    · have hki : ¬ ((j : Int) < len) := by omega
      go_wp2
      go_ret
      exact ⟨by first | (rw [if_neg (by omega)]; rfl) | rfl, rfl⟩
set_option maxRecDepth 100000 in
set_option maxHeartbeats 1000000 in
theorem makeRoom_any (h : CaAt w p S A m ad bm vr M) :
    Calls Try.prog 49 #[pv p] w fun e w' => e = .returned (.bool A.room.isSome) ∧ ∃ vr' M' S', CaAt w' p S' (A.room.getD A) m ad bm vr' M' ∧ Kp S w S' w' := by
  obtain ⟨c0, c1, c2⟩ := h.cells
  obtain ⟨a, c, rfl⟩ := h.slice
  have HH := hid h
  by_cases hl : A.row.length < A.n
  · have hli : (A.row.length : Int) < (A.n : Int) := by omega
    have hro : A.room = some A := by unfold Cs.room; rw [if_pos hl]
    rw [hro]
    clear h hro hl
    generalize A.row.length = len at *
    generalize hnn : A.n = nn at *
    go_enter Try.func49, Try.ntmps49
    go_wp2_with fail
    go_quiet (fail)
    go_wp2_with fail
    go_ret
    exact ⟨rfl, _, _, _, HH.out.below (below_drewN (Below.refl _ _) _), Kp.below (below_drewN (Below.refl _ _) _)⟩
  · have hli : ¬ ((A.row.length : Int) < (A.n : Int)) := by omega
    obtain ⟨q1, q2, q3, q4⟩ := posM_spec A.row
    have hx : ∀ q, CaAt (w.drewN q) p S A m ad bm (.slice a A.row.length c) M := fun q => h.below (below_drewN (Below.refl _ _) q)
    have c2' : ∀ q, (w.drewN q).cell? ⟨p, 2, none⟩ = some (.slice a A.row.length c) := fun q => (hx q).cells.2.2
    have HIF := hid (fun q => IndexFuncE_any (hx q))
    by_cases hp : posM A.row < A.row.length
    · have hro : A.room = some (A.cut (A.row.getD (posM A.row) default).num) := by unfold Cs.room; rw [if_neg hl, (q1 hp).1]; rfl
      rw [hro]
      have HLG := hid (fun q => letGo_any (hx q) (posM A.row) hp)
      have hix : idxM A.row = (posM A.row : Nat) := by unfold idxM; rw [if_pos hp]
      rw [hix] at HIF
      have hp0 : ¬ (((posM A.row : Nat) : Int) < 0) := by omega
      simp only [Option.getD_some, Option.isSome_some]
      clear h hx hro hl q1 q2 q3 q4 hp hix
      generalize A.cut (A.row.getD (posM A.row) default).num = A2 at *
      generalize posM A.row = pk at *
      generalize A.row.length = len at *
      generalize hnn : A.n = nn at *
      go_enter Try.func49, Try.ntmps49
      go_wp2_with fail
      go_quiet (fail)
      go_wp2_with (first
        | (go_at_call 63; refine (HIF.out _).mono ?_; rintro e w1 ⟨rfl, hw1⟩; rw [hw1]; clear hw1)
        | (go_at_call 38; refine (HLG.out _).mono ?_; rintro e w1 ⟨rfl, hS⟩; have HS := hid hS; clear hS))
      go_ret
      obtain ⟨vr', M', S', h1, h2⟩ := HS.out
      exact ⟨rfl, vr', M', S', h1, (Kp.below (below_drewN (Below.refl _ _) _)).trans h2⟩
    · have hro : A.room = none := by unfold Cs.room; rw [if_neg hl, q2 hp]; rfl
      rw [hro]
      have hix : idxM A.row = -1 := by unfold idxM; rw [if_neg hp]
      rw [hix] at HIF
      have HX := hid hx
      simp only [Option.getD_none, Option.isSome_none]
      clear h hx hro hl q1 q2 q3 q4 hp hix
      generalize A.row.length = len at *
      generalize hnn : A.n = nn at *
      go_enter Try.func49, Try.ntmps49
      go_wp2_with fail
      go_quiet (fail)
      go_wp2_with (go_at_call 63; refine (HIF.out _).mono ?_; rintro e w1 ⟨rfl, hw1⟩; rw [hw1]; clear hw1)
      go_ret
      exact ⟨rfl, _, _, _, HX.out _, Kp.below (below_drewN (Below.refl _ _) _)⟩
end
end Go.Proofs.Ytdfnfcimajomeaa
