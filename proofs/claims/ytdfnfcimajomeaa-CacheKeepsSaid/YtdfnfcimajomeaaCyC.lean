/- The document's cache: room, bad, Pin, Unpin, Clean, Drop. -/
import Derived.Test.YtdfnfcimajomeaaCyB
namespace Go.Proofs.Ytdfnfcimajomeaa
open Go.RowKit Go.Maps
section
variable {w w' : World} {p : Nat} {S : Nat → Prop} {A : Cs} {ad : Int → Nat} {vl : Value}
set_option maxRecDepth 100000 in
theorem bad_any (w : World) (k : Int) (a : Option Addr) (n c : Nat) :
    Calls Try.prog 44 #[.int .i64 k, .slice a n c] w fun e w' => e = .returned (.int .i64 (badR k n)) ∧ w' = w := by
  unfold badR
  by_cases h1 : k < 0
  · go_enter Try.func44, Try.ntmps44
    go_wp2
    go_ret
    exact ⟨by first | rfl | (rw [if_pos h1]; rfl), rfl⟩
  · by_cases h2 : n = 512
    · subst h2
      go_enter Try.func44, Try.ntmps44
      go_wp2
      go_ret
      exact ⟨by first | rfl | (rw [if_neg h1]; rfl), rfl⟩
    · have h2' : ((n : Int) != 512) = true := by rw [bne_iff_ne]; omega
      go_enter Try.func44, Try.ntmps44
      go_wp2
      go_ret
      exact ⟨by first | rfl | (rw [if_neg h1, if_neg h2]; rfl) | simp [h1, h2], rfl⟩
def roomR (A : Cs) : Int := if A.room = none then 7 else 0
theorem YaAt.drewN (h : YaAt w p S A ad vl) (q : Nat) : YaAt (w.drewN q) p S A ad vl := h.below (below_drewN (Below.refl _ _) q)
set_option maxRecDepth 100000 in
set_option maxHeartbeats 2000000 in
theorem room_any (h : YaAt w p S A ad vl) :
    Calls Try.prog 45 #[pv p] w fun e w' => e = .returned (.int .i64 (roomR A)) ∧ ∃ vl' S', YaAt w' p S' (A.room.getD A) ad vl' ∧ Kp S w S' w' ∧ ∀ x, S x → S' x := by
  obtain ⟨c0, c1⟩ := h.cells
  obtain ⟨a, c, rfl⟩ := h.slice
  have HH := hid h
  have hlen : A.row.length ≤ 1024 := Nat.le_trans h.len h.hn
  by_cases hl : A.row.length < A.n
  · have hli : (A.row.length : Int) < (A.n : Int) := by omega
    have hro : A.room = some A := by unfold Cs.room; rw [if_pos hl]
    unfold roomR
    rw [hro]
    clear h hro hl
    generalize A.row.length = len at *
    generalize hnn : A.n = nn at *
    go_enter Try.func45, Try.ntmps45
    go_wp2_with fail
    go_quiet (fail)
    go_wp2_with fail
    go_ret
    exact ⟨by simp, _, _, HH.out.drewN _, Kp.below (below_drewN (Below.refl _ _) _), fun _ e => e⟩
  · have hli : ¬ ((A.row.length : Int) < (A.n : Int)) := by omega
    obtain ⟨q1, q2, q3, q4⟩ := posM_spec A.row
    have HC : Hid (∀ q j, j < A.row.length → ∃ g, a = some ⟨g, 0, none⟩ ∧ (w.drewN q).cell? ⟨g, j, none⟩ = some (pv (ad (A.row.getD j default).num)) ∧ (w.drewN q).cell? ⟨ad (A.row.getD j default).num, 2, none⟩ = some (.bool (A.row.getD j default).dirty) ∧ (w.drewN q).cell? ⟨ad (A.row.getD j default).num, 3, none⟩ = some (.int .i64 (A.row.getD j default).pins)) := hid (fun q j hj => by
      obtain ⟨g, c', e, hc⟩ := h.place hj
      simp only [Value.slice.injEq] at e
      obtain ⟨_, h2, h3, _⟩ := h.entry (getD_memE hj)
      exact ⟨g, e.1, hc, h2, h3⟩)
    have c1' : ∀ q, (w.drewN q).cell? ⟨p, 1, none⟩ = some (.slice a A.row.length c) := fun q => c1
    have Q3 := hid q3
    have HGO : Hid (∀ q, posM A.row < A.row.length → (A.room = some (A.cut (A.row.getD (posM A.row) default).num)) ∧ may (A.row.getD (posM A.row) default) = true ∧ Calls Try.prog 46 #[pv p, pv (ad (A.row.getD (posM A.row) default).num)] (w.drewN q) fun e w' => e = .returned undef ∧ ∃ vl' S', YaAt w' p S' (A.cut (A.row.getD (posM A.row) default).num) ad vl' ∧ Kp S w S' w' ∧ ∀ x, S x → S' x) := hid (fun q hp => by
      have hmem := getD_memE hp
      have hkm : (A.row.getD (posM A.row) default).num ∈ nums A.row := List.mem_map.2 ⟨_, hmem, rfl⟩
      refine ⟨by unfold Cs.room; rw [if_neg hl, (q1 hp).1]; rfl, (q1 hp).2, ?_⟩
      have hq := h.drewN q
      obtain ⟨vd, g1, _⟩ := hq.ent _ hmem
      refine (gone_any hq _ ⟨_, _, g1⟩).mono ?_
      rintro r w' ⟨rfl, v', S', k1, k2, k3, _⟩
      rw [h.wob_eq hkm] at k1
      exact ⟨rfl, v', S', k1, (Kp.below (below_drewN (Below.refl _ _) q)).trans k2, k3⟩)
    have HNO : Hid (¬ posM A.row < A.row.length → A.room = none) := hid (fun hp => by unfold Cs.room; rw [if_neg hl, q2 hp]; rfl)
    clear h q1 q2 q3 hl
    unfold roomR
    generalize hnn : A.n = nn at *
    obtain ⟨len, hln⟩ : ∃ len, len = A.row.length := ⟨_, rfl⟩
    rw [← hln] at hlen c1 c1' HC HGO HNO hli q4 Q3
    clear hln
    obtain ⟨pm, hpm⟩ : ∃ pm, pm = posM A.row := ⟨_, rfl⟩
    rw [← hpm] at HGO HNO q4 Q3
    clear hpm
    by_cases hpl : pm < len
    · have HR := hid ((HGO.out 0 hpl).1)
      rw [HR.out]
      simp only [Option.getD_some]
      generalize A.cut (A.row.getD pm default).num = A2 at *
      clear HNO
      go_enter Try.func45, Try.ntmps45
      go_wp2_with fail
      go_quiet (fail)
      go_wp2_with fail
      go_loopw [3] (fun z wr => ∃ j q : Nat, j ≤ pm ∧ z = .int .i64 j ∧ wr = w.drewN q) (fun z _ => len - (RowKit.intOf z).toNat)
      case atStart => exact ⟨0, _, Nat.zero_le _, rfl, rfl⟩
      case round =>
        obtain ⟨j, q, hj, rfl, hww⟩ := hrel
        rw [hww]
        have hlt : j < len := by omega
        have hki : (j : Int) < len := by omega
        obtain ⟨g, ha, hc, hd, hp⟩ := HC.out q j hlt
        subst ha
        by_cases e : j = pm
        · subst e
          obtain ⟨_, hmay, hgo⟩ := HGO.out q hpl
          have HG := hid hgo
          clear hgo
          generalize ad (A.row.getD j default).num = y at *
          unfold may at hmay
          generalize (A.row.getD j default).dirty = dd at *
          generalize (A.row.getD j default).pins = pp at *
          simp at hmay
          obtain ⟨rfl, rfl⟩ := hmay
          go_wp2_with (go_at_call 46; refine HG.out.mono ?_; rintro r w1 ⟨rfl, hS⟩; have HS := hid hS; clear hS)
          go_ret
          exact ⟨by simp, HS.out⟩
        · have hmay := Q3.out j hlt (by omega)
          unfold may at hmay
          generalize ad (A.row.getD j default).num = y at *
          generalize (A.row.getD j default).dirty = dd at *
          generalize (A.row.getD j default).pins = pp at *
          cases dd with
          | true =>
            clear hmay
            go_wp2_with fail
            go_roundw
            case rel => exact ⟨j + 1, q, by omega, by go_num, rfl⟩
            case measure => simp [RowKit.intOf]; omega
          | false =>
            simp at hmay
            go_wp2_with fail
            go_roundw
            case rel => exact ⟨j + 1, q, by omega, by go_num, rfl⟩
            case measure => simp [RowKit.intOf]; omega
    · have HR := hid (HNO.out hpl)
      rw [HR.out]
      simp only [Option.getD_none]
      clear HGO HNO
      go_enter Try.func45, Try.ntmps45
      go_wp2_with fail
      go_quiet (fail)
      go_wp2_with fail
      go_loopw [3] (fun z wr => ∃ j q : Nat, j ≤ len ∧ z = .int .i64 j ∧ wr = w.drewN q) (fun z _ => len - (RowKit.intOf z).toNat)
      case atStart => exact ⟨0, _, Nat.zero_le _, rfl, rfl⟩
      case round =>
        obtain ⟨j, q, hj, rfl, hww⟩ := hrel
        rw [hww]
        by_cases hlt : j < len
        · have hki : (j : Int) < len := by omega
          obtain ⟨g, ha, hc, hd, hp⟩ := HC.out q j hlt
          subst ha
          have hmay := Q3.out j hlt (by omega)
          unfold may at hmay
          generalize ad (A.row.getD j default).num = y at *
          generalize (A.row.getD j default).dirty = dd at *
          generalize (A.row.getD j default).pins = pp at *
          cases dd with
          | true =>
            clear hmay
            go_wp2_with fail
            go_roundw
            case rel => exact ⟨j + 1, q, by omega, by go_num, rfl⟩
            case measure => simp [RowKit.intOf]; omega
          | false =>
            simp at hmay
            go_wp2_with fail
            go_roundw
            case rel => exact ⟨j + 1, q, by omega, by go_num, rfl⟩
            case measure => simp [RowKit.intOf]; omega
        · have hki : ¬ ((j : Int) < len) := by omega
          go_wp2_with fail
          go_ret
          exact ⟨by simp, _, _, HH.out.drewN _, Kp.below (below_drewN (Below.refl _ _) _), fun _ e => e⟩
/-- An entry is another one. -/
theorem YaAt.toEnt (h : YaAt w p S A ad vl) {k : Int} (hk : k ∈ nums A.row) (f : Ec → Ec) (hf : ∀ e, (f e).num = e.num ∧ (f e).dat = e.dat) (j : Nat) (v : Value) (hs : ∀ vd, (yC (A.at k) vd).setIfInBounds j v = yC (f (A.at k)) vd) :
    Ya (w.setCell ⟨ad k, j, none⟩ v) p S (A.chg k f) ∧ Kp S w S (w.setCell ⟨ad k, j, none⟩ v) := by
  obtain ⟨hmem, hnum⟩ := atL_mem hk
  have hm : Mods (fun b => b = ad k) w (w.setCell ⟨ad k, j, none⟩ v) := (Mods.refl (fun b => b = ad k) w).setCell _ _ _ rfl
  have hpk : ad k ≠ p := by have := h.e_ne_p hmem; rwa [hnum] at this
  have hf1 : ∀ e, (f e).num = e.num := fun e => (hf e).1
  have hptr : ptrs ad (A.chg k f).row = ptrs ad A.row := by
    unfold Cs.chg ptrs
    rw [List.map_map]
    apply List.map_congr_left
    intro e _
    simp only [Function.comp]
    split
    · rw [hf1 e]
    · rfl
  have hlen : (A.chg k f).row.length = A.row.length := by unfold Cs.chg; simp
  obtain ⟨vk, gk1, gk2, _⟩ := h.ent _ hmem
  rw [hnum] at gk1 gk2
  refine ⟨⟨ad, vl, fun b hb2 => Nat.lt_of_lt_of_le (h.lt b hb2) hm.size, (hm.block p (h.lt p h.sp) (fun e => hpk e.symm)).trans h.box, h.sp, ?_, h.sr, fun e he => ?_, by rw [nums_chg A k f hf1]; exact h.nd, h.hn, by rw [hlen]; exact h.len⟩, fun _ e => .inl e, hm.weak (fun b e => .inl (by rw [e]; exact gk2))⟩
  · rw [hptr, hlen]
    exact owns_keep h.row (fun g hg => hm.block g (owns_lt h.row hg).1 (fun e => by
      have := h.e_ne_r hmem hg
      rw [hnum] at this
      exact this e.symm))
  · unfold Cs.chg at he
    obtain ⟨x, hx, rfl⟩ := List.mem_map.1 he
    obtain ⟨vd, g1, g2, g3, g4, g5⟩ := h.ent x hx
    have g3' : (w.setCell ⟨ad k, j, none⟩ v).ownsRow 0 5 1 vd 512 (u8s x.dat) := owns_keep g3 (fun g hg => hm.block g (owns_lt g3 hg).1 (fun e2 => by
      obtain ⟨cu, hkk⟩ := owns_kind g3 hg
      rw [e2, gk1] at hkk
      simp at hkk))
    by_cases e : x.num = k
    · rw [if_pos e]
      have hxe : x = A.at k := by rw [← e]; exact (atL_of h.nd hx).symm
      rw [hf1 x, (hf x).2]
      refine ⟨vd, ?_, g2, g3', g4, g5⟩
      rw [e] at g1 ⊢
      rw [setc g1, hxe, hs vd]
    · rw [if_neg e]
      refine ⟨vd, (hm.block _ (h.lt _ g2) (fun e2 => ?_)).trans g1, g2, g3', g4, g5⟩
      have := h.inj hx hmem (by rw [e2]; exact congrArg ad hnum.symm)
      rw [hnum] at this
      exact e this
set_option maxRecDepth 100000 in
theorem yPin_any (h : Ya w p S A) (k : Int) (hp : ∀ e ∈ A.row, -1000000000 ≤ e.pins ∧ e.pins ≤ 1000000000) :
    Calls Try.prog 29 #[pv p, .int .i64 k] w fun e w' => e = .returned (.int .i64 (pinR A k)) ∧ ∃ S', Ya w' p S' (pinS A k) ∧ Kp S w S' w' := by
  have HC := hid h
  obtain ⟨ad, vl, h⟩ := h
  have HA := hid (yAt_any h k)
  unfold pinR pinS
  by_cases hm : k ∈ nums A.row
  · rw [atV_has hm] at HA
    rw [if_pos hm, if_pos hm]
    obtain ⟨hmem, hnum⟩ := atL_mem hm
    have hpb := hp _ hmem
    obtain ⟨_, _, cp, fz⟩ := h.entry hmem
    rw [hnum] at cp fz
    have fp := fz 3
    obtain ⟨h2, hk2⟩ := h.toEnt hm pinF (fun _ => ⟨rfl, rfl⟩) 3 (.int .i64 ((A.at k).pins + 1)) (fun vd => rfl)
    have hw : IntKind.i64.wrap ((A.at k).pins + 1) = (A.at k).pins + 1 := IntWalk.i64_in _ (by unfold Cs.at; omega)
    change w.cell? ⟨ad k, 3, none⟩ = some (.int .i64 (A.at k).pins) at cp
    have H2 := hid h2
    have HK2 := hid hk2
    clear h hm hmem hnum hpb h2 hk2 hp fz
    generalize (A.at k).pins = q at *
    go_enter Try.func29, Try.ntmps29
    go_wp2_with (go_at_call 42; refine HA.out.mono ?_; rintro r w1 ⟨rfl, hw1⟩; rw [hw1]; clear hw1)
    go_ret
    exact ⟨rfl, S, H2.out, HK2.out⟩
  · rw [atV_no hm] at HA
    rw [if_neg hm, if_neg hm]
    clear h hm hp
    go_enter Try.func29, Try.ntmps29
    go_wp2_with (go_at_call 42; refine HA.out.mono ?_; rintro r w1 ⟨rfl, hw1⟩; rw [hw1]; clear hw1)
    go_ret
    exact ⟨rfl, S, HC.out, Kp.refl _ _⟩
set_option maxRecDepth 100000 in
theorem yUnpin_any (h : Ya w p S A) (k : Int) (hp : ∀ e ∈ A.row, -1000000000 ≤ e.pins ∧ e.pins ≤ 1000000000) :
    Calls Try.prog 30 #[pv p, .int .i64 k] w fun e w' => e = .returned (.int .i64 (unpR A k)) ∧ ∃ S', Ya w' p S' (unpS A k) ∧ Kp S w S' w' := by
  have HC := hid h
  obtain ⟨ad, vl, h⟩ := h
  have HA := hid (yAt_any h k)
  unfold unpS unpR
  by_cases hm : k ∈ nums A.row
  · rw [atV_has hm] at HA
    rw [if_pos hm]
    obtain ⟨hmem, hnum⟩ := atL_mem hm
    have hpb := hp _ hmem
    obtain ⟨_, _, cp, fz⟩ := h.entry hmem
    rw [hnum] at cp fz
    have fp := fz 3
    change w.cell? ⟨ad k, 3, none⟩ = some (.int .i64 (A.at k).pins) at cp
    by_cases h0 : (A.at k).pins = 0
    · rw [if_pos h0, if_neg (by omega)]
      rw [h0] at cp
      clear h hm hmem hnum hpb hp fz h0
      go_enter Try.func30, Try.ntmps30
      go_wp2_with (go_at_call 42; refine HA.out.mono ?_; rintro r w1 ⟨rfl, hw1⟩; rw [hw1]; clear hw1)
      go_ret
      exact ⟨rfl, S, HC.out, Kp.refl _ _⟩
    · rw [if_neg h0, if_pos rfl]
      obtain ⟨h2, hk2⟩ := h.toEnt hm unpF (fun _ => ⟨rfl, rfl⟩) 3 (.int .i64 ((A.at k).pins - 1)) (fun vd => rfl)
      have hw : IntKind.i64.wrap ((A.at k).pins - 1) = (A.at k).pins - 1 := IntWalk.i64_in _ (by unfold Cs.at; omega)
      have H2 := hid h2
      have HK2 := hid hk2
      clear h hm hmem hnum hpb h2 hk2 hp fz
      generalize (A.at k).pins = q at *
      go_enter Try.func30, Try.ntmps30
      go_wp2_with (go_at_call 42; refine HA.out.mono ?_; rintro r w1 ⟨rfl, hw1⟩; rw [hw1]; clear hw1)
      go_ret
      exact ⟨rfl, S, H2.out, HK2.out⟩
  · rw [atV_no hm] at HA
    rw [if_neg hm, if_neg (by omega)]
    clear h hm hp
    go_enter Try.func30, Try.ntmps30
    go_wp2_with (go_at_call 42; refine HA.out.mono ?_; rintro r w1 ⟨rfl, hw1⟩; rw [hw1]; clear hw1)
    go_ret
    exact ⟨rfl, S, HC.out, Kp.refl _ _⟩
set_option maxRecDepth 100000 in
theorem yClean_any (h : Ya w p S A) (k : Int) :
    Calls Try.prog 31 #[pv p, .int .i64 k] w fun e w' => e = .returned (.int .i64 (pinR A k)) ∧ ∃ S', Ya w' p S' (cleS A k) ∧ Kp S w S' w' := by
  have HC := hid h
  obtain ⟨ad, vl, h⟩ := h
  have HA := hid (yAt_any h k)
  unfold pinR cleS
  by_cases hm : k ∈ nums A.row
  · rw [atV_has hm] at HA
    rw [if_pos hm, if_pos hm]
    obtain ⟨hmem, hnum⟩ := atL_mem hm
    obtain ⟨_, cp, _, fz⟩ := h.entry hmem
    rw [hnum] at cp fz
    have fp := fz 2
    obtain ⟨h2, hk2⟩ := h.toEnt hm cleF (fun _ => ⟨rfl, rfl⟩) 2 (.bool false) (fun vd => rfl)
    have H2 := hid h2
    have HK2 := hid hk2
    clear h hm hmem hnum h2 hk2 fz
    generalize (atL A.row k).dirty = q at *
    go_enter Try.func31, Try.ntmps31
    go_wp2_with (go_at_call 42; refine HA.out.mono ?_; rintro r w1 ⟨rfl, hw1⟩; rw [hw1]; clear hw1)
    go_ret
    exact ⟨rfl, S, H2.out, HK2.out⟩
  · rw [atV_no hm] at HA
    rw [if_neg hm, if_neg hm]
    clear h hm
    go_enter Try.func31, Try.ntmps31
    go_wp2_with (go_at_call 42; refine HA.out.mono ?_; rintro r w1 ⟨rfl, hw1⟩; rw [hw1]; clear hw1)
    go_ret
    exact ⟨rfl, S, HC.out, Kp.refl _ _⟩
set_option maxRecDepth 100000 in
theorem yDrop_any (h : Ya w p S A) (k : Int) (hp : ∀ e ∈ A.row, 0 ≤ e.pins) :
    Calls Try.prog 32 #[pv p, .int .i64 k] w fun e w' => e = .returned (.int .i64 (droR A k)) ∧ ∃ S', Ya w' p S' (droS A k) ∧ Kp S w S' w' := by
  have HC := hid h
  obtain ⟨ad, vl, h⟩ := h
  have HA := hid (yAt_any h k)
  unfold droS droR
  by_cases hm : k ∈ nums A.row
  · rw [atV_has hm] at HA
    rw [if_pos hm]
    obtain ⟨hmem, hnum⟩ := atL_mem hm
    have hpb : 0 ≤ (A.at k).pins := hp _ hmem
    obtain ⟨_, cd, cp, _⟩ := h.entry hmem
    rw [hnum] at cd cp
    change w.cell? ⟨ad k, 3, none⟩ = some (.int .i64 (A.at k).pins) at cp
    change w.cell? ⟨ad k, 2, none⟩ = some (.bool (A.at k).dirty) at cd
    have HG : Hid (Calls Try.prog 46 #[pv p, pv (ad k)] w fun e w' => e = .returned undef ∧ ∃ S', Ya w' p S' (A.cut k) ∧ Kp S w S' w') := hid (by
      obtain ⟨vd, g1, _⟩ := h.ent _ hmem
      rw [hnum] at g1
      refine (gone_any h (ad k) ⟨_, _, g1⟩).mono ?_
      rintro r w' ⟨rfl, v', S', k1, k2, _, _⟩
      rw [h.wob_eq hm] at k1
      exact ⟨rfl, S', ⟨_, _, k1⟩, k2⟩)
    have hmy : may (A.at k) = (!(A.at k).dirty && decide ((A.at k).pins = 0)) := rfl
    rw [hmy]
    clear h hm hmem hnum hp hmy
    generalize (A.at k).pins = q at *
    generalize (A.at k).dirty = dd at *
    by_cases h0 : q = 0
    · subst h0
      cases dd with
      | true =>
        rw [if_neg (by simp), if_neg (by omega)]
        clear HG
        go_enter Try.func32, Try.ntmps32
        go_wp2_with (go_at_call 42; refine HA.out.mono ?_; rintro r w1 ⟨rfl, hw1⟩; rw [hw1]; clear hw1)
        go_ret
        exact ⟨rfl, S, HC.out, Kp.refl _ _⟩
      | false =>
        rw [if_pos (by simp), if_pos rfl]
        go_enter Try.func32, Try.ntmps32
        go_wp2_with (first
          | (go_at_call 42; refine HA.out.mono ?_; rintro r w1 ⟨rfl, hw1⟩; rw [hw1]; clear hw1)
          | (go_at_call 46; refine HG.out.mono ?_; rintro r w1 ⟨rfl, hS⟩; have HS := hid hS; clear hS))
        go_ret
        exact ⟨rfl, HS.out⟩
    · have h0' : 0 < q := by omega
      rw [if_neg (by simp [h0]), if_neg (by omega)]
      clear HG h0
      go_enter Try.func32, Try.ntmps32
      go_wp2_with (go_at_call 42; refine HA.out.mono ?_; rintro r w1 ⟨rfl, hw1⟩; rw [hw1]; clear hw1)
      go_ret
      exact ⟨rfl, S, HC.out, Kp.refl _ _⟩
  · rw [atV_no hm] at HA
    rw [if_neg hm, if_neg (by omega)]
    clear h hm hp
    go_enter Try.func32, Try.ntmps32
    go_wp2_with (go_at_call 42; refine HA.out.mono ?_; rintro r w1 ⟨rfl, hw1⟩; rw [hw1]; clear hw1)
    go_ret
    exact ⟨rfl, S, HC.out, Kp.refl _ _⟩
end
end Go.Proofs.Ytdfnfcimajomeaa
