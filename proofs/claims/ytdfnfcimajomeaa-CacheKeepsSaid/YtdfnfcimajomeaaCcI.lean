/- Put, Pin, Unpin, Clean, Drop. -/
import Derived.Test.YtdfnfcimajomeaaCcH
namespace Go.Proofs.Ytdfnfcimajomeaa
open Go.RowKit Go.Maps
section
variable {w w' : World} {p m : Nat} {S : Nat → Prop} {A : Cs} {ad : Int → Nat} {bm : Nat} {vr : Value} {M : Int → Option Value}
theorem setA_ent {e e' : Ec} {j : Nat} {v : Value} (h : (entC e).set j v = entC e') : (entC e).toArray.setIfInBounds j v = (entC e').toArray := by
  rw [← h]
  simp
theorem entC_setDirty (e : Ec) (b : Bool) (h : e.dat.length = 512) : (entC e).set 513 (.bool b) = entC { e with dirty := b } := by
  unfold entC
  rw [List.set_cons_succ, List.set_append_right _ _ (by simp [h])]
  simp [h]
theorem entC_setPins (e : Ec) (n : Int) (h : e.dat.length = 512) : (entC e).set 514 (.int .i64 n) = entC { e with pins := n } := by
  unfold entC
  rw [List.set_cons_succ, List.set_append_right _ _ (by simp [h])]
  simp [h]
/-- A cell of an entry is set. -/
theorem CaAt.toCell (h : CaAt w p S A m ad bm vr M) {k : Int} (hk : k ∈ nums A.row) (f : Ec → Ec) (hf : ∀ e, (f e).num = e.num) (hd : ∀ e, e.dat.length = 512 → (f e).dat.length = 512) (j : Nat) (v : Value) (he : (entC (A.at k)).set j v = entC (f (A.at k))) :
    CaAt (w.setCell ⟨ad k, j, none⟩ v) p S (A.chg k f) m ad bm vr M ∧ Kp S w S (w.setCell ⟨ad k, j, none⟩ v) := by
  refine h.toEnt hk f hf hd ?_ ((Mods.refl (fun b => b = ad k) w).setCell _ _ _ rfl)
  rw [setc (h.at hk).1, setA_ent he]
set_option maxRecDepth 100000 in
set_option maxHeartbeats 1000000 in
theorem Put_any (h : Ca w p S A m) (k : Int) (hk : IsI k) (v : Value) (d : List Int) (hv : Dat w S v d) (hmm : m < 1000000000) :
    Calls Try.prog 19 #[pv p, .int .i64 k, v] w fun e w' => e = .returned (.int .i64 (putR A k d.length)) ∧ ∃ S', Ca w' p S' (putS A k d) (m + 1) ∧ Kp S w S' w' := by
  obtain ⟨a, c, rfl, hv⟩ := hv
  have HC := hid h
  obtain ⟨ad, bm, vr, M, h⟩ := h
  obtain ⟨c0, c1, c2⟩ := h.cells
  have HR := hid (refusal_any w k a d.length c)
  unfold putS putR
  rcases bad_cases k d.length with ⟨hb, hk0, hd⟩ | hb | hb
  · rw [hb, hd] at HR
    rw [if_pos hb, hd]
    obtain ⟨b, o, rfl, hB, hS, hbl⟩ := hv hd
    -- lay, then 'dirty', in whatever cache has k
    have HL : Hid (∀ w1 ad1 vr1 M1 S1 m1 (B : Cs), CaAt w1 p S1 B m1 ad1 bm vr1 M1 → Kp S w S1 w1 → k ∈ nums B.row → Calls Try.prog 36 #[pv (ad1 k), .slice (some ⟨b, o, none⟩) 512 c] w1 fun r w' => r = .returned undef ∧ w'.frozen? ⟨ad1 k, 513, none⟩ = false ∧ (∃ x, w'.cell? ⟨ad1 k, 513, none⟩ = some (.bool x)) ∧ Ca (w'.setCell ⟨ad1 k, 513, none⟩ (.bool true)) p S1 (B.chg k fun e => { e with dat := d, dirty := true }) m1 ∧ Kp S w S1 (w'.setCell ⟨ad1 k, 513, none⟩ (.bool true))) := hid (fun w1 ad1 vr1 M1 S1 m1 B h1 hk1 hmem => by
      have hat := h1.at hmem
      refine (lay_any w1 (ad1 k) (B.at k) hat.2.2.1 hat.1 ⟨b, o, none⟩ c d hd (hB.keep (hk1.block hbl hS))).mono ?_
      rintro r w2 ⟨rfl, hh, hm2⟩
      refine ⟨rfl, froz_of hh 513, ⟨_, cell_of hh (entC_dirty _ hd)⟩, ?_⟩
      obtain ⟨h2, hk2⟩ := h1.toEnt (k := k) hmem (fun e => { e with dat := d, dirty := true }) (fun _ => rfl) (fun _ _ => hd) (w' := w2.setCell ⟨ad1 k, 513, none⟩ (.bool true)) (by rw [setc hh, setA_ent (entC_setDirty _ true hd)]) (hm2.setCell _ _ _ rfl)
      exact ⟨⟨_, _, _, _, h2⟩, hk1.trans hk2⟩)
    by_cases hm : k ∈ nums A.row
    · rw [if_pos hm, if_pos rfl, if_pos hm]
      have HP := hid (place_has h k hk hm)
      have hcu := chg_use hm (fun e => { e with dat := d, dirty := true })
      have HMU := hid ((use_mem hm k).2 hm)
      rw [← hcu]
      clear h hm hb hv hB hS hbl hcu hd
      go_enter Try.func19, Try.ntmps19
      go_wp2_with (first
        | (go_at_call 34; refine HR.out.mono ?_; rintro e w1 ⟨rfl, hw1⟩; rw [hw1]; clear hw1)
        | (go_at_call 35; refine HP.out.mono ?_; rintro e w1 ⟨rfl, vr1, S1, h1, hk1⟩; have HLL := hid (HL.out w1 _ _ _ _ _ _ h1 hk1 HMU.out); clear h1 hk1)
        | (go_at_call 36; refine HLL.out.mono ?_; rintro e w2 ⟨rfl, f2, ⟨x2, cx2⟩, h2, hk2⟩; have H2 := hid h2; have HK2 := hid hk2; clear h2 hk2))
      go_ret
      exact ⟨rfl, S1, H2.out.more (by omega), HK2.out⟩
    · rw [if_neg hm]
      cases hro : A.room with
      | none =>
        rw [if_pos rfl, if_neg (by omega)]
        have HP := hid (place_full h k hk hm hro)
        clear h hm hb hv hB hS hbl hd HL hro
        go_enter Try.func19, Try.ntmps19
        go_wp2_with (first
          | (go_at_call 34; refine HR.out.mono ?_; rintro e w1 ⟨rfl, hw1⟩; rw [hw1]; clear hw1)
          | (go_at_call 35; refine HP.out.mono ?_; rintro e w1 ⟨rfl, vr1, M1, S1, h1, hk1⟩; have H1 := hid h1; have HK1 := hid hk1; clear h1 hk1))
        go_ret
        exact ⟨rfl, S1, Ca.more ⟨_, _, _, _, H1.out⟩ (by omega), HK1.out⟩
      | some A1 =>
        rw [if_neg (by simp), if_pos rfl, if_neg hm]
        simp only [Option.getD_some]
        have HP := hid (place_new h k hk hm A1 hro hmm)
        have hnm := room_not hro hm
        have HCA : Hid (∀ z, (A1.add ⟨k, z, false, 0⟩).chg k (fun e => { e with dat := d, dirty := true }) = A1.add ⟨k, d, true, 0⟩) := hid (fun z => chg_add rfl hnm _)
        have HMA : Hid (∀ z, k ∈ nums (A1.add ⟨k, z, false, 0⟩).row) := hid (fun z => add_mem A1 ⟨k, z, false, 0⟩)
        clear h hm hb hv hB hS hbl hd hro hnm
        go_enter Try.func19, Try.ntmps19
        go_wp2_with (first
          | (go_at_call 34; refine HR.out.mono ?_; rintro e w1 ⟨rfl, hw1⟩; rw [hw1]; clear hw1)
          | (go_at_call 35; refine HP.out.mono ?_; rintro e w1 ⟨nb, ad1, vr1, M1, S1, z, rfl, hnb, h1, hk1⟩; subst hnb; have HLL := hid (HL.out w1 _ _ _ _ _ _ h1 hk1 (HMA.out z)); rw [HCA.out z] at HLL; clear h1 hk1)
          | (go_at_call 36; refine HLL.out.mono ?_; rintro e w2 ⟨rfl, f2, ⟨x2, cx2⟩, h2, hk2⟩; have H2 := hid h2; have HK2 := hid hk2; clear h2 hk2))
        go_ret
        exact ⟨rfl, S1, H2.out, HK2.out⟩
  · rw [hb] at HR
    rw [hb, if_neg (by omega), if_neg (by omega)]
    clear h hb hv
    generalize d.length = ln at *
    go_enter Try.func19, Try.ntmps19
    go_wp2_with (go_at_call 34; refine HR.out.mono ?_; rintro e w1 ⟨rfl, hw1⟩; rw [hw1]; clear hw1)
    go_ret
    exact ⟨rfl, S, HC.out.more (by omega), Kp.refl _ _⟩
  · rw [hb] at HR
    rw [hb, if_neg (by omega), if_neg (by omega)]
    clear h hb hv
    generalize d.length = ln at *
    go_enter Try.func19, Try.ntmps19
    go_wp2_with (go_at_call 34; refine HR.out.mono ?_; rintro e w1 ⟨rfl, hw1⟩; rw [hw1]; clear hw1)
    go_ret
    exact ⟨rfl, S, HC.out.more (by omega), Kp.refl _ _⟩
def pinF (e : Ec) : Ec := { e with pins := e.pins + 1 }
def unpF (e : Ec) : Ec := { e with pins := e.pins - 1 }
def cleF (e : Ec) : Ec := { e with dirty := false }
def pinR (A : Cs) (k : Int) : Int := if k ∈ nums A.row then 0 else 17
def pinS (A : Cs) (k : Int) : Cs := if k ∈ nums A.row then A.chg k pinF else A
def unpR (A : Cs) (k : Int) : Int := if k ∈ nums A.row then (if (A.at k).pins = 0 then 1 else 0) else 17
def unpS (A : Cs) (k : Int) : Cs := if unpR A k = 0 then A.chg k unpF else A
def cleS (A : Cs) (k : Int) : Cs := if k ∈ nums A.row then A.chg k cleF else A
def droR (A : Cs) (k : Int) : Int := if k ∈ nums A.row then (if may (A.at k) = true then 0 else 8) else 17
def droS (A : Cs) (k : Int) : Cs := if droR A k = 0 then A.cut k else A
set_option maxRecDepth 100000 in
theorem Pin_any (h : Ca w p S A m) (k : Int) (hk : IsI k) (hp : ∀ e ∈ A.row, -1000000000 ≤ e.pins ∧ e.pins ≤ 1000000000) :
    Calls Try.prog 18 #[pv p, .int .i64 k] w fun e w' => e = .returned (.int .i64 (pinR A k)) ∧ ∃ S', Ca w' p S' (pinS A k) m ∧ Kp S w S' w' := by
  have HC := hid h
  obtain ⟨ad, bm, vr, M, h⟩ := h
  obtain ⟨c0, c1, c2⟩ := h.cells
  unfold pinR pinS
  by_cases hm : k ∈ nums A.row
  · have hlook := (h.look hk).1 hm
    rw [if_pos hm, if_pos hm]
    have hat := h.at hm
    have hpb := hp _ (atL_mem hm).1
    have cp : w.cell? ⟨ad k, 514, none⟩ = some (.int .i64 (A.at k).pins) := cell_of hat.1 (entC_pins _ hat.2.2.1)
    have fp := froz_of hat.1 514
    obtain ⟨h2, hk2⟩ := h.toCell hm pinF (fun _ => rfl) (fun _ e => e) 514 _ (entC_setPins (A.at k) ((A.at k).pins + 1) hat.2.2.1)
    have hw : IntKind.i64.wrap ((A.at k).pins + 1) = (A.at k).pins + 1 := IntWalk.i64_in _ (by unfold Cs.at; omega)
    have H2 : Hid (Ca _ p S (A.chg k pinF) m) := hid ⟨_, _, _, _, h2⟩
    have HK2 := hid hk2
    clear h hm hat hpb h2 hk2 hp
    generalize (A.at k).pins = q at *
    go_enter Try.func18, Try.ntmps18
    go_wp2
    go_ret
    exact ⟨rfl, S, H2.out, HK2.out⟩
  · have hlook := (h.look hk).2 hm
    rw [if_neg hm, if_neg hm]
    clear h hm hp
    go_enter Try.func18, Try.ntmps18
    go_wp2
    go_ret
    exact ⟨rfl, S, HC.out, Kp.refl _ _⟩
set_option maxRecDepth 100000 in
theorem Unpin_any (h : Ca w p S A m) (k : Int) (hk : IsI k) (hp : ∀ e ∈ A.row, -1000000000 ≤ e.pins ∧ e.pins ≤ 1000000000) :
    Calls Try.prog 21 #[pv p, .int .i64 k] w fun e w' => e = .returned (.int .i64 (unpR A k)) ∧ ∃ S', Ca w' p S' (unpS A k) m ∧ Kp S w S' w' := by
  have HC := hid h
  obtain ⟨ad, bm, vr, M, h⟩ := h
  obtain ⟨c0, c1, c2⟩ := h.cells
  unfold unpS unpR
  by_cases hm : k ∈ nums A.row
  · have hlook := (h.look hk).1 hm
    rw [if_pos hm]
    have hat := h.at hm
    have hpb := hp _ (atL_mem hm).1
    have cp : w.cell? ⟨ad k, 514, none⟩ = some (.int .i64 (A.at k).pins) := cell_of hat.1 (entC_pins _ hat.2.2.1)
    have fp := froz_of hat.1 514
    by_cases h0 : (A.at k).pins = 0
    · rw [if_pos h0, if_neg (by omega)]
      rw [h0] at cp
      clear h hm hat hpb hp h0
      go_enter Try.func21, Try.ntmps21
      go_wp2
      go_ret
      exact ⟨rfl, S, HC.out, Kp.refl _ _⟩
    · rw [if_neg h0, if_pos rfl]
      obtain ⟨h2, hk2⟩ := h.toCell hm unpF (fun _ => rfl) (fun _ e => e) 514 _ (entC_setPins (A.at k) ((A.at k).pins - 1) hat.2.2.1)
      have hw : IntKind.i64.wrap ((A.at k).pins - 1) = (A.at k).pins - 1 := IntWalk.i64_in _ (by unfold Cs.at; omega)
      have H2 : Hid (Ca _ p S (A.chg k unpF) m) := hid ⟨_, _, _, _, h2⟩
      have HK2 := hid hk2
      clear h hm hat hpb h2 hk2 hp
      generalize (A.at k).pins = q at *
      go_enter Try.func21, Try.ntmps21
      go_wp2
      go_ret
      exact ⟨rfl, S, H2.out, HK2.out⟩
  · have hlook := (h.look hk).2 hm
    rw [if_neg hm, if_neg (by omega)]
    clear h hm hp
    go_enter Try.func21, Try.ntmps21
    go_wp2
    go_ret
    exact ⟨rfl, S, HC.out, Kp.refl _ _⟩
set_option maxRecDepth 100000 in
theorem Clean_any (h : Ca w p S A m) (k : Int) (hk : IsI k) :
    Calls Try.prog 22 #[pv p, .int .i64 k] w fun e w' => e = .returned (.int .i64 (pinR A k)) ∧ ∃ S', Ca w' p S' (cleS A k) m ∧ Kp S w S' w' := by
  have HC := hid h
  obtain ⟨ad, bm, vr, M, h⟩ := h
  obtain ⟨c0, c1, c2⟩ := h.cells
  unfold pinR cleS
  by_cases hm : k ∈ nums A.row
  · have hlook := (h.look hk).1 hm
    rw [if_pos hm, if_pos hm]
    have hat := h.at hm
    have cp : w.cell? ⟨ad k, 513, none⟩ = some (.bool (A.at k).dirty) := cell_of hat.1 (entC_dirty _ hat.2.2.1)
    have fp := froz_of hat.1 513
    obtain ⟨h2, hk2⟩ := h.toCell hm cleF (fun _ => rfl) (fun _ e => e) 513 _ (entC_setDirty (A.at k) false hat.2.2.1)
    have H2 : Hid (Ca _ p S (A.chg k cleF) m) := hid ⟨_, _, _, _, h2⟩
    have HK2 := hid hk2
    clear h hm hat h2 hk2
    generalize (A.at k).dirty = q at *
    go_enter Try.func22, Try.ntmps22
    go_wp2
    go_ret
    exact ⟨rfl, S, H2.out, HK2.out⟩
  · have hlook := (h.look hk).2 hm
    rw [if_neg hm, if_neg hm]
    clear h hm
    go_enter Try.func22, Try.ntmps22
    go_wp2
    go_ret
    exact ⟨rfl, S, HC.out, Kp.refl _ _⟩
set_option maxRecDepth 100000 in
theorem Drop_any (h : Ca w p S A m) (k : Int) (hk : IsI k) :
    Calls Try.prog 20 #[pv p, .int .i64 k] w fun e w' => e = .returned (.int .i64 (droR A k)) ∧ ∃ S', Ca w' p S' (droS A k) m ∧ Kp S w S' w' := by
  have HC := hid h
  obtain ⟨ad, bm, vr, M, h⟩ := h
  obtain ⟨c0, c1, c2⟩ := h.cells
  unfold droS droR
  by_cases hm : k ∈ nums A.row
  · have hlook := (h.look hk).1 hm
    rw [if_pos hm]
    have hat := h.at hm
    have HM := hid (may_any w (ad k) _ _ (cell_of hat.1 (entC_dirty _ hat.2.2.1)) (cell_of hat.1 (entC_pins _ hat.2.2.1)))
    change Hid (Calls Try.prog 37 #[pv (ad k)] w fun e w' => e = .returned (.bool (may (A.at k))) ∧ w' = w) at HM
    cases hy : may (A.at k) with
    | false =>
      rw [hy] at HM
      rw [if_neg (by simp), if_neg (by omega)]
      clear h hm hat hy
      go_enter Try.func20, Try.ntmps20
      go_wp2_with (go_at_call 37; refine HM.out.mono ?_; rintro e w1 ⟨rfl, hw1⟩; rw [hw1]; clear hw1)
      go_ret
      exact ⟨rfl, S, HC.out, Kp.refl _ _⟩
    | true =>
      rw [hy] at HM
      rw [if_pos rfl, if_pos rfl]
      have HI := hid (IndexE_any h k hm)
      have hp := pos_spec hm
      have HG := hid (letGo_any h (pos A.row k) hp.1)
      rw [hp.2.1] at HG
      clear h hm hat hy hp
      generalize pos A.row k = pk at *
      go_enter Try.func20, Try.ntmps20
      go_wp2_with (first
        | (go_at_call 37; refine HM.out.mono ?_; rintro e w1 ⟨rfl, hw1⟩; rw [hw1]; clear hw1)
        | (go_at_call 39; refine HI.out.mono ?_; rintro e w1 ⟨rfl, hw1⟩; rw [hw1]; clear hw1)
        | (go_at_call 38; refine HG.out.mono ?_; rintro e w1 ⟨rfl, vr1, M1, S1, h1, hk1⟩; have H1 := hid h1; have HK1 := hid hk1; clear h1 hk1))
      go_ret
      exact ⟨rfl, S1, ⟨_, _, _, _, H1.out⟩, HK1.out⟩
  · have hlook := (h.look hk).2 hm
    rw [if_neg hm, if_neg (by omega)]
    clear h hm
    go_enter Try.func20, Try.ntmps20
    go_wp2
    go_ret
    exact ⟨rfl, S, HC.out, Kp.refl _ _⟩
end
end Go.Proofs.Ytdfnfcimajomeaa
