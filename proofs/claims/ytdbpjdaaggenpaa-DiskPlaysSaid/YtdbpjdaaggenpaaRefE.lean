/- The document's own disk: Crash. -/
import Derived.Test.YtdbpjdaaggenpaaRefD
namespace Go.Proofs.Ytdbpjdaaggenpaa
open Go.RowKit

/-- The document's disk when i of the dirty blocks are through. -/
def crashed (A : Abs) (L picks : List Int) (i : Nat) : Abs := { A with P := crashTo A L picks i, V := fun k => if k ∈ L.take i then [] else A.V k }
theorem crashed_zero (A : Abs) (L picks : List Int) : crashed A L picks 0 = A := by cases A; simp [crashed, crashTo]
theorem wi_zero (n : Int) : wi 0 n = 0 := by simp [wi]
theorem crashTo_past (A : Abs) (L picks : List Int) : ∀ i, picks.length ≤ i → crashTo A L picks i = crashTo A L picks picks.length
  | 0, h => by rw [Nat.le_zero.1 h]
  | i + 1, h => by
    by_cases e : picks.length = i + 1
    · rw [e]
    · have hi : picks.length ≤ i := by omega
      have e2 : picks.getD i 0 = 0 := by simp [List.getD, hi]
      simp only [crashTo, e2, wi_zero]
      rw [if_neg (by omega)]
      exact crashTo_past A L picks i hi
theorem crashTo_min (A : Abs) (L picks : List Int) : crashTo A L picks L.length = crashTo A L picks (min L.length picks.length) := by
  by_cases h : L.length ≤ picks.length
  · rw [Nat.min_eq_left h]
  · rw [Nat.min_eq_right (by omega), crashTo_past A L picks L.length (by omega)]
theorem crashed_end (A : Abs) (L picks : List Int) (hL : DirtyL A L) : crashed A L picks L.length = { A with P := crashTo A L picks (min L.length picks.length), V := fun _ => [] } := by
  simp only [crashed, Abs.mk.injEq, true_and]
  refine ⟨crashTo_min A L picks, ?_⟩
  funext k
  rw [List.take_length]
  split
  · rfl
  · rename_i h
    by_cases e : A.V k = []
    · exact e
    · exact absurd ((hL.2 k).2 e) h

/-- One block of the document's disk is through. -/
theorem crash_one {w wr wE : World} {px : Nat} {vL : Value} {fs : List REnt} {A : Abs} {al : Nat → Prop} {L picks : List Int} {i : Nat} (hi : i < L.length) (d : RDiskAt wr px vL fs (crashed A L picks i) al) (hmo : Mods al w wr)
    {e : REnt} (he : e ∈ fs) (hek : e.at_ = L[i]) (sv' : Value) (hrow : Row wr al sv' (plat (crashed A L picks (i + 1)) L[i]))
    (h1 : wE.os = wr.os) (h2 : wE.tape = wr.tape) (h3 : wE.output = wr.output) (h4 : wE.heap.size = wr.heap.size) (h5 : ∀ b, b ≠ e.ad → wE.heap[b]? = wr.heap[b]?) (h6 : wE.heap[e.ad]? = some (.cells #[.int .i64 L[i], sv', .slice none 0 0] 73 (0, 0))) :
    (∃ fs' : List REnt, fs'.length = fs.length ∧ RDiskAt wE px vL fs' (crashed A L picks (i + 1)) al) ∧ Mods al w wE := by
  obtain ⟨j, hj, rfl⟩ := List.getElem_of_mem he
  obtain ⟨hbx, hadl, _, _, _⟩ := d.ent fs[j] he
  have htk : L.take (i + 1) = L.take i ++ [L[i]] := by rw [List.take_add_one, List.getElem?_eq_getElem hi]; rfl
  have hV' : (crashed A L picks (i + 1)).V L[i] = [] := by
    show (if L[i] ∈ L.take (i + 1) then [] else A.V L[i]) = []
    rw [if_pos (by rw [htk]; exact List.mem_append_right _ (List.mem_singleton.2 rfl))]
  have hgd : L.getD i 0 = L[i] := by simp [List.getD, hi]
  refine ⟨⟨fs.set j ⟨fs[j].at_, fs[j].ad, sv', .slice none 0 0⟩, by simp, ?_⟩, ?_⟩
  · refine d.upd (al' := al) j hj sv' (.slice none 0 0) rfl (fun k hk => ?_) (fun _ h => h) (fun b hb => by rw [h4]; exact d.lt b hb) (fun b _ hne _ => h5 b hne) (by rw [hek]; exact h6) ?_ ?_ (fun g hg => by simp [Value.ownBlock] at hg) (fun h => absurd (by rw [hek]; exact hV') h)
    · rw [hek] at hk
      constructor
      · show crashTo A L picks (i + 1) k = crashTo A L picks i k
        simp only [crashTo, hgd]
        split
        · rw [upd_other _ _ hk]
        · rfl
      · simp only [crashed, htk, List.mem_append, List.mem_singleton, hk, or_false]
    · rw [hek]
      exact hrow.keep (fun g' cur _ hc => h5 g' (fun e => by rw [e, hbx] at hc; cases hc)) (fun _ h => h)
    · rw [hek, hV']
      exact ⟨[], rfl, World.ownsRow_nil _ _ _ _, fun i hi => by simp at hi, fun g hg => by simp [Value.ownBlock] at hg⟩
  · refine ⟨h1.trans hmo.os, h2.trans hmo.tape, h3.trans hmo.output, by rw [h4]; exact hmo.size, fun b' hb' hn' => ?_⟩
    rw [h5 b' (fun e => hn' (by rw [e]; exact hadl))]
    exact hmo.block b' hb' hn'

set_option maxRecDepth 100000 in
set_option maxHeartbeats 1000000 in
theorem RCrash_any (w : World) (px : Nat) (A : Abs) (n : Nat) (al : Nat → Prop) (hd : RDisk w px A n al) (hn : n ≤ 549755813888) (ap : Option Addr) (cp : Nat) (picks : List Int) (hp : Ints w ap picks) (ho : Off al w ap picks) :
    Calls Try.prog 24 #[.pointer (some ⟨px, 0, none⟩), .slice ap picks.length cp] w fun e w' => ∃ L, DirtyL A L ∧ e = .returned (.int .i64 L.length) ∧
      RStep w w' px { A with P := crashTo A L picks (min L.length picks.length), V := fun _ => [] } n al := by
  obtain ⟨vL, es, d, hel, hvl⟩ := hd
  have hDirty := RDirty_any w px vL es A al d (by omega)
  have hN := d.hN
  have hvN := d.vN
  have HD := hid d
  have HP := hid hp
  have HO := hid ho
  have HVL := hid hvl
  clear d hp ho hvl
  go_enter Try.func24, Try.ntmps24
  go_wp2_with fail
  refine hDirty.mono ?_
  rintro e w1 ⟨v, L, rfl, hL, hrow, hnil, hb1⟩
  obtain ⟨aL, cL, rfl, hIL, hoffL⟩ := ints_of_owns hrow (fun x hx => by have := hvN x ((hL.2 x).1 hx); exact isI_of (by omega) (by omega))
  have HL := hid hL
  have HIL := hid hIL
  have HB1 := hid hb1
  have HD1 := hid (HD.out.keep hb1.size (fun b hb => hb1.block b (HD.out.lt b hb)))
  have HP1 := hid (HP.out.below hb1)
  have HOP1 : Hid (Off al w1 ap picks) := hid fun b off e h0 => ⟨Nat.lt_of_lt_of_le (HO.out b off e h0).1 hb1.size, (HO.out b off e h0).2⟩
  have HOL1 : Hid (Off al w1 aL L) := hid fun b off e _ => ⟨(hoffL b off e).2, fun ha => by have := HD.out.lt b ha; have := (hoffL b off e).1; omega⟩
  have hLn := dirty_len hL hN.2 hvN
  clear hL hrow hnil hb1 hIL hoffL HO HP hDirty
  go_wp2_with fail
  go_loopw [6] (fun x wr => ∃ (i : Nat) (fs : List REnt), i ≤ L.length ∧ x = .int .i64 i ∧ fs.length = es.length ∧ RDiskAt wr px vL fs (crashed A L picks i) al ∧ Mods al w1 wr) (fun x _ => L.length - (RowKit.intOf x).toNat)
  case atStart => exact ⟨0, es, Nat.zero_le _, rfl, rfl, by rw [crashed_zero]; exact HD1.out, Mods.refl _ _⟩
  case round =>
    obtain ⟨i, fs, hi1, rfl, hfl, d, hmo⟩ := hrel
    have HM := hid hmo
    have HDi := hid d
    by_cases hlt : i < L.length
    · have hii : (i : Int) < (L.length : Int) := by omega
      obtain ⟨bL, oL, haL, hcL, hIk⟩ := HIL.out.mods HOL1.out HM.out i hlt
      subst haL
      have hgd : L.getD i 0 = L[i] := by simp [List.getD, hlt]
      rw [hgd] at hcL hIk
      have hnot : L[i] ∉ L.take i := fun hm => by
        obtain ⟨q, hq, he⟩ := List.getElem_of_mem hm
        simp only [List.length_take] at hq
        rw [List.getElem_take] at he
        have := List.pairwise_iff_getElem.1 HL.out.1 q i (by omega) hlt (by omega)
        omega
      have hkV : A.V L[i] ≠ [] := (HL.out.2 _).1 (List.getElem_mem hlt)
      have hVc : (crashed A L picks i).V L[i] = A.V L[i] := by show (if L[i] ∈ L.take i then [] else A.V L[i]) = _; rw [if_neg hnot]
      obtain ⟨en, hfind⟩ : ∃ en, findAt fs L[i] = some en := by
        cases hf : findAt fs L[i] with
        | some e => exact ⟨e, rfl⟩
        | none => have := (d.none_ _ (findAt_none hf)).2; rw [hVc] at this; exact absurd this hkV
      obtain ⟨hmem, hek⟩ := findAt_some hfind
      have hat := hid (At_any wr px vL fs _ al d (by omega) L[i])
      rw [hfind] at hat
      simp only [ptrOf] at hat
      obtain ⟨hbx, hadl, hrw, hr2, _⟩ := d.ent en hmem
      rw [hek] at hr2 hrw hbx
      rw [hVc] at hr2
      obtain ⟨g, cv, hvs, hcap, hcap2, hg, hrowc⟩ := hr2.open_ hkV
      have hlenV := HVL.out L[i]
      have hc2 : wr.cell? ⟨en.ad, 2, none⟩ = some (.slice (some ⟨g, 0, none⟩) (A.V L[i]).length cv) := by simp [World.cell?, hbx, hvs]
      have hf1 : wr.frozen? ⟨en.ad, 1, none⟩ = false := by simp [World.frozen?, hbx]
      have hf2 : wr.frozen? ⟨en.ad, 2, none⟩ = false := by simp [World.frozen?, hbx]
      have hc1 : wr.cell? ⟨en.ad, 1, none⟩ = some en.sv := by simp [World.cell?, hbx]
      have hl0 : en.ad < wr.heap.size := (Array.getElem?_eq_some_iff.1 hbx).1
      have hb0 : wr.heap[en.ad] = .cells #[.int .i64 L[i], en.sv, en.vv] 73 (0, 0) := (Array.getElem?_eq_some_iff.1 hbx).2
      -- where the platter stays
      have HStay : Hid (crashTo A L picks (i + 1) L[i] = crashTo A L picks i L[i] → (∃ fs' : List REnt, fs'.length = fs.length ∧ RDiskAt (wr.setCell ⟨en.ad, 2, none⟩ (.slice none 0 0)) px vL fs' (crashed A L picks (i + 1)) al) ∧ Mods al w1 (wr.setCell ⟨en.ad, 2, none⟩ (.slice none 0 0))) := hid fun hcr =>
        crash_one hlt d hmo hmem hek en.sv (by unfold plat; unfold plat at hrw; show Row wr al en.sv ((crashTo A L picks (i + 1) L[i]).getD zeros); rw [hcr]; exact hrw) rfl rfl rfl (by simp [World.setCell]) (fun b hb => Below.heap_setCell _ _ _ _ hb) (by simp [World.setCell, hl0, Array.getElem_modify, hb0])
      -- where a version is picked
      have HPick : Hid (∀ (c : Nat) (hc : c < (A.V L[i]).length), wi (picks.getD i 0) ((A.V L[i]).length + 1) = (c : Int) + 1 → ∃ gu cu, wr.cell? ⟨g, c, none⟩ = some (.slice (some ⟨gu, 0, none⟩) 512 cu) ∧
          Hid ((∃ fs' : List REnt, fs'.length = fs.length ∧ RDiskAt ((wr.setCell ⟨en.ad, 1, none⟩ (.slice (some ⟨gu, 0, none⟩) 512 cu)).setCell ⟨en.ad, 2, none⟩ (.slice none 0 0)) px vL fs' (crashed A L picks (i + 1)) al) ∧ Mods al w1 ((wr.setCell ⟨en.ad, 1, none⟩ (.slice (some ⟨gu, 0, none⟩) 512 cu)).setCell ⟨en.ad, 2, none⟩ (.slice none 0 0)))) := hid fun c hc hce => by
        obtain ⟨u, hu, hrow⟩ := hrowc c hc
        obtain ⟨gu, cu, hue, _, _⟩ := hrow.open_
        rw [hue] at hu
        refine ⟨gu, cu, hu, hid ?_⟩
        have e1 : crashTo A L picks (i + 1) L[i] = some (A.V L[i])[c] := by
          simp only [crashTo, hgd, hce]
          rw [if_pos (by omega), upd_same, show ((c : Int) + 1 - 1).toNat = c by omega]
          simp [List.getD, hc]
        refine crash_one hlt d hmo hmem hek _ (by unfold plat; show Row wr al _ ((crashTo A L picks (i + 1) L[i]).getD zeros); rw [e1, Option.getD_some, ← hue]; exact hrow) rfl rfl rfl (by simp [World.setCell]) (fun b hb => (Below.heap_setCell _ _ _ _ hb).trans (Below.heap_setCell _ _ _ _ hb)) (heap_set3 hbx _ _)
      have hcrz : wi (picks.getD i 0) ((A.V L[i]).length + 1) = 0 → crashTo A L picks (i + 1) L[i] = crashTo A L picks i L[i] := fun h => by
        simp only [crashTo, hgd, h]
        rw [if_neg (by omega)]
      have HCrz := hid hcrz
      obtain ⟨k, hk⟩ : ∃ k, k = L[i] := ⟨_, rfl⟩
      rw [← hk] at hcL hat hc2 HPick HCrz hlenV HStay
      generalize (A.V k).length = len at hc2 HPick HCrz hlenV
      have ew : IntKind.i64.wrap ((len : Int) + 1) = (len : Int) + 1 := IntWalk.i64_in _ (by omega)
      have HFl := hid hfl
      obtain ⟨ad, had⟩ : ∃ ad, ad = en.ad := ⟨_, rfl⟩
      rw [← had] at hat hc2 hf1 hf2 hc1 HStay HPick
      obtain ⟨sv, hsv⟩ : ∃ sv, sv = en.sv := ⟨_, rfl⟩
      rw [← hsv] at hc1
      clear hk had hsv hcrz hb0 hl0 hrowc hvs hr2 hrw hbx hVc hkV hnot hgd d hmo hmem hek hfind hfl hIk
      by_cases hpl : i < picks.length
      · have hpi : (i : Int) < (picks.length : Int) := by omega
        obtain ⟨bq, oq, haq, hcq, hIq⟩ := HP1.out.mods HOP1.out HM.out i hpl
        subst haq
        generalize picks.getD i 0 = q at hcq HPick HCrz
        have hb := wi_bd q ((len : Int) + 1) (by omega)
        have hne : ¬ ((len : Int) + 1 = 0) := by omega
        by_cases h1 : q.tmod ((len : Int) + 1) < 0
        · have ewi : wi q ((len : Int) + 1) = q.tmod ((len : Int) + 1) + ((len : Int) + 1) := by unfold wi; rw [if_pos h1]
          have hpos : 0 < wi q ((len : Int) + 1) := by
            have h9 := Int.neg_tmod (-q) ((len : Int) + 1)
            rw [Int.neg_neg] at h9
            have := Int.tmod_lt_of_pos (-q) (show 0 < (len : Int) + 1 by omega)
            omega
          obtain ⟨c, hce⟩ : ∃ c : Nat, wi q ((len : Int) + 1) = (c : Int) + 1 := ⟨(wi q ((len : Int) + 1) - 1).toNat, by omega⟩
          have ew4 : IntKind.i64.wrap (q.tmod ((len : Int) + 1) + ((len : Int) + 1)) = (c : Int) + 1 := by rw [← ewi, hce]; exact IntWalk.i64_in _ (by omega)
          obtain ⟨gu, cu, hcu, HFin⟩ := HPick.out c (by omega) hce
          have ew2 : IntKind.i64.wrap ((c : Int) + 1 - 1) = (c : Int) := by rw [IntWalk.i64_in _ (by omega)]; omega
          have ew3 : IntKind.i64.wrap (c : Int) = (c : Int) := IntWalk.i64_in _ (by omega)
          have hc0 : (0 : Int) ≤ (c : Int) := by omega
          have hcl : (c : Int) < (len : Int) := by omega
          have hcp1 : (0 : Int) < (c : Int) + 1 := by omega
          clear ewi hpos hb
          clear HPick HCrz HStay hce
          go_wp2_with fail
          refine hat.out.mono ?_
          rintro e w2 ⟨rfl, hw⟩
          rw [hw]
          clear hw w2
          go_wp2
          go_roundw
          case rel =>
            obtain ⟨⟨fs', p1, p2⟩, p3⟩ := HFin.out
            exact ⟨i + 1, fs', by omega, by go_num, by rw [p1]; exact HFl.out, p2, p3⟩
          case measure => simp [RowKit.intOf]; omega
        · have ewi : wi q ((len : Int) + 1) = q.tmod ((len : Int) + 1) := by unfold wi; rw [if_neg h1]
          by_cases h2 : q.tmod ((len : Int) + 1) = 0
          · have hce : wi q ((len : Int) + 1) = 0 := by rw [ewi, h2]
            clear ewi hb h1
            have hfin := HStay.out (HCrz.out hce)
            have HFin := hid hfin
            clear HPick HCrz HStay hce hfin
            go_wp2_with fail
            refine hat.out.mono ?_
            rintro e w2 ⟨rfl, hw⟩
            rw [hw]
            clear hw w2
            go_wp2
            go_roundw
            case rel =>
              obtain ⟨⟨fs', p1, p2⟩, p3⟩ := HFin.out
              exact ⟨i + 1, fs', by omega, by go_num, by rw [p1]; exact HFl.out, p2, p3⟩
            case measure => simp [RowKit.intOf]; omega
          · obtain ⟨c, hce⟩ : ∃ c : Nat, wi q ((len : Int) + 1) = (c : Int) + 1 := ⟨(wi q ((len : Int) + 1) - 1).toNat, by omega⟩
            have htm : q.tmod ((len : Int) + 1) = (c : Int) + 1 := by rw [← ewi, hce]
            have h1c : ¬ ((c : Int) + 1 < 0) := by omega
            obtain ⟨gu, cu, hcu, HFin⟩ := HPick.out c (by omega) hce
            have ew2 : IntKind.i64.wrap ((c : Int) + 1 - 1) = (c : Int) := by rw [IntWalk.i64_in _ (by omega)]; omega
            have ew3 : IntKind.i64.wrap (c : Int) = (c : Int) := IntWalk.i64_in _ (by omega)
            have hc0 : (0 : Int) ≤ (c : Int) := by omega
            have hcl : (c : Int) < (len : Int) := by omega
            have hcp1 : (0 : Int) < (c : Int) + 1 := by omega
            clear ewi hb h1 h2
            clear HPick HCrz HStay hce
            go_wp2_with fail
            refine hat.out.mono ?_
            rintro e w2 ⟨rfl, hw⟩
            rw [hw]
            clear hw w2
            go_wp2
            go_roundw
            case rel =>
              obtain ⟨⟨fs', p1, p2⟩, p3⟩ := HFin.out
              exact ⟨i + 1, fs', by omega, by go_num, by rw [p1]; exact HFl.out, p2, p3⟩
            case measure => simp [RowKit.intOf]; omega
      · have hpi : ¬ ((i : Int) < (picks.length : Int)) := by omega
        · have hce : wi (picks.getD i 0) ((len : Int) + 1) = 0 := by rw [show picks.getD i 0 = 0 by simp [List.getD, Nat.not_lt.1 hpl]]; exact wi_zero _
          have hfin := HStay.out (HCrz.out hce)
          have HFin := hid hfin
          clear HPick HCrz HStay hce hfin
          go_wp2_with fail
          refine hat.out.mono ?_
          rintro e w2 ⟨rfl, hw⟩
          rw [hw]
          clear hw w2
          go_wp2
          go_roundw
          case rel =>
            obtain ⟨⟨fs', p1, p2⟩, p3⟩ := HFin.out
            exact ⟨i + 1, fs', by omega, by go_num, by rw [p1]; exact HFl.out, p2, p3⟩
          case measure => simp [RowKit.intOf]; omega
    · have hii : ¬ ((i : Int) < (L.length : Int)) := by omega
      obtain rfl : i = L.length := by omega
      clear d hmo
      go_wp2
      go_ret
      refine ⟨L, HL.out, rfl, al, ⟨vL, fs, ?_, by omega, fun _ => Nat.zero_le _⟩, fun b hb => .inl hb, (Mods.of_below HB1.out).trans HM.out (fun b h => .inl h)⟩
      have := HDi.out
      rw [crashed_end A L picks HL.out] at this
      exact this
end Go.Proofs.Ytdbpjdaaggenpaa
