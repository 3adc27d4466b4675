/- VolViews' walk. -/
import Derived.Test.YtoplbmbeadpilaaVkM
import Derived.Test.YtoplbmbeadpilaaVgA
import Derived.Deep.CutBlock
import Derived.Deep.DeepCutAuto
namespace Go.Proofs.Ytoplbmbeadpilaa
open Go.RowKit Go.Maps
set_option linter.unusedVariables false

/-- An element of what was put. -/
theorem putEl {w2 : World} {a : Option Addr} {M : List Pw} {L : List Int} {P : Int → Option (List Int)} {f : Nat → Bool} {S : Nat → Prop} (hPs : Ps w2 S a M) (hML : M.map Pw.pt = L.map (putPt P)) (hL : L = (belN f 200).map fun x : Nat => (x : Int)) (hf : f = fun n : Nat => (P (n : Int)).isSome) :
    ∀ n : Nat, n < 200 → ∀ D, P (n : Int) = some D → D.length = 512 → ∀ kk, kk = (belN f n).length → kk < M.length ∧ ∃ lb lo d c, a = some ⟨lb, lo, none⟩ ∧ w2.cell? ⟨lb, lo + kk * 2, none⟩ = some (n64 n) ∧ w2.cell? ⟨lb, lo + kk * 2 + 1, none⟩ = some (.slice d 512 c) ∧ By w2 S d D := by
  intro n hn D hD hlen kk hkk
  have h1 : (belN f 200)[kk]? = some n := by rw [hkk]; exact bel_at f hn (by rw [hf]; simp [hD])
  have h2 : (M.map Pw.pt)[kk]? = some ⟨n, D⟩ := by
    rw [hML, hL, List.getElem?_map, List.getElem?_map, h1]
    simp [putPt, hD]
  rw [List.getElem?_map] at h2
  cases hm : M[kk]? with
  | none => rw [hm] at h2; cases h2
  | some p =>
    rw [hm] at h2
    simp only [Option.map_some, Option.some.injEq, Pw.pt, Pt.mk.injEq] at h2
    obtain ⟨hk, hg⟩ := List.getElem?_eq_some_iff.1 hm
    have hp : M.getD kk default = p := by simp [List.getD, hm]
    obtain ⟨b, off, ha, _, c1, c2⟩ := hPs.at_ hk
    obtain ⟨d1, _⟩ := hPs.dat hk
    rw [hp] at c1 c2 d1
    rw [h2.1] at c1
    rw [h2.2] at c2 d1
    rw [hlen] at c2
    exact ⟨hk, b, off, p.a, p.c, ha, c1, c2, d1⟩
theorem Bs.isB {w : World} {q N : Nat} {T : Nat → Prop} {bc : Nat → List Int} {lk : Nat → Bool} (h : Bs w q T N bc lk) {k : Nat} (hk : k < N) : ∀ x ∈ bc k, IsB x := by
  obtain ⟨gB, gL, cB, cL, h1, h2, h3, t1, t2, t3, h4, h5⟩ := h
  rcases h5 k hk with ⟨_, h6⟩ | ⟨a, c, _, _, _, h9⟩
  · rw [h6]; exact zeros_isB
  · exact h9.isB
theorem info3v : (Try.prog.info? 3).map (fun i => (i.zero, i.size, i.bytes)) = some (some (.int .i64 0), 1, 8) := by kernel_rfl
set_option maxRecDepth 100000 in
set_option maxHeartbeats 8000000 in
theorem VolViews_walk (w : World) (a2 : Option Addr) (c2 : Nat) (l : List Bk) (hC : Bks w a2 l) (hCl : l.length ≤ maxLen) (at_ sz : Int) :
    Calls Try.prog 3 #[.slice a2 l.length c2, n64 at_, n64 sz] w fun e w' => e = .returned (.bool true) ∧ Below w.heap.size w w' := by
  have HK := hid (known_any w)
  have HC := hid hC
  obtain ⟨nC, hnC⟩ : ∃ nC, nC = l.length := ⟨_, rfl⟩
  rw [← hnC]
  have HNC := hid hnC
  have hML : nC ≤ maxLen := by rw [hnC]; exact hCl
  have HML := hid hML
  have HPO : Hid (PlanOk ((200 : Nat) : Int) 16) := hid ⟨by omega, by omega, by omega, by omega, by omega, by unfold planD planT; omega⟩
  have HM := hid (fun W => Made_ok W ((200 : Nat) : Int) 16 0 0 HPO.out (by decide) (by decide) (by decide) (by decide))
  have mkP : ∀ W : World, (Instr.makeSlice 31 (.int .i64 200) (.int .i64 200)).run Try.prog W = .ok (.slice (some ⟨W.heap.size, 0, none⟩) 200 200) (W.alloc (.cells (madeCells #[.int .i64 0] 200) 3)) := run_make_row' (P := Try.prog) 31 3 (.int .i64 0) 8 Try.underlying31 info3v rfl .i64 .i64 200 (by omega) (by omega)
  have mkB : ∀ W : World, (Instr.makeSlice 35 (.int .i64 512) (.int .i64 512)).run Try.prog W = .ok (.slice (some ⟨W.heap.size, 0, none⟩) 512 512) (W.alloc (.cells (madeCells #[.int .u8 0] 512) 5)) := run_make_row' (P := Try.prog) 35 5 (.int .u8 0) 1 Try.underlying35 info5 rfl .i64 .i64 512 (by omega) (by omega)
  have HWI := hid (fun x => within_any x 200 (by decide) (by decide))
  clear hC hCl hnC hML
  go_enter Try.func3, Try.ntmps3
  go_wp2_with fail
  refine HK.out.mono ?_
  rintro e w1 ⟨rfl, hb1⟩
  have HB1 := hid hb1
  clear hb1 HK
  go_wp2_with fail
  refine (HM.out w1).mono ?_
  rintro e w4 ⟨q, rfl, hBs, hb4⟩
  rw [Int.toNat_natCast] at hBs
  have HO := hid (Over_any w4 q 200 _ _ _ hBs 16 HPO.out (cont_0 HPO.out))
  have HBs := hid hBs
  have HB4 := hid hb4
  clear hBs hb4 HM
  go_wp2_with fail
  refine HO.out.mono ?_
  rintro e w5 ⟨pv, rfl, hv, hb5⟩
  obtain ⟨S0, hS0⟩ : ∃ S0 : Nat → Prop, S0 = fun g => w4.heap.size ≤ g ∧ g < w5.heap.size := ⟨_, rfl⟩
  obtain ⟨T0, hT0⟩ : ∃ T0 : Nat → Prop, T0 = fun g => w1.heap.size ≤ g ∧ g < w4.heap.size := ⟨_, rfl⟩
  obtain ⟨bc, hbc⟩ : ∃ bc, bc = cont (mkfsL ((200 : Nat) : Int) 16 0 0) := ⟨_, rfl⟩
  obtain ⟨W8, hW8⟩ : ∃ W, W = w5.alloc (.cells (madeCells #[.int .i64 0] 200) 3) := ⟨_, rfl⟩
  obtain ⟨gP, hgP⟩ : ∃ gP, gP = w5.heap.size := ⟨_, rfl⟩
  have hVs : Vs w W8 pv q gP 0 S0 T0 (fun _ => none) bc (fun _ => 0) := by
    have hb8 : Below w5.heap.size w5 W8 := by rw [hW8]; exact (Below.refl _ _).alloc (Nat.le_refl _) _
    have hr : IntR W8 gP 200 (fun _ => 0) := by rw [hW8, hgP]; exact IntR.made w5 200
    have h1 := HB1.out.size
    have h4 := HB4.out.size
    have h5 := hb5.size
    have h8 := hb8.size
    have hB5 := HBs.out.later hb5
    rw [← hT0, ← hbc] at hB5
    rw [← hS0] at hv
    refine ⟨hv.later hb8, fun g hg => ?_, hB5.later hb8, fun g hg => ?_, fun g hg hs => ?_, hr, fun hg => ?_, fun hg => ?_, fun g hg => ?_, by omega, ?_⟩
    · rw [hS0] at hg; have := hg.2; omega
    · rw [hT0] at hg; have := hg.2; omega
    · rw [hS0] at hs; rw [hT0] at hg; have := hs.1; have := hg.2; omega
    · rw [hS0] at hg; have := hg.2; omega
    · rw [hT0] at hg; have := hg.2; omega
    · rw [hS0] at hg; have := hg.1; omega
    · exact ((HB1.out.trans (HB4.out.mono h1)).trans (hb5.mono (by omega))).trans (hb8.mono (by omega))
  have HVs := hid hVs
  have hgP' := hgP.symm
  clear hv hb5 hVs hS0 hT0 hgP HO HBs HB1 HB4
  go_upto_block 0 with (first | (rw [← hW8]; clear hW8))
  clear mkP hgP'
  go_cut [10, 11, 12] (fun z10 z11 z12 wx => ∃ (k : Nat) (S : Nat → Prop) (P : Int → Option (List Int)) (G : Nat → Int), k ≤ nC ∧ k ≤ 80 ∧ Vs w wx pv q gP k S T0 P bc G ∧ Pd l k P G)
  case first =>
    go_wp2_with fail
    go_loopw [10] (fun z wr => ∃ (k : Nat) (S : Nat → Prop) (P : Int → Option (List Int)) (G : Nat → Int), k ≤ nC ∧ k ≤ 80 ∧ z = n64 k ∧ Vs w wr pv q gP k S T0 P bc G ∧ Pd l k P G) (fun z _ => 80 - (RowKit.intOf z).toNat)
    case atStart => exact ⟨0, S0, _, _, by omega, by omega, rfl, HVs.out, Pd.nil l⟩
    case round =>
      obtain ⟨k, S, P, G, hk, hk8, rfl, ht, hp⟩ := hrel
      rename World => V
      have HT := hid ht
      have HP := hid hp
      clear ht hp HVs
      by_cases hlt : k < nC
      · have hlt' : (k : Int) < nC := by omega
        by_cases h8 : k < 80
        · have h8' : (k : Int) < 80 := by omega
          obtain ⟨⟨hB0, hB1, hBb⟩, gb, go, rfl, cN0, cN1, cN2⟩ := HC.out.later HT.out.bel k (by rw [← HNC.out]; exact hlt)
          obtain ⟨xB, hxB⟩ : ∃ x, x = (l.getD k default).b := ⟨_, rfl⟩
          obtain ⟨xN, hxN⟩ : ∃ x, x = (l.getD k default).size := ⟨_, rfl⟩
          rw [← hxB] at cN2 hBb
          rw [← hxN] at cN1
          have hwb := wi_bd xN 200 (by decide)
          have HW2 := HWI.out xN
          obtain ⟨m, hm⟩ : ∃ m : Nat, wi xN 200 = (m : Int) := ⟨(wi xN 200).toNat, by omega⟩
          rw [hm] at HW2 hwb
          replace HW2 := hid (HW2 V)
          have hm2 : m < 200 := by omega
          have hm2' : (m : Int) < 200 := by omega
          obtain ⟨W10, hW10⟩ : ∃ W, W = V.alloc (.cells (madeCells #[.int .u8 0] 512) 5) := ⟨_, rfl⟩
          obtain ⟨gB, hgB⟩ : ∃ g, g = V.heap.size := ⟨_, rfl⟩
          have hb10 : Below V.heap.size V W10 := by rw [hW10]; exact (Below.refl _ _).alloc (Nat.le_refl _) _
          have hh10 : W10.heap[gB]? = some (.cells (madeCells #[.int .u8 0] 512) 5 (0, 0)) := by rw [hW10, hgB]; exact alloc_new V _
          have hmk : ∀ j, j < 512 → (madeCells #[Value.int .u8 0] 512)[j]? = some (.int .u8 0) := fun j hj => by rw [← Array.getElem?_toList, toList_madeCells_one, List.getElem?_replicate, if_pos hj]
          have d9 : W10.cell? ⟨gB, 9, none⟩ = some (.int .u8 0) := cell_of hh10 (hmk 9 (by decide))
          have d10 : W10.cell? ⟨gB, 10, none⟩ = some (.int .u8 0) := cell_of hh10 (hmk 10 (by decide))
          have f9 : W10.frozen? ⟨gB, 9, none⟩ = false := froz_of hh10 9
          have f10 : W10.frozen? ⟨gB, 10, none⟩ = false := froz_of hh10 10
          have cB := cell_later hb10 cN2
          have hwk : IntKind.u8.wrap (k : Int) = (k : Int) := by rw [IntKind.wrap_u8]; omega
          have hIk : IsB (k : Int) := ⟨by omega, by omega⟩
          have hby := pdat_by V hBb hIk
          rw [← hW10, ← hgB] at hby
          have hnS : ¬ S gB := fun h => by have := HT.out.sb _ h; omega
          have hnT : ¬ T0 gB := fun h => by have := HT.out.tb _ h; omega
          have hnP : gB ≠ gP := by have := HT.out.r.lt; omega
          have hg0 : w.heap.size ≤ gB := by rw [hgB]; exact HT.out.bel.size
          have HT12 := hid (((HT.out.later hb10).other hnS hnT hnP hg0 9 (.int .u8 xB)).other hnS hnT hnP hg0 10 (.int .u8 (k : Int)))
          have HPU := hid (Put_ok HT12.out.v HT12.out.sb (by omega) m hm2' (by decide) _ (pdat xB k) (pdat_len _ _) _ 512 hby)
          have HQ := hid (And.intro (And.intro hnS hnT) (And.intro hnP (And.intro hg0 (And.intro hh10 hxB))))
          have hw9 : IntKind.i64.wrap ((k : Int) + 1) = ((k + 1 : Nat) : Int) := by rw [IntWalk.i64_in _ (by omega)]; omega
          have hgB' := hgB.symm
          clear hB0 hB1 hBb hxB hxN hwb hm hb10 hh10 hmk hIk hby hnS hnT hnP hg0 hgB HT
          go_wp2_with fail
          refine HW2.out.mono ?_
          rintro e w9 ⟨rfl, rfl⟩
          clear HW2
          go_wp2_with (first | (rw [← hW10]; clear hW10))
          refine HPU.out.mono ?_
          rintro e w13 ⟨rfl, S', hv13, hk13, hs13⟩
          have hT13 := HT12.out.call hk13 hv13 hs13
          obtain ⟨⟨hnS, hnT⟩, hnP, hg0, hh10, hxB⟩ := HQ.out
          have hh12 := setc (setc hh10 9 (.int .u8 xB)) 10 (.int .u8 (k : Int))
          have hl12 := (Array.getElem?_eq_some_iff.1 hh12).1
          have hh13 := (hk13.block hl12 hnS).trans hh12
          have hnS' := hk13.off hl12 hnS
          obtain ⟨c13, hc13⟩ : ∃ c, c = (((madeCells #[Value.int .u8 0] 512).setIfInBounds 9 (.int .u8 xB)).setIfInBounds 10 (.int .u8 (k : Int))) := ⟨_, rfl⟩
          rw [← hc13] at hh13
          have hsz : c13.size = 512 := by rw [hc13]; simp [size_madeCells]
          obtain ⟨v9, hv9⟩ : ∃ v, c13[9]? = some v := ⟨_, Array.getElem?_eq_getElem (by omega)⟩
          obtain ⟨v10, hv10⟩ : ∃ v, c13[10]? = some v := ⟨_, Array.getElem?_eq_getElem (by omega)⟩
          have d9 : w13.cell? ⟨gB, 9, none⟩ = some v9 := cell_of hh13 hv9
          have d10 : w13.cell? ⟨gB, 10, none⟩ = some v10 := cell_of hh13 hv10
          have f9 : w13.frozen? ⟨gB, 9, none⟩ = false := froz_of hh13 9
          have f10 : w13.frozen? ⟨gB, 10, none⟩ = false := froz_of hh13 10
          obtain ⟨r0, rf⟩ := hT13.r.cell (k := m) hm2
          have t15 := (hT13.other hnS' hnT hnP hg0 9 (.int .u8 0)).other hnS' hnT hnP hg0 10 (.int .u8 0)
          have HT16 := hid (t15.set hm2 ((k + 1 : Nat) : Int) (G' := fun j => if j = m then ((k + 1 : Nat) : Int) else G j) (fun _ _ => rfl))
          have hP16 := HP.out.step (G' := fun j => if j = m then ((k + 1 : Nat) : Int) else G j) m hm2 (fun j _ => by by_cases e : j = m <;> simp [e])
          rw [← hxB] at hP16
          have HP16 := hid hP16
          obtain ⟨r0', rf'⟩ := t15.r.cell (k := m) hm2
          clear hv13 hk13 hs13 hT13 hnS hnT hnP hg0 hh10 hxB hh12 hl12 hh13 hnS' hc13 hsz hv9 hv10 t15 hP16 HQ HP HPU HT12
          go_wp2
          go_roundw
          case rel => exact ⟨k + 1, S', _, _, by omega, by omega, by first | rfl | go_num, HT16.out, HP16.out⟩
          case measure => simp [RowKit.intOf]; omega
        · have h8' : ¬ (k : Int) < 80 := by omega
          have HR : Hid (∃ (k : Nat) (S : Nat → Prop) (P : Int → Option (List Int)) (G : Nat → Int), k ≤ nC ∧ k ≤ 80 ∧ Vs w V pv q gP k S T0 P bc G ∧ Pd l k P G) := hid ⟨k, S, P, G, hk, hk8, HT.out, HP.out⟩
          clear HT HP
          go_wp2
          go_meet
          case rel => exact HR.out
      · have hlt' : ¬ (k : Int) < nC := by omega
        have hlt2 : decide ((k : Int) < nC) = false := decide_eq_false hlt'
        have HR : Hid (∃ (k : Nat) (S : Nat → Prop) (P : Int → Option (List Int)) (G : Nat → Int), k ≤ nC ∧ k ≤ 80 ∧ Vs w V pv q gP k S T0 P bc G ∧ Pd l k P G) := hid ⟨k, S, P, G, hk, hk8, HT.out, HP.out⟩
        clear HT HP
        go_wp2
        go_meet
        case rel => exact HR.out
  case rest =>
    obtain ⟨kC, S, P, G, hk, hk8, ht, hp⟩ := hcut
    have HP := hid hp
    have HPU := hid (Puts_any ht.v (by omega))
    have HT0 := hid ht
    clear ht hp HVs
    go_wp2_with fail
    refine HPU.out.mono ?_
    rintro e w2 ⟨v2, M, L, rfl, hPK, hLn, hPO, hML, hb2⟩
    obtain ⟨f, hf⟩ : ∃ f : Nat → Bool, f = fun n : Nat => (P (n : Int)).isSome := ⟨_, rfl⟩
    have hL := putK_bel hPK 200 (by omega) f (fun k _ => by rw [hf]) HP.out.2
    obtain ⟨a3, c3, rfl, hc3, hPs⟩ := hPO.ps
    have HEL := hid (putEl hPs hML hL hf)
    obtain ⟨mL, hmL⟩ : ∃ mL, mL = M.length := ⟨_, rfl⟩
    rw [← hmL] at HEL ⊢
    have HLL : Hid (mL = (belN f 200).length) := hid (by
      have := congrArg List.length hML
      rw [List.length_map, List.length_map, hL, List.length_map] at this
      rw [hmL]; exact this)
    have HT := hid (HT0.out.later hb2)
    have HCT : Hid (∀ n, n < 200 → (ct P bc n).length = 512) := hid (fun n hn => by
      unfold ct
      rcases HP.out.1 n hn with ⟨_, h2⟩ | ⟨j, _, _, h2⟩
      · rw [h2]; exact HT0.out.b.len hn
      · rw [h2]; exact pdat_len _ _)
    have HFN : Hid (∀ n, f n = (P (n : Int)).isSome) := hid (fun n => by rw [hf])
    have hmL8 : mL ≤ 80 := by
      have := congrArg List.length hML
      rw [List.length_map, List.length_map] at this
      omega
    clear hb2 hPO hPs hML hPK hLn hL hf hmL HPU HT0 hc3
    go_wp2
    go_loopw [14, 15] (fun z14 z15 wr => ∃ n : Nat, n ≤ 200 ∧ z15 = n64 n ∧ z14 = n64 ((belN f n).length : Nat) ∧ Below w2.heap.size w2 wr) (fun _ z _ => 200 - (RowKit.intOf z).toNat)
    case atStart => exact ⟨0, by omega, rfl, rfl, Below.refl _ _⟩
    case round =>
      obtain ⟨n, hn, rfl, rfl, hb⟩ := hrel
      rename World => V
      obtain ⟨kk, hkk⟩ : ∃ kk, kk = (belN f n).length := ⟨_, rfl⟩
      rw [← hkk]
      have HKK := hid hkk
      have HBV := hid hb
      clear hb hkk
      by_cases hlt : n < 200
      · have hlt' : (n : Int) < 200 := by omega
        have HG := hid (fun (W : World) (hbW : Below w2.heap.size w2 W) => Get_ok (HT.out.v.later hbW) (HT.out.b.later hbW) n hlt hlt' (by decide) rfl (HCT.out n hlt))
        have HSU := hid (bel_succ f n)
        have hw9 : IntKind.i64.wrap ((n : Int) + 1) = ((n + 1 : Nat) : Int) := by rw [IntWalk.i64_in _ (by omega)]; omega
        go_wp2_with fail
        refine (HG.out V HBV.out).mono ?_
        rintro e w5 ⟨a5, c5, rfl, ho5, hb5⟩
        obtain ⟨g5, cap5, e5, _, _, hg5, hl5, hcel5, hfr5⟩ := owns_cells ho5 (by decide)
        simp only [Value.slice.injEq, true_and] at e5
        obtain ⟨rfl, rfl⟩ := e5
        have hB5 : Below w2.heap.size w2 w5 := HBV.out.trans (hb5.mono HBV.out.size)
        have HB5 := hid hB5
        have HT5 := hid (HT.out.later hB5)
        obtain ⟨rG, _⟩ := HT5.out.r.cell (k := n) hlt
        have hIsB : ∀ x ∈ ct P bc n, IsB x := by
          unfold ct
          rcases HP.out.1 n hlt with ⟨_, h2⟩ | ⟨j, hj, _, h2⟩
          · rw [h2]; exact HT5.out.b.isB hlt
          · rw [h2]; exact pdat_isB (HC.out j (by rw [← HNC.out]; omega)).1.2.2 ⟨by omega, by omega⟩
        have HY5 : Hid (By w5 (fun g => g = g5) (some ⟨g5, 0, none⟩) (ct P bc n)) := hid (by
          obtain ⟨a', c', e', _, _, hy⟩ := By.of_owns (S := fun g => g = g5) ho5 hIsB (fun g hg => by simpa [Value.ownBlock] using hg.symm)
          simp only [Value.slice.injEq, true_and] at e'
          rw [e'.1]; exact hy)
        rcases HP.out.1 n hlt with ⟨hG0, hP0⟩ | ⟨j, hj, hGj, hPj⟩
        · have hct : ct P bc n = bc n := by unfold ct; rw [hP0]; rfl
          rw [hct] at HY5
          have hfn : f n = false := by rw [HFN.out, hP0]; rfl
          rw [hfn] at HSU
          rw [hG0] at rG
          have HBL := hid (Block_any w5 q 200 T0 bc _ HT5.out.b n hlt (by decide) rfl)
          have HLB := hid (HT5.out.b.len hlt)
          clear hB5 hcel5 hfr5 hct hfn hG0 hP0 ho5 hb5 hg5 hl5 hIsB HG
          go_wp2_with fail
          refine HBL.out.mono ?_
          rintro e w6 ⟨a6, c6, rfl, hy6, hc6, hb6⟩
          have cv5 := conv0 (cap := c5) (HY5.out.later hb6).bytes HLB.out
          have cv6 := conv0 (cap := c6) hy6.bytes HLB.out
          generalize strOfNums (bc n) = sx at *
          have HB6 : Hid (Below w2.heap.size w2 w6) := hid (HB5.out.trans (hb6.mono HB5.out.size))
          clear hy6 hb6 hc6 HBL
          go_wp2
          go_roundw
          case rel => exact ⟨n + 1, by omega, by first | rfl | go_num, by rw [HSU.out, ← HKK.out]; rfl, HB6.out⟩
          case measure => simp [RowKit.intOf]; omega
        · have hjC : j < nC := by omega
          obtain ⟨⟨_, _, hBb⟩, gb, go, rfl, cN0, cN1, cN2⟩ := HC.out.later HT5.out.bel j (by rw [← HNC.out]; exact hjC)
          obtain ⟨xB, hxB⟩ : ∃ x, x = (l.getD j default).b := ⟨_, rfl⟩
          rw [← hxB] at cN2 hBb hPj
          have hct : ct P bc n = pdat xB j := by unfold ct; rw [hPj]; rfl
          rw [hct] at HY5 hcel5
          have d9 : w5.cell? ⟨g5, 9, none⟩ = some (.int .u8 xB) := hcel5 9 _ (by rw [u8s_get (by rw [pdat_len]; decide), pdat_at _ _ 9 (by decide)]; rfl)
          have d10 : w5.cell? ⟨g5, 10, none⟩ = some (.int .u8 (j : Int)) := hcel5 10 _ (by rw [u8s_get (by rw [pdat_len]; decide), pdat_at _ _ 10 (by decide)]; rfl)
          have f9 := hfr5 9
          rw [hGj] at rG
          have hfn : f n = true := by rw [HFN.out, hPj]; rfl
          rw [hfn] at HSU
          obtain ⟨hkm, lb, lo, dd, dc, rfl, e1, e2, hyD⟩ := HEL.out n hlt _ hPj (pdat_len _ _) kk HKK.out
          replace e1 := cell_later hB5 e1
          replace e2 := cell_later hB5 e2
          have cvD := bytes_conv (cap := dc) (hyD.later hB5).bytes (pdat_len xB j)
          have cv5 := bytes_conv (cap := c5) HY5.out.bytes (pdat_len xB j)
          generalize strOfNums (pdat xB j) = sx at *
          have hs1 : IntKind.i64.wrap ((j : Int) + 1 - 1) = (j : Int) := by rw [IntWalk.i64_in _ (by omega)]; omega
          have hs2 : IntKind.i64.wrap (j : Int) = (j : Int) := by rw [IntWalk.i64_in _ (by omega)]
          have hu8 : IntKind.u8.wrap (j : Int) = (j : Int) := by rw [IntKind.wrap_u8]; omega
          have hjC' : (j : Int) < nC := by omega
          have hkm' : (kk : Int) < mL := by omega
          have hkm2 : ¬ (mL : Int) ≤ kk := by omega
          have hkm3 : ¬ mL ≤ kk := by omega
          have hne0 : ¬ ((j : Int) + 1 = 0) := by omega
          have hwk : IntKind.i64.wrap ((kk : Int) + 1) = ((kk + 1 : Nat) : Int) := by rw [IntWalk.i64_in _ (by omega)]; omega
          have HBb := hid hBb
          obtain ⟨cur5, hh5, _, _, hcs5, _, _⟩ := owns_block ho5
          have HH5 := hid hh5
          have HCS : Hid (512 ≤ cur5.size) := hid (by omega)
          have HCTE := hid hct
          have hxne : ¬ xB = (xB + 1) % 256 := by unfold IsB at hBb; omega
          have hxne2 : (xB == (xB + 1) % 256) = false := by simpa using hxne
          clear hB5 hcel5 hfr5 hct hfn hGj hPj ho5 hb5 hIsB cN0 cN1 hyD hxB hBb hj hh5 hcs5
          go_wp2_with fail
          go_quiet (fail)
          go_wp2_with fail
          have hb6 : Below w2.heap.size w2 ((w5.drewN nq).setCell ⟨g5, 9, none⟩ (.int .u8 ((xB + 1) % 256))) := (below_drewN HB5.out _).setCell (show w2.heap.size ≤ g5 by have := HBV.out.size; omega) _
          have d6 : ((w5.drewN nq).setCell ⟨g5, 9, none⟩ (.int .u8 ((xB + 1) % 256))).cell? ⟨g5, 9, none⟩ = some (.int .u8 ((xB + 1) % 256)) := cell_of (setc (w := w5.drewN nq) HH5.out 9 _) (by rw [Array.getElem?_setIfInBounds_self_of_lt (by have := HCS.out; omega)])
          obtain ⟨W6, hW6⟩ : ∃ W6, W6 = (w5.drewN nq).setCell ⟨g5, 9, none⟩ (.int .u8 ((xB + 1) % 256)) := ⟨_, rfl⟩
          rw [← hW6] at hb6 d6 ⊢
          clear hW6
          refine (HG.out W6 hb6).mono ?_
          rintro e w7 ⟨a7, c7, rfl, ho7, hb7⟩
          obtain ⟨g7, cap7, e7, _, _, hg7, hl7, hcel7, _⟩ := owns_cells ho7 (by decide)
          simp only [Value.slice.injEq, true_and] at e7
          obtain ⟨rfl, rfl⟩ := e7
          rw [HCTE.out] at hcel7
          have d7 : w7.cell? ⟨g7, 9, none⟩ = some (.int .u8 xB) := hcel7 9 _ (by rw [u8s_get (by rw [pdat_len]; decide), pdat_at _ _ 9 (by decide)]; rfl)
          replace d6 := cell_later hb7 d6
          have HB7 : Hid (Below w2.heap.size w2 w7) := hid (hb6.trans (hb7.mono hb6.size))
          clear hcel7 ho7 hb7 hb6 hg7 hl7 d9 d10 f9 rG e1 e2 cvD cv5 cN2 hs1 hs2 hu8 hjC' hkm' hkm2 hkm3 hkm hjC hne0
          go_wp2_with fail
          go_quiet (fail)
          go_wp2
          go_roundw
          case rel => exact ⟨n + 1, by omega, by first | rfl | go_num, by rw [HSU.out, ← HKK.out]; rfl, below_drewN HB7.out _⟩
          case measure => simp [RowKit.intOf]; omega
      · have hlt' : ¬ (n : Int) < 200 := by omega
        obtain rfl : n = 200 := by omega
        obtain rfl : kk = mL := by rw [HKK.out, HLL.out]
        have HTV := hid (HT.out.later HBV.out)
        have HWZ := hid (fun W => within_any sz 512 (by decide) (by decide) W)
        have hwz := wi_bd sz 512 (by decide)
        obtain ⟨m, hm⟩ : ∃ m : Nat, wi sz 512 = (m : Int) := ⟨(wi sz 512).toNat, by omega⟩
        rw [hm] at HWZ hwz
        have hmk : ∀ W : World, (Instr.makeSlice 35 (.int .i64 m) (.int .i64 m)).run Try.prog W = .ok (.slice (some ⟨W.heap.size, 0, none⟩) m m) (W.alloc (.cells (madeCells #[.int .u8 0] m) 5)) := run_make_row' (P := Try.prog) 35 5 (.int .u8 0) 1 Try.underlying35 info5 rfl .i64 .i64 m (by omega) (by omega)
        clear hm HEL HLL HKK HFN HT HBV hn hmL8
        by_cases hat : 0 ≤ at_ ∧ at_ < 200
        · obtain ⟨x, rfl⟩ : ∃ x : Nat, at_ = (x : Int) := ⟨at_.toNat, by omega⟩
          have hx : (x : Int) < 200 := by omega
          have hx0 : (0 : Int) ≤ x := by omega
          have hx1 : x < 200 := by omega
          have HG := hid (Get_ok HTV.out.v HTV.out.b x (by omega) hx (by decide) rfl (HCT.out x (by omega)))
          clear hat HCT
          go_wp2_with fail
          refine HG.out.mono ?_
          rintro e w5 ⟨a5, c5, rfl, _, hb5⟩
          obtain ⟨W6, hW6⟩ : ∃ W, W = w5.alloc (.cells (madeCells #[.int .u8 0] 512) 5) := ⟨_, rfl⟩
          have hb6 : Below w5.heap.size w5 W6 := by rw [hW6]; exact (Below.refl _ _).alloc (Nat.le_refl _) _
          have hy6 := made512_by w5
          rw [← hW6] at hy6
          have HT6 := hid ((HTV.out.later hb5).later hb6)
          have HPU := hid (Put_ok HT6.out.v HT6.out.sb (by omega) x hx (by decide) _ zeros512 zeros_len _ 512 hy6)
          clear hb5 hb6 hy6 HG
          go_wp2_with (first | (rw [← hW6]; clear hW6))
          refine HPU.out.mono ?_
          rintro e w7 ⟨rfl, S', hv7, hk7, hs7⟩
          have HT7 := hid (HT6.out.call hk7 hv7 hs7)
          clear hv7 hk7 hs7 HPU HT6
          go_wp2_with fail
          refine (HWZ.out w7).mono ?_
          rintro e w8 ⟨rfl, h8⟩
          rw [h8]
          clear h8
          obtain ⟨W9, hW9⟩ : ∃ W, W = w7.alloc (.cells (madeCells #[.int .u8 0] m) 5) := ⟨_, rfl⟩
          have hb9 : Below w7.heap.size w7 W9 := by rw [hW9]; exact (Below.refl _ _).alloc (Nat.le_refl _) _
          have HT9 := hid (HT7.out.later hb9)
          have HPS := hid (Put_short HT9.out.v 3 (by omega) (some ⟨w7.heap.size, 0, none⟩) m m (by omega))
          clear hb9 HT7 HWZ
          go_wp2_with (first | (rw [← hW9]; clear hW9))
          refine HPS.out.mono ?_
          rintro e w10 ⟨rfl, hb10⟩
          have HT10 := hid (HT9.out.later hb10)
          clear hb10 HPS HT9
          go_wp2_with fail
          go_quiet ((go_at_call 12; exact Calls.quiet_of_same (Is_same _ 14 (by decide))))
          go_wp2
          go_ret
          exact ⟨rfl, below_drewN HT10.out.bel _⟩
        · have HG := hid (Get_far HTV.out.v at_ hat)
          have HPF := hid (fun (W : World) (hb : Below V.heap.size V W) d => Put_far (HTV.out.v.later hb) at_ hat d)
          have hat2 : (decide (0 ≤ at_) && decide (at_ < 200)) = false := by rw [← Bool.decide_and]; exact decide_eq_false hat
          clear HCT
          go_wp2_with fail
          refine HG.out.mono ?_
          rintro e w5 ⟨rfl, hb5⟩
          obtain ⟨W6, hW6⟩ : ∃ W, W = w5.alloc (.cells (madeCells #[.int .u8 0] 512) 5) := ⟨_, rfl⟩
          have hb6 : Below w5.heap.size w5 W6 := by rw [hW6]; exact (Below.refl _ _).alloc (Nat.le_refl _) _
          have HPU := hid (HPF.out W6 (hb5.trans (hb6.mono hb5.size)) (.slice (some ⟨w5.heap.size, 0, none⟩) 512 512))
          have HT6 := hid ((HTV.out.later hb5).later hb6)
          clear hb5 hb6 HG HPF
          go_wp2_with (first | (rw [← hW6]; clear hW6))
          refine HPU.out.mono ?_
          rintro e w7 ⟨rfl, hb7⟩
          have HT7 := hid (HT6.out.later hb7)
          clear hb7 HPU HT6
          go_wp2_with fail
          refine (HWZ.out w7).mono ?_
          rintro e w8 ⟨rfl, h8⟩
          rw [h8]
          clear h8
          obtain ⟨W9, hW9⟩ : ∃ W, W = w7.alloc (.cells (madeCells #[.int .u8 0] m) 5) := ⟨_, rfl⟩
          have hb9 : Below w7.heap.size w7 W9 := by rw [hW9]; exact (Below.refl _ _).alloc (Nat.le_refl _) _
          have HT9 := hid (HT7.out.later hb9)
          have HPS := hid (Put_short HT9.out.v 3 (by omega) (some ⟨w7.heap.size, 0, none⟩) m m (by omega))
          clear hb9 HT7 HWZ
          go_wp2_with (first | (rw [← hW9]; clear hW9))
          refine HPS.out.mono ?_
          rintro e w10 ⟨rfl, hb10⟩
          have HT10 := hid (HT9.out.later hb10)
          clear hb10 HPS HT9
          by_cases h0 : 0 ≤ at_
          · have h1 : ¬ at_ < 200 := by omega
            have h1d : decide (at_ < 200) = false := decide_eq_false h1
            clear hat hat2
            go_wp2_with fail
            go_quiet ((go_at_call 12; exact Calls.quiet_of_same (Is_same _ _ (by decide))))
            go_wp2
            go_ret
            exact ⟨rfl, below_drewN HT10.out.bel _⟩
          · have h0d : decide (0 ≤ at_) = false := decide_eq_false h0
            clear hat hat2
            go_wp2_with fail
            go_quiet ((go_at_call 12; exact Calls.quiet_of_same (Is_same _ _ (by decide))))
            go_wp2
            go_ret
            exact ⟨rfl, below_drewN HT10.out.bel _⟩
end Go.Proofs.Ytoplbmbeadpilaa
