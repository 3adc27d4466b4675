/- RpcRefuses: kind 1. -/
import Derived.Test.YtgeecahpfjllgabDoorYmB
namespace Go.Proofs.YtgeecahpfjllgabDoor
open Go.RowKit Go.Maps
set_option linter.unusedVariables false

set_option maxRecDepth 100000 in
set_option maxHeartbeats 16000000 in
theorem refuse_1b (w : World) (hG : Gl w) (C : Ca) (hC : C.ok) (ag : Option Addr) (ng cg : Nat) (ab : Option Addr) (nb cb : Nat) (hng : C.cr.gids.length = ng) (hgs : U32s w ag C.cr.gids) (hgm : ng ≤ maxLen) (hgc : ng ≤ cg) (hnb : C.body.length = nb) (hb : Bytes w ab C.body) (hbc : nb ≤ cb) (kd : Int) (hkd : wi kd 5 = 1) (hs1 : ¬ 16384 < nb) (h16 : 16 < ng) :
    Calls Tryd.prog 3 #[.agg (caC C.xid C.prog C.vers C.proc C.cr.uid C.cr.gid (.slice ag ng cg) (.slice ab nb cb)), .int .i64 kd] w fun e w' => e = .returned (.bool true) ∧ Below w.heap.size w w' := by
  obtain ⟨bx, prog, vers, proc, ⟨bu, bg, gs⟩, bb⟩ := C
  obtain ⟨hcx, hcp, hcv, hcc, hcu, hcg, hcs⟩ := hC
  simp only at hcx hcp hcv hcc hcu hcg hcs hng hgs hnb hb ⊢
  have h4 : 0 ≤ proc ∧ proc < 4294967296 := hcc
  obtain ⟨pk, hpk⟩ : ∃ z, proc.tmod 22 = z := ⟨_, rfl⟩
  have hpkb : 0 ≤ pk ∧ pk < 22 := by rw [← hpk, Int.tmod_eq_emod_of_nonneg h4.1]; omega
  obtain ⟨bgs, hbgs⟩ : ∃ z, gs.take 16 = z := ⟨_, rfl⟩
  have hbu : ∀ x ∈ bgs, IsU x := fun x hx => by rw [← hbgs] at hx; exact hcs x (List.mem_of_mem_take hx)
  have hok : (⟨bx, 100003, 2, pk, ⟨bu, bg, bgs⟩, bb⟩ : Ca).ok := ⟨hcx, by unfold IsU; simp, by unfold IsU; simp, by unfold IsU; simp only; omega, hcu, hcg, hbu⟩
  have hgl : bgs.length = 16 := by rw [← hbgs, List.length_take, hng]; omega
  have hpp : parseP (callL ⟨bx, 100003, 2, pk, ⟨bu, bg, bgs⟩, bb⟩) = (Ca0, 35, nuL 4 [bx, 1, 0, 0, 0, 2, 3, 3]) := by
    rw [parse_call _ hok]
    have e : ({ (⟨bx, 100003, 2, pk, ⟨bu, bg, bgs⟩, bb⟩ : Ca) with cr := { (⟨bx, 100003, 2, pk, ⟨bu, bg, bgs⟩, bb⟩ : Ca).cr with gids := (⟨bx, 100003, 2, pk, ⟨bu, bg, bgs⟩, bb⟩ : Ca).cr.gids.take 16 } } : Ca) = ⟨bx, 100003, 2, pk, ⟨bu, bg, bgs⟩, bb⟩ := by
      have : bgs.take 16 = bgs := List.take_of_length_le (by omega)
      simp only [this]
    rw [e]
    unfold judP
    simp only
    rw [if_neg (by decide), if_pos (by decide)]
  obtain ⟨LC, hLC⟩ : ∃ l, callL ⟨bx, 100003, 2, pk, ⟨bu, bg, bgs⟩, bb⟩ = l := ⟨_, rfl⟩
  obtain ⟨m, hm⟩ : ∃ m, LC.length = m := ⟨_, rfl⟩
  have hml : m ≤ 20000 ∧ 24 ≤ m := by
    have h1 := sysL_len ⟨bu, bg, bgs⟩
    have h4 := pad4_lt (20 + 4 * min 16 bgs.length)
    rw [← hm, ← hLC]
    unfold callL
    simp only [List.length_append, nuL_len, fuL_len, len_be, h1, List.length_cons, List.length_nil, hnb]
    omega
  rw [hLC] at hpp
  obtain ⟨p0, hp0⟩ : ∃ g, w.heap.size = g := ⟨_, rfl⟩
  obtain ⟨W1, hW1⟩ : ∃ W, W = w.alloc (.cells (caC bx prog vers proc bu bg (.slice ag ng cg) (.slice ab nb cb)) 28) := ⟨_, rfl⟩
  have b1 : Below w.heap.size w W1 := by rw [hW1]; exact below_alloc (Below.refl _ _) (Nat.le_refl _) _
  have z1 : W1.heap[p0]? = some (.cells (caC bx prog vers proc bu bg (.slice ag ng cg) (.slice ab nb cb)) 28 (0, 0)) := by rw [hW1, ← hp0]; exact alloc_new w _
  have HKN := hid (known17 W1 (hG.later b1))
  have HZ1 := hid z1
  have HB1 := hid b1
  have HG0 := hid hG
  have HGS0 := hid hgs
  have HBY0 := hid hb
  have HNB := hid (And.intro hnb hbc)
  have HOK := hid hok
  have HPP := hid hpp
  have HXU := hid hcx
  have HLC := hid hLC
  have HM := hid hm
  have HML := hid hml
  have HS1 := hid hs1
  have HBG := hid hbgs
  have HWI := hid (fun W => within17 kd 5 (by decide) (by decide) W)
  rw [hkd] at HWI
  have HGL : Hid (bgs.length = 16 ∧ 16 ≤ maxLen ∧ 16 ≤ cg) := hid ⟨hgl, by unfold maxLen; omega, by omega⟩
  have d1 : decide ((16384 : Int) < (nb : Nat)) = false := decide_eq_false (by omega)
  have q3 : (16 : Int) < (ng : Nat) := by omega
  have hcut0 := cut_u32s ag ng cg 16 (by omega)
  have hcut : ∀ W, (Instr.slice 23 (.slice ag ng cg) none (some (.int .i64 16)) none).run Tryd.prog W = .ok (.slice ag 16 cg) W := hcut0
  have hW1' := hW1.symm
  clear b1 z1 hW1 hG hgs hb hng hgm hgc hnb hbc hok hpp hcx hcp hcv hcc hcu hcg hcs h4 hpkb hbu hgl hLC hm hml hbgs hs1 h16 hkd hcut0
  go_enter Tryd.func3, Tryd.ntmps3
  go_upto_region 18 with (first
    | (go_at_call 6
       (try rw [hW1'])
       refine HKN.out.mono ?_
       rintro e w2 ⟨rfl, hb2⟩
       have z0 := (hb2.block p0 (Array.getElem?_eq_some_iff.1 HZ1.out).1).trans HZ1.out
       have x7 := cell_of z0 (i := 7) (v := .slice ab nb cb) rfl
       have x3 := cell_of z0 (i := 3) (v := .int .u32 proc) rfl
       have q0 : Mods (fun b => b = p0) w2 w2 := Mods.refl _ _
       have x0c := cell_of z0 (i := 1) (v := .int .u32 prog) rfl
       have f0c := froz_of z0 1
       obtain ⟨V1, hV1⟩ : ∃ W, W = w2.setCell ⟨p0, 1, none⟩ (.int .u32 100003) := ⟨_, rfl⟩
       have z1 : V1.heap[p0]? = some (.cells (caC bx 100003 vers proc bu bg (.slice ag ng cg) (.slice ab nb cb)) 28 (0, 0)) := by rw [hV1]; exact setc z0 1 _
       have q1 : Mods (fun b => b = p0) w2 V1 := by rw [hV1]; exact q0.tr ((Mods.refl _ _).setCell p0 1 _ rfl)
       have x1c := cell_of z1 (i := 2) (v := .int .u32 vers) rfl
       have f1c := froz_of z1 2
       obtain ⟨V2, hV2⟩ : ∃ W, W = V1.setCell ⟨p0, 2, none⟩ (.int .u32 3) := ⟨_, rfl⟩
       have z2 : V2.heap[p0]? = some (.cells (caC bx 100003 3 proc bu bg (.slice ag ng cg) (.slice ab nb cb)) 28 (0, 0)) := by rw [hV2]; exact setc z1 2 _
       have q2 : Mods (fun b => b = p0) w2 V2 := by rw [hV2]; exact q1.tr ((Mods.refl _ _).setCell p0 2 _ rfl)
       have x2c := cell_of z2 (i := 3) (v := .int .u32 proc) rfl
       have f2c := froz_of z2 3
       obtain ⟨V3, hV3⟩ : ∃ W, W = V2.setCell ⟨p0, 3, none⟩ (.int .u32 pk) := ⟨_, rfl⟩
       have z3 : V3.heap[p0]? = some (.cells (caC bx 100003 3 pk bu bg (.slice ag ng cg) (.slice ab nb cb)) 28 (0, 0)) := by rw [hV3]; exact setc z2 3 _
       have q3 : Mods (fun b => b = p0) w2 V3 := by rw [hV3]; exact q2.tr ((Mods.refl _ _).setCell p0 3 _ rfl)
       have y6 := cell_of z3 (i := 6) (v := .slice ag ng cg) rfl
       have x3c := cell_of z3 (i := 6) (v := .slice ag ng cg) rfl
       have f3c := froz_of z3 6
       obtain ⟨V4, hV4⟩ : ∃ W, W = V3.setCell ⟨p0, 6, none⟩ (.slice ag 16 cg) := ⟨_, rfl⟩
       have z4 : V4.heap[p0]? = some (.cells (caC bx 100003 3 pk bu bg (.slice ag 16 cg) (.slice ab nb cb)) 28 (0, 0)) := by rw [hV4]; exact setc z3 6 _
       have q4 : Mods (fun b => b = p0) w2 V4 := by rw [hV4]; exact q3.tr ((Mods.refl _ _).setCell p0 6 _ rfl)
       have x4c := cell_of z4 (i := 2) (v := .int .u32 3) rfl
       have f4c := froz_of z4 2
       obtain ⟨V5, hV5⟩ : ∃ W, W = V4.setCell ⟨p0, 2, none⟩ (.int .u32 2) := ⟨_, rfl⟩
       have z5 : V5.heap[p0]? = some (.cells (caC bx 100003 2 pk bu bg (.slice ag 16 cg) (.slice ab nb cb)) 28 (0, 0)) := by rw [hV5]; exact setc z4 2 _
       have q5 : Mods (fun b => b = p0) w2 V5 := by rw [hV5]; exact q4.tr ((Mods.refl _ _).setCell p0 2 _ rfl)
       have HZF := hid z5
       have HB2 := hid (HB1.out.trans (hb2.mono HB1.out.size))
       have HQF := hid q5
       have hV1' := hV1.symm
       have hV2' := hV2.symm
       have hV3' := hV3.symm
       have hV4' := hV4.symm
       have hV5' := hV5.symm
       clear hb2 HKN hV1 hV2 hV3 hV4 hV5 z0 q0 z1 q1 z2 q2 z3 q3 z4 q4 z5 q5)
    | (go_at_call 7
       refine (HWI.out _).mono ?_
       rintro e wi1 ⟨rfl, hwi1⟩
       rw [hwi1]
       clear hwi1))
  (try rw [hV5'])
  clear x7 x3 x0c f0c x1c f1c x2c f2c x3c f3c x4c f4c y6 hV1' hV2' hV3' hV4' hV5' d1 q3 hcut hpk
  have HBW : Hid (Below w.heap.size w V5) := hid (HQF.out.to_below HB2.out HB2.out.size (fun b hb => by have h : b = p0 := hb; omega))
  have HBP0 := hid (HBY0.out.later HBW.out)
  have HUP0 : Hid (U32s V5 ag bgs) := hid (by rw [← HBG.out]; exact (HGS0.out.later HBW.out).take 16)
  have HWR := hid (Write_own V5 ⟨bx, 100003, 2, pk, ⟨bu, bg, bgs⟩, bb⟩ HOK.out ag 16 cg ab nb cb HGL.out.1 HGL.out.2.2 HGL.out.2.1 HUP0.out HNB.out.1 HBP0.out (by have := HS1.out; omega) m (by rw [HLC.out]; exact HM.out))
  rw [HLC.out] at HWR
  clear HQF
  go_upto_region 23 with (first
    | (refine wpList_load_row rfl 28 _ rfl p0 rfl 28 _ (0, 0) _ HZF.out Tryd.underlying28 rfl sizeCall ?_)
    | (go_at_call 8
       refine HWR.out.mono ?_
       rintro e w7 ⟨a6, c6, rfl, hy6, hc6, hb6, hr6⟩
       have HPA := hid (Parse_any w7 (HG0.out.later (HBW.out.trans (hb6.mono HBW.out.size))) a6 m c6 LC HM.out hc6 (by have := HML.out; omega) hy6.bytes)
       have HB6 := hid (HBW.out.trans (hb6.mono HBW.out.size))
       have HB6' := hid hb6
       clear hy6 hc6 hb6 hr6 HWR)
    | (go_at_call 7
       refine (HWI.out _).mono ?_
       rintro e wi2 ⟨rfl, hwi2⟩
       rw [hwi2]
       clear hwi2 HWI)
    | (go_at_call 9
       
       refine HPA.out.mono ?_
       rintro e w8 ⟨hb8, _, hno⟩
       rw [HPP.out] at hno
       obtain ⟨gw, rfl, hwr⟩ := hno (show (35 : Int) ≠ 0 by decide)
       obtain ⟨g7, hg7⟩ : ∃ g, w8.heap.size = g := ⟨_, rfl⟩
       obtain ⟨W9, hW9⟩ : ∃ W, W = w8.alloc (.cells (caC 0 0 0 0 0 0 nilS nilS) 28) := ⟨_, rfl⟩
       obtain ⟨W10, hW10⟩ : ∃ W, W = W9.setRow g7 (caC 0 0 0 0 0 0 nilS nilS) := ⟨_, rfl⟩
       obtain ⟨t9, ht9⟩ : ∃ g, W10.heap.size = g := ⟨_, rfl⟩
       obtain ⟨W11, hW11⟩ : ∃ W, W = W10.alloc (.cells #[.pointer none] 37) := ⟨_, rfl⟩
       have b9 : Below w8.heap.size w8 W9 := by rw [hW9]; exact below_alloc (Below.refl _ _) (Nat.le_refl _) _
       have z9 : W9.heap[g7]? = some (.cells (caC 0 0 0 0 0 0 nilS nilS) 28 (0, 0)) := by rw [hW9, ← hg7]; exact alloc_new w8 _
       have q10 : Mods (fun b => b = g7) W9 W10 := by rw [hW10]; exact setRow_mods _ _ _
       have b10 : Below w8.heap.size w8 W10 := q10.to_below b9 b9.size (fun b hb => by have h : b = g7 := hb; omega)
       have b11 : Below w8.heap.size w8 W11 := by rw [hW11]; exact below_alloc b10 b10.size _
       have z11 : W11.heap[t9]? = some (.cells #[.pointer none] 37 (0, 0)) := by rw [hW11, ← ht9]; exact alloc_new W10 _
       have B8 := HB6.out.trans (hb8.mono HB6.out.size)
       have B8' := HB6'.out.trans (hb8.mono HB6'.out.size)
       have B11 := B8.trans (b11.mono B8.size)
       have B11' := B8'.trans (b11.mono B8'.size)
       have HWQ := hid (hwr.later b11)
       have HZ9 := hid z9
       have HZ11 := hid z11
       have HZP := hid ((B11'.block p0 (Array.getElem?_eq_some_iff.1 HZF.out).1).trans HZF.out)
       have HAS := hid (As_wrong gw t9 (.pointer none) W11 (HG0.out.later B11) (cell_of z11 (i := 0) rfl) (froz_of z11 0))
       have HT9 : Hid (w.heap.size ≤ t9) := hid (by have h1 := B8.size; have h2 := b10.size; omega)
       have HB11 := hid B11
       have hW9' := hW9.symm
       have hW10' := hW10.symm
       have hW11' := hW11.symm
       clear hb8 hno hwr b9 z9 q10 b10 b11 z11 B8 B8' B11 B11' hW9 hW10 hW11 HPA)
    | ((try rw [hW9'])
       refine wpList_store_row rfl 28 _ _ rfl g7 (caC 0 0 0 0 0 0 nilS nilS) rfl rfl 28 _ HZ9.out sizeCall rfl (caC_one _ _ _ _ _ _ _ _ _ _ _ _) ?_
       (try rw [hW10'])))
  (try rw [hW11'])
  go_wp2_with fail
  refine HAS.out.mono ?_
  rintro r w' ⟨rfl, w12, hb12, hw'⟩
  have hz2 := (hb12.block t9 (Array.getElem?_eq_some_iff.1 HZ11.out).1).trans HZ11.out
  have hz3 := setc hz2 0 (.pointer (some ⟨gw, 0, none⟩))
  rw [← hw'] at hz3
  have hm3 : Mods (fun b => b = t9) w12 w' := (by rw [hw']; exact (Mods.refl _ _).setCell t9 0 _ rfl)
  have yt := cell_of hz3 (i := 0) (v := .pointer (some ⟨gw, 0, none⟩)) rfl
  obtain ⟨_, ar, nr, cr, hgw, hyr, hnr, hcr⟩ := HWQ.out.later hb12
  have hgt : gw ≠ t9 := fun e => by
    rw [e, hz2] at hgw
    simp only [Option.some.injEq, Obj.cells.injEq] at hgw
    exact absurd hgw.2.1 (by decide)
  have hgw' := (hm3.block gw (Array.getElem?_eq_some_iff.1 hgw).1 hgt).trans hgw
  have hyr' := (hyr.off hz2 (by decide)).side hm3 (fun b hb _ e => hb.2 e)
  have hzp12 := (hb12.block p0 (Array.getElem?_eq_some_iff.1 HZP.out).1).trans HZP.out
  have hpt : p0 ≠ t9 := fun e => by
    rw [e, hz2] at hzp12
    simp only [Option.some.injEq, Obj.cells.injEq] at hzp12
    exact absurd hzp12.2.1 (by decide)
  have hzp := (hm3.block p0 (Array.getElem?_eq_some_iff.1 hzp12).1 hpt).trans hzp12
  have hnr2 : 32 = nr := by rw [← hnr]; simp only [nuL_len]; rfl
  subst hnr2
  have e0 := cell_of hgw' (i := 0) (v := .int .i64 35) rfl
  have e1 := cell_of hgw' (i := 1) (v := .slice ar 32 cr) rfl
  have hB12 := HB11.out.trans (hb12.mono HB11.out.size)
  have hBF := hm3.to_below hB12 hB12.size (fun b hb => by have h : b = t9 := hb; have := HT9.out; omega)
  have hA := ans_ref bx 2 (nuL 4 [3, 3]) 35 HXU.out (.inr (.inl ⟨rfl, rfl, rfl⟩))
  have hR : nuL 4 [bx, 1, 0, 0, 0, 2] ++ nuL 4 [3, 3] = nuL 4 [bx, 1, 0, 0, 0, 2, 3, 3] := by simp
  rw [hR] at hA
  have HAN := hid (Answer_any w' ar 32 cr (nuL 4 [bx, 1, 0, 0, 0, 2, 3, 3]) hnr hcr (by omega) hyr'.bytes)
  rw [hA] at HAN
  have HBF := hid hBF
  have HZP2 := hid hzp
  clear hw' hz2 hz3 hm3 hb12 hgw hyr hgt hgw' hyr' hnr hcr hzp12 hpt hzp hB12 hBF hA HAS hR
  go_wp2_with (first
    | (go_at_call 11
       refine HAN.out.mono ?_
       rintro e w14 ⟨a13, n13, c13, rfl, hy14, hn14, hc14, hb14⟩
       have en13 : 0 = n13 := hn14
       subst en13
       have hz14 := (hb14.block p0 (Array.getElem?_eq_some_iff.1 HZP2.out).1).trans HZP2.out
       have x0 := cell_of hz14 (i := 0) (v := .int .u32 bx) rfl
       have HB14 := hid (HBF.out.trans (hb14.mono HBF.out.size))
       clear hy14 hn14 hc14 hb14 hz14 HAN yt e0 e1))
  go_ret
  have hfin := HB14.out
  first | exact ⟨rfl, hfin⟩ | (rw [hp0] at hfin; exact ⟨rfl, hfin⟩)
set_option maxRecDepth 100000 in
set_option maxHeartbeats 16000000 in
theorem refuse_1s (w : World) (hG : Gl w) (C : Ca) (hC : C.ok) (ag : Option Addr) (ng cg : Nat) (ab : Option Addr) (nb cb : Nat) (hng : C.cr.gids.length = ng) (hgs : U32s w ag C.cr.gids) (hgm : ng ≤ maxLen) (hgc : ng ≤ cg) (hnb : C.body.length = nb) (hb : Bytes w ab C.body) (hbc : nb ≤ cb) (kd : Int) (hkd : wi kd 5 = 1) (hs1 : ¬ 16384 < nb) (h16 : ¬ 16 < ng) :
    Calls Tryd.prog 3 #[.agg (caC C.xid C.prog C.vers C.proc C.cr.uid C.cr.gid (.slice ag ng cg) (.slice ab nb cb)), .int .i64 kd] w fun e w' => e = .returned (.bool true) ∧ Below w.heap.size w w' := by
  obtain ⟨bx, prog, vers, proc, ⟨bu, bg, gs⟩, bb⟩ := C
  obtain ⟨hcx, hcp, hcv, hcc, hcu, hcg, hcs⟩ := hC
  simp only at hcx hcp hcv hcc hcu hcg hcs hng hgs hnb hb ⊢
  have h4 : 0 ≤ proc ∧ proc < 4294967296 := hcc
  obtain ⟨pk, hpk⟩ : ∃ z, proc.tmod 22 = z := ⟨_, rfl⟩
  have hpkb : 0 ≤ pk ∧ pk < 22 := by rw [← hpk, Int.tmod_eq_emod_of_nonneg h4.1]; omega
  obtain ⟨bgs, hbgs⟩ : ∃ z, gs.take 16 = z := ⟨_, rfl⟩
  have hbu : ∀ x ∈ bgs, IsU x := fun x hx => by rw [← hbgs] at hx; exact hcs x (List.mem_of_mem_take hx)
  have hok : (⟨bx, 100003, 2, pk, ⟨bu, bg, bgs⟩, bb⟩ : Ca).ok := ⟨hcx, by unfold IsU; simp, by unfold IsU; simp, by unfold IsU; simp only; omega, hcu, hcg, hbu⟩
  have hgl : bgs.length = ng := by rw [← hbgs, List.length_take, hng]; omega
  have hpp : parseP (callL ⟨bx, 100003, 2, pk, ⟨bu, bg, bgs⟩, bb⟩) = (Ca0, 35, nuL 4 [bx, 1, 0, 0, 0, 2, 3, 3]) := by
    rw [parse_call _ hok]
    have e : ({ (⟨bx, 100003, 2, pk, ⟨bu, bg, bgs⟩, bb⟩ : Ca) with cr := { (⟨bx, 100003, 2, pk, ⟨bu, bg, bgs⟩, bb⟩ : Ca).cr with gids := (⟨bx, 100003, 2, pk, ⟨bu, bg, bgs⟩, bb⟩ : Ca).cr.gids.take 16 } } : Ca) = ⟨bx, 100003, 2, pk, ⟨bu, bg, bgs⟩, bb⟩ := by
      have : bgs.take 16 = bgs := List.take_of_length_le (by omega)
      simp only [this]
    rw [e]
    unfold judP
    simp only
    rw [if_neg (by decide), if_pos (by decide)]
  obtain ⟨LC, hLC⟩ : ∃ l, callL ⟨bx, 100003, 2, pk, ⟨bu, bg, bgs⟩, bb⟩ = l := ⟨_, rfl⟩
  obtain ⟨m, hm⟩ : ∃ m, LC.length = m := ⟨_, rfl⟩
  have hml : m ≤ 20000 ∧ 24 ≤ m := by
    have h1 := sysL_len ⟨bu, bg, bgs⟩
    have h4 := pad4_lt (20 + 4 * min 16 bgs.length)
    rw [← hm, ← hLC]
    unfold callL
    simp only [List.length_append, nuL_len, fuL_len, len_be, h1, List.length_cons, List.length_nil, hnb]
    omega
  rw [hLC] at hpp
  obtain ⟨p0, hp0⟩ : ∃ g, w.heap.size = g := ⟨_, rfl⟩
  obtain ⟨W1, hW1⟩ : ∃ W, W = w.alloc (.cells (caC bx prog vers proc bu bg (.slice ag ng cg) (.slice ab nb cb)) 28) := ⟨_, rfl⟩
  have b1 : Below w.heap.size w W1 := by rw [hW1]; exact below_alloc (Below.refl _ _) (Nat.le_refl _) _
  have z1 : W1.heap[p0]? = some (.cells (caC bx prog vers proc bu bg (.slice ag ng cg) (.slice ab nb cb)) 28 (0, 0)) := by rw [hW1, ← hp0]; exact alloc_new w _
  have HKN := hid (known17 W1 (hG.later b1))
  have HZ1 := hid z1
  have HB1 := hid b1
  have HG0 := hid hG
  have HGS0 := hid hgs
  have HBY0 := hid hb
  have HNB := hid (And.intro hnb hbc)
  have HOK := hid hok
  have HPP := hid hpp
  have HXU := hid hcx
  have HLC := hid hLC
  have HM := hid hm
  have HML := hid hml
  have HS1 := hid hs1
  have HBG := hid hbgs
  have HWI := hid (fun W => within17 kd 5 (by decide) (by decide) W)
  rw [hkd] at HWI
  have HGL : Hid (bgs.length = ng ∧ ng ≤ maxLen ∧ ng ≤ cg) := hid ⟨hgl, by exact hgm, by omega⟩
  have d1 : decide ((16384 : Int) < (nb : Nat)) = false := decide_eq_false (by omega)
  have d3 : decide ((16 : Int) < (ng : Nat)) = false := decide_eq_false (by omega)
  have hW1' := hW1.symm
  clear b1 z1 hW1 hG hgs hb hng hgm hgc hnb hbc hok hpp hcx hcp hcv hcc hcu hcg hcs h4 hpkb hbu hgl hLC hm hml hbgs hs1 h16 hkd
  go_enter Tryd.func3, Tryd.ntmps3
  go_upto_region 18 with (first
    | (go_at_call 6
       (try rw [hW1'])
       refine HKN.out.mono ?_
       rintro e w2 ⟨rfl, hb2⟩
       have z0 := (hb2.block p0 (Array.getElem?_eq_some_iff.1 HZ1.out).1).trans HZ1.out
       have x7 := cell_of z0 (i := 7) (v := .slice ab nb cb) rfl
       have x3 := cell_of z0 (i := 3) (v := .int .u32 proc) rfl
       have q0 : Mods (fun b => b = p0) w2 w2 := Mods.refl _ _
       have x0c := cell_of z0 (i := 1) (v := .int .u32 prog) rfl
       have f0c := froz_of z0 1
       obtain ⟨V1, hV1⟩ : ∃ W, W = w2.setCell ⟨p0, 1, none⟩ (.int .u32 100003) := ⟨_, rfl⟩
       have z1 : V1.heap[p0]? = some (.cells (caC bx 100003 vers proc bu bg (.slice ag ng cg) (.slice ab nb cb)) 28 (0, 0)) := by rw [hV1]; exact setc z0 1 _
       have q1 : Mods (fun b => b = p0) w2 V1 := by rw [hV1]; exact q0.tr ((Mods.refl _ _).setCell p0 1 _ rfl)
       have x1c := cell_of z1 (i := 2) (v := .int .u32 vers) rfl
       have f1c := froz_of z1 2
       obtain ⟨V2, hV2⟩ : ∃ W, W = V1.setCell ⟨p0, 2, none⟩ (.int .u32 3) := ⟨_, rfl⟩
       have z2 : V2.heap[p0]? = some (.cells (caC bx 100003 3 proc bu bg (.slice ag ng cg) (.slice ab nb cb)) 28 (0, 0)) := by rw [hV2]; exact setc z1 2 _
       have q2 : Mods (fun b => b = p0) w2 V2 := by rw [hV2]; exact q1.tr ((Mods.refl _ _).setCell p0 2 _ rfl)
       have x2c := cell_of z2 (i := 3) (v := .int .u32 proc) rfl
       have f2c := froz_of z2 3
       obtain ⟨V3, hV3⟩ : ∃ W, W = V2.setCell ⟨p0, 3, none⟩ (.int .u32 pk) := ⟨_, rfl⟩
       have z3 : V3.heap[p0]? = some (.cells (caC bx 100003 3 pk bu bg (.slice ag ng cg) (.slice ab nb cb)) 28 (0, 0)) := by rw [hV3]; exact setc z2 3 _
       have q3 : Mods (fun b => b = p0) w2 V3 := by rw [hV3]; exact q2.tr ((Mods.refl _ _).setCell p0 3 _ rfl)
       have y6 := cell_of z3 (i := 6) (v := .slice ag ng cg) rfl
       have x3c := cell_of z3 (i := 2) (v := .int .u32 3) rfl
       have f3c := froz_of z3 2
       obtain ⟨V4, hV4⟩ : ∃ W, W = V3.setCell ⟨p0, 2, none⟩ (.int .u32 2) := ⟨_, rfl⟩
       have z4 : V4.heap[p0]? = some (.cells (caC bx 100003 2 pk bu bg (.slice ag ng cg) (.slice ab nb cb)) 28 (0, 0)) := by rw [hV4]; exact setc z3 2 _
       have q4 : Mods (fun b => b = p0) w2 V4 := by rw [hV4]; exact q3.tr ((Mods.refl _ _).setCell p0 2 _ rfl)
       have HZF := hid z4
       have HB2 := hid (HB1.out.trans (hb2.mono HB1.out.size))
       have HQF := hid q4
       have hV1' := hV1.symm
       have hV2' := hV2.symm
       have hV3' := hV3.symm
       have hV4' := hV4.symm
       clear hb2 HKN hV1 hV2 hV3 hV4 z0 q0 z1 q1 z2 q2 z3 q3 z4 q4)
    | (go_at_call 7
       refine (HWI.out _).mono ?_
       rintro e wi1 ⟨rfl, hwi1⟩
       rw [hwi1]
       clear hwi1))
  (try rw [hV4'])
  clear x7 x3 x0c f0c x1c f1c x2c f2c x3c f3c y6 hV1' hV2' hV3' hV4' d1 d3 hpk
  have HBW : Hid (Below w.heap.size w V4) := hid (HQF.out.to_below HB2.out HB2.out.size (fun b hb => by have h : b = p0 := hb; omega))
  have HBP0 := hid (HBY0.out.later HBW.out)
  have HUP0 : Hid (U32s V4 ag bgs) := hid (by rw [← HBG.out]; exact (HGS0.out.later HBW.out).take 16)
  have HWR := hid (Write_own V4 ⟨bx, 100003, 2, pk, ⟨bu, bg, bgs⟩, bb⟩ HOK.out ag ng cg ab nb cb HGL.out.1 HGL.out.2.2 HGL.out.2.1 HUP0.out HNB.out.1 HBP0.out (by have := HS1.out; omega) m (by rw [HLC.out]; exact HM.out))
  rw [HLC.out] at HWR
  clear HQF
  go_upto_region 23 with (first
    | (refine wpList_load_row rfl 28 _ rfl p0 rfl 28 _ (0, 0) _ HZF.out Tryd.underlying28 rfl sizeCall ?_)
    | (go_at_call 8
       refine HWR.out.mono ?_
       rintro e w7 ⟨a6, c6, rfl, hy6, hc6, hb6, hr6⟩
       have HPA := hid (Parse_any w7 (HG0.out.later (HBW.out.trans (hb6.mono HBW.out.size))) a6 m c6 LC HM.out hc6 (by have := HML.out; omega) hy6.bytes)
       have HB6 := hid (HBW.out.trans (hb6.mono HBW.out.size))
       have HB6' := hid hb6
       clear hy6 hc6 hb6 hr6 HWR)
    | (go_at_call 7
       refine (HWI.out _).mono ?_
       rintro e wi2 ⟨rfl, hwi2⟩
       rw [hwi2]
       clear hwi2 HWI)
    | (go_at_call 9
       
       refine HPA.out.mono ?_
       rintro e w8 ⟨hb8, _, hno⟩
       rw [HPP.out] at hno
       obtain ⟨gw, rfl, hwr⟩ := hno (show (35 : Int) ≠ 0 by decide)
       obtain ⟨g7, hg7⟩ : ∃ g, w8.heap.size = g := ⟨_, rfl⟩
       obtain ⟨W9, hW9⟩ : ∃ W, W = w8.alloc (.cells (caC 0 0 0 0 0 0 nilS nilS) 28) := ⟨_, rfl⟩
       obtain ⟨W10, hW10⟩ : ∃ W, W = W9.setRow g7 (caC 0 0 0 0 0 0 nilS nilS) := ⟨_, rfl⟩
       obtain ⟨t9, ht9⟩ : ∃ g, W10.heap.size = g := ⟨_, rfl⟩
       obtain ⟨W11, hW11⟩ : ∃ W, W = W10.alloc (.cells #[.pointer none] 37) := ⟨_, rfl⟩
       have b9 : Below w8.heap.size w8 W9 := by rw [hW9]; exact below_alloc (Below.refl _ _) (Nat.le_refl _) _
       have z9 : W9.heap[g7]? = some (.cells (caC 0 0 0 0 0 0 nilS nilS) 28 (0, 0)) := by rw [hW9, ← hg7]; exact alloc_new w8 _
       have q10 : Mods (fun b => b = g7) W9 W10 := by rw [hW10]; exact setRow_mods _ _ _
       have b10 : Below w8.heap.size w8 W10 := q10.to_below b9 b9.size (fun b hb => by have h : b = g7 := hb; omega)
       have b11 : Below w8.heap.size w8 W11 := by rw [hW11]; exact below_alloc b10 b10.size _
       have z11 : W11.heap[t9]? = some (.cells #[.pointer none] 37 (0, 0)) := by rw [hW11, ← ht9]; exact alloc_new W10 _
       have B8 := HB6.out.trans (hb8.mono HB6.out.size)
       have B8' := HB6'.out.trans (hb8.mono HB6'.out.size)
       have B11 := B8.trans (b11.mono B8.size)
       have B11' := B8'.trans (b11.mono B8'.size)
       have HWQ := hid (hwr.later b11)
       have HZ9 := hid z9
       have HZ11 := hid z11
       have HZP := hid ((B11'.block p0 (Array.getElem?_eq_some_iff.1 HZF.out).1).trans HZF.out)
       have HAS := hid (As_wrong gw t9 (.pointer none) W11 (HG0.out.later B11) (cell_of z11 (i := 0) rfl) (froz_of z11 0))
       have HT9 : Hid (w.heap.size ≤ t9) := hid (by have h1 := B8.size; have h2 := b10.size; omega)
       have HB11 := hid B11
       have hW9' := hW9.symm
       have hW10' := hW10.symm
       have hW11' := hW11.symm
       clear hb8 hno hwr b9 z9 q10 b10 b11 z11 B8 B8' B11 B11' hW9 hW10 hW11 HPA)
    | ((try rw [hW9'])
       refine wpList_store_row rfl 28 _ _ rfl g7 (caC 0 0 0 0 0 0 nilS nilS) rfl rfl 28 _ HZ9.out sizeCall rfl (caC_one _ _ _ _ _ _ _ _ _ _ _ _) ?_
       (try rw [hW10'])))
  (try rw [hW11'])
  go_wp2_with fail
  refine HAS.out.mono ?_
  rintro r w' ⟨rfl, w12, hb12, hw'⟩
  have hz2 := (hb12.block t9 (Array.getElem?_eq_some_iff.1 HZ11.out).1).trans HZ11.out
  have hz3 := setc hz2 0 (.pointer (some ⟨gw, 0, none⟩))
  rw [← hw'] at hz3
  have hm3 : Mods (fun b => b = t9) w12 w' := (by rw [hw']; exact (Mods.refl _ _).setCell t9 0 _ rfl)
  have yt := cell_of hz3 (i := 0) (v := .pointer (some ⟨gw, 0, none⟩)) rfl
  obtain ⟨_, ar, nr, cr, hgw, hyr, hnr, hcr⟩ := HWQ.out.later hb12
  have hgt : gw ≠ t9 := fun e => by
    rw [e, hz2] at hgw
    simp only [Option.some.injEq, Obj.cells.injEq] at hgw
    exact absurd hgw.2.1 (by decide)
  have hgw' := (hm3.block gw (Array.getElem?_eq_some_iff.1 hgw).1 hgt).trans hgw
  have hyr' := (hyr.off hz2 (by decide)).side hm3 (fun b hb _ e => hb.2 e)
  have hzp12 := (hb12.block p0 (Array.getElem?_eq_some_iff.1 HZP.out).1).trans HZP.out
  have hpt : p0 ≠ t9 := fun e => by
    rw [e, hz2] at hzp12
    simp only [Option.some.injEq, Obj.cells.injEq] at hzp12
    exact absurd hzp12.2.1 (by decide)
  have hzp := (hm3.block p0 (Array.getElem?_eq_some_iff.1 hzp12).1 hpt).trans hzp12
  have hnr2 : 32 = nr := by rw [← hnr]; simp only [nuL_len]; rfl
  subst hnr2
  have e0 := cell_of hgw' (i := 0) (v := .int .i64 35) rfl
  have e1 := cell_of hgw' (i := 1) (v := .slice ar 32 cr) rfl
  have hB12 := HB11.out.trans (hb12.mono HB11.out.size)
  have hBF := hm3.to_below hB12 hB12.size (fun b hb => by have h : b = t9 := hb; have := HT9.out; omega)
  have hA := ans_ref bx 2 (nuL 4 [3, 3]) 35 HXU.out (.inr (.inl ⟨rfl, rfl, rfl⟩))
  have hR : nuL 4 [bx, 1, 0, 0, 0, 2] ++ nuL 4 [3, 3] = nuL 4 [bx, 1, 0, 0, 0, 2, 3, 3] := by simp
  rw [hR] at hA
  have HAN := hid (Answer_any w' ar 32 cr (nuL 4 [bx, 1, 0, 0, 0, 2, 3, 3]) hnr hcr (by omega) hyr'.bytes)
  rw [hA] at HAN
  have HBF := hid hBF
  have HZP2 := hid hzp
  clear hw' hz2 hz3 hm3 hb12 hgw hyr hgt hgw' hyr' hnr hcr hzp12 hpt hzp hB12 hBF hA HAS hR
  go_wp2_with (first
    | (go_at_call 11
       refine HAN.out.mono ?_
       rintro e w14 ⟨a13, n13, c13, rfl, hy14, hn14, hc14, hb14⟩
       have en13 : 0 = n13 := hn14
       subst en13
       have hz14 := (hb14.block p0 (Array.getElem?_eq_some_iff.1 HZP2.out).1).trans HZP2.out
       have x0 := cell_of hz14 (i := 0) (v := .int .u32 bx) rfl
       have HB14 := hid (HBF.out.trans (hb14.mono HBF.out.size))
       clear hy14 hn14 hc14 hb14 hz14 HAN yt e0 e1))
  go_ret
  have hfin := HB14.out
  first | exact ⟨rfl, hfin⟩ | (rw [hp0] at hfin; exact ⟨rfl, hfin⟩)
end Go.Proofs.YtgeecahpfjllgabDoor
