/- RpcWrites: the walk. -/
import Derived.Test.YtgeecahpfjllgaaGreatDoorYnG
namespace Go.Proofs.YtgeecahpfjllgaaGreatDoor
open Go.RowKit Go.Maps
set_option linter.unusedVariables false

theorem strong_ {P : Program} {md : Region.Mode} {ops : Array Oper} {Q : Exit → Act → World → Prop} {V V1 : World} (hb : Below V.heap.size V V1) {fuel : Nat} {listed : Array Bool} {a : Act} {w : World} (h : wpAnyH P md ops Q (fun W => Below V1.heap.size V1 W) fuel listed a w) : wpAnyH P md ops Q (fun W => Below V.heap.size V W) fuel listed a w :=
  nwpAnyH_strong (fun W h => hb.trans (h.mono hb.size)) fuel listed a w h
set_option maxRecDepth 100000 in
set_option maxHeartbeats 16000000 in
theorem RpcWrites_walk (w : World) (hG : Gl w) (C : Ca) (hC : C.ok) (ag : Option Addr) (ng cg : Nat) (ab : Option Addr) (nb cb : Nat) (hng : C.cr.gids.length = ng) (hgs : U32s w ag C.cr.gids) (hgm : ng ≤ maxLen) (hgc : ng ≤ cg) (hnb : C.body.length = nb) (hb : Bytes w ab C.body) (hbc : nb ≤ cb) (x : Int) (hx : IsU x) (ay : Option Addr) (ny cy : Nat) (d : List Int) (hny : d.length = ny) (hy : Bytes w ay d) (az : Option Addr) (nz cz : Nat) (bz : List Int) (hnz : bz.length = nz) (hz : Bytes w az bz) (hzc : nz ≤ cz) :
    Calls Tryz.prog 4 #[.agg (caC C.xid C.prog C.vers C.proc C.cr.uid C.cr.gid (.slice ag ng cg) (.slice ab nb cb)), .int .u32 x, .slice ay ny cy, .slice az nz cz] w fun e w' => e = .returned (.bool true) ∧ Below w.heap.size w w' := by
  obtain ⟨LC, hLC⟩ : ∃ l, callL C = l := ⟨_, rfl⟩
  obtain ⟨m, hm⟩ : ∃ m, LC.length = m := ⟨_, rfl⟩
  have HWP : Hid (∀ W, Below w.heap.size w W → nb ≤ 16384 → Calls Tryz.prog 11 #[.agg (caC C.xid C.prog C.vers C.proc C.cr.uid C.cr.gid (.slice ag ng cg) (.slice ab nb cb))] W fun e w' => ∃ a2 c2, e = .returned (.slice a2 m c2) ∧ By w' (New W) a2 LC ∧ m ≤ c2 ∧ Below W.heap.size W w') := hid (fun W hW h9 => by rw [← hLC]; exact Write_any W C hC ag ng cg ab nb cb hng hgc hgm (hgs.later hW) hnb (hb.later hW) (by omega) m (by rw [hLC]; exact hm))
  have HWD : Hid (∀ W, Below w.heap.size w W → nb ≤ 16384 → Calls Tryz.prog 6 #[.agg (caC C.xid C.prog C.vers C.proc C.cr.uid C.cr.gid (.slice ag ng cg) (.slice ab nb cb))] W fun e w' => ∃ a2 c2, e = .returned (.slice a2 m c2) ∧ By w' (New W) a2 LC ∧ Below W.heap.size W w') := hid (fun W hW h9 => by rw [← hLC]; exact dWrite_any W C hC ag ng cg ab nb cb hng hgc hgm (hgs.later hW) hnb (hb.later hW) (by omega) m (by rw [hLC]; exact hm))
  obtain ⟨xid, prog, vers, proc, ⟨u, g, gs⟩, body⟩ := C
  simp only at HWP HWD hng hgs hnb hb
  simp only
  have HM := hid hm
  clear hLC hm hC
  obtain ⟨SB, hSB⟩ : ∃ s, strOfNums LC = s := ⟨_, rfl⟩
  have HSB := hid hSB
  obtain ⟨SS, hSS⟩ : ∃ s, strOfNums (sucL x d) = s := ⟨_, rfl⟩
  have HSS := hid hSS
  obtain ⟨SG, hSG⟩ : ∃ s, strOfNums (garL x) = s := ⟨_, rfl⟩
  have HSG := hid hSG
  obtain ⟨⟨vx, vl, ve⟩, hAN⟩ : ∃ t, ansP bz = t := ⟨_, rfl⟩
  have HAN := hid hAN
  obtain ⟨SL, hSL⟩ : ∃ s, strOfNums vl = s := ⟨_, rfl⟩
  have HSL := hid hSL
  clear hSB hSS hSG hAN hSL
  have hlu : (sucL x d).length = 24 + ny := by rw [← hny]; unfold sucL; rw [List.length_append, nuL_len]; rfl
  have hlg : (garL x).length = 24 := by unfold garL; rw [nuL_len]; rfl
  obtain ⟨p0, hp0⟩ : ∃ g, w.heap.size = g := ⟨_, rfl⟩
  obtain ⟨W1, hW1⟩ : ∃ W, W = w.alloc (.cells (caC xid prog vers proc u g (.slice ag ng cg) (.slice ab nb cb)) 28) := ⟨_, rfl⟩
  have b1 : Below w.heap.size w W1 := by rw [hW1]; exact below_alloc (Below.refl _ _) (Nat.le_refl _) _
  have z1 : W1.heap[p0]? = some (.cells (caC xid prog vers proc u g (.slice ag ng cg) (.slice ab nb cb)) 28 (0, 0)) := by rw [hW1, ← hp0]; exact alloc_new w _
  have HKN := hid (known17 W1 (hG.later b1))
  have HZ1 := hid z1
  have HB1 := hid b1
  have HDY := hid hy
  have HDZ := hid hz
  have HNY := hid hny
  have HNZ := hid (And.intro hnz hzc)
  have HX := hid hx
  have HLU := hid hlu
  have HLG := hid hlg
  have hW1' := hW1.symm
  clear b1 z1 hW1 hG hgs hb hy hz hng hgm hgc hnb hbc hny hnz hzc hx hlu hlg
  by_cases hs1 : 16384 < nb
  · have q1 : (16384 : Int) < (nb : Nat) := by omega
    clear hs1
    go_enter Tryz.func4, Tryz.ntmps4
    go_wp2_with (first
        | (go_at_call 5
           (try rw [hW1'])
           refine HKN.out.mono ?_
           rintro e w2 ⟨rfl, hb2⟩
           have hz2 := (hb2.block p0 (Array.getElem?_eq_some_iff.1 HZ1.out).1).trans HZ1.out
           have x7 := cell_of hz2 (i := 7) (v := .slice ab nb cb) rfl
           have HZ2 := hid hz2
           have HB2 := hid (HB1.out.trans (hb2.mono HB1.out.size))
           skip
           clear hb2 hz2 HKN))
    go_ret
    exact ⟨rfl, HB2.out⟩
  · have d1 : decide ((16384 : Int) < (nb : Nat)) = false := decide_eq_false (by omega)
    by_cases hs2 : 16384 < ny
    · have q2 : (16384 : Int) < (ny : Nat) := by omega
      clear hs2
      go_enter Tryz.func4, Tryz.ntmps4
      go_wp2_with (first
          | (go_at_call 5
             (try rw [hW1'])
             refine HKN.out.mono ?_
             rintro e w2 ⟨rfl, hb2⟩
             have hz2 := (hb2.block p0 (Array.getElem?_eq_some_iff.1 HZ1.out).1).trans HZ1.out
             have x7 := cell_of hz2 (i := 7) (v := .slice ab nb cb) rfl
             have HZ2 := hid hz2
             have HB2 := hid (HB1.out.trans (hb2.mono HB1.out.size))
             skip
             clear hb2 hz2 HKN))
      go_ret
      exact ⟨rfl, HB2.out⟩
    · have d2 : decide ((16384 : Int) < (ny : Nat)) = false := decide_eq_false (by omega)
      by_cases hs3 : 16384 < nz
      · have q3 : (16384 : Int) < (nz : Nat) := by omega
        clear hs3
        go_enter Tryz.func4, Tryz.ntmps4
        go_wp2_with (first
            | (go_at_call 5
               (try rw [hW1'])
               refine HKN.out.mono ?_
               rintro e w2 ⟨rfl, hb2⟩
               have hz2 := (hb2.block p0 (Array.getElem?_eq_some_iff.1 HZ1.out).1).trans HZ1.out
               have x7 := cell_of hz2 (i := 7) (v := .slice ab nb cb) rfl
               have HZ2 := hid hz2
               have HB2 := hid (HB1.out.trans (hb2.mono HB1.out.size))
               skip
               clear hb2 hz2 HKN))
        go_ret
        exact ⟨rfl, HB2.out⟩
      · have d3 : decide ((16384 : Int) < (nz : Nat)) = false := decide_eq_false (by omega)
        go_enter Tryz.func4, Tryz.ntmps4
        go_upto_region 7 with (first
            | (go_at_call 5
               (try rw [hW1'])
               refine HKN.out.mono ?_
               rintro e w2 ⟨rfl, hb2⟩
               have hz2 := (hb2.block p0 (Array.getElem?_eq_some_iff.1 HZ1.out).1).trans HZ1.out
               have x7 := cell_of hz2 (i := 7) (v := .slice ab nb cb) rfl
               have HZ2 := hid hz2
               have HB2 := hid (HB1.out.trans (hb2.mono HB1.out.size))
               obtain ⟨a3, c3, w3, hap, hy3, hc3, hb3⟩ := own_copy w2 az nz cz bz HNZ.out.1 (HDZ.out.later HB2.out) (by omega) 26
               have HAP := hid hap
               have HB3 := hid (HB2.out.trans (hb3.mono HB2.out.size))
               have HB3' := hid hb3
               have HA1 := hid (Answer_any w3 a3 nz c3 bz HNZ.out.1 hc3 (by omega) hy3.bytes)
               rw [HAN.out] at HA1
               clear hap hy3 hc3 hb3
               clear hb2 hz2 HKN)
            | (at_builtin
               refine wpList_append_run rfl _ _ 26 rfl rfl rfl HAP.out ?_
               clear HAP)
            | (go_at_call 9
               refine HA1.out.mono ?_
               rintro e w4 ⟨a4, n4, c4, rfl, hy4, hn4, hc4, hb4⟩
               simp only at hy4 hn4
               have HY4 := hid hy4.bytes
               have HN4 := hid hn4
               have HB4 := hid (HB3.out.trans (hb4.mono HB3.out.size))
               have HB4' := hid (HB3'.out.trans (hb4.mono HB3'.out.size))
               have HA2 := hid (dAnswer_any w4 az nz cz bz HNZ.out.1 HNZ.out.2 (by omega) (HDZ.out.later HB4.out))
               rw [HAN.out] at HA2
               clear hy4 hn4 hc4 hb4 HA1 HB3 HB3')
            | (go_at_call 10
               refine HA2.out.mono ?_
               rintro e w5 ⟨a5, n5, c5, rfl, hy5, hn5, hc5, hb5⟩
               simp only at hy5 hn5
               have HY5 := hid hy5.bytes
               have HN5 := hid hn5
               have HY45 := hid (HY4.out.later hb5)
               have HB5 := hid (HB4.out.trans (hb5.mono HB4.out.size))
               have HB5' := hid (HB4'.out.trans (hb5.mono HB4'.out.size))
               clear hy5 hn5 hc5 hb5 HA2))
        have HZ5 := hid ((HB5'.out.block p0 (Array.getElem?_eq_some_iff.1 HZ2.out).1).trans HZ2.out)
        refine wp_region_held_drew (S := fun W => Below w5.drew.heap.size w5.drew W) (by kernel_rfl) (Below.refl _ _) (fun hS => ?_)
        obtain ⟨V, hV⟩ : ∃ W, W = w5.drew := ⟨_, rfl⟩
        have hbv : Below w5.heap.size w5 V := by rw [hV]; exact (Below.refl _ _).drew
        rw [← hV] at hS ⊢
        have HSN := hid hS
        have HZP := hid ((hbv.block p0 (Array.getElem?_eq_some_iff.1 HZ5.out).1).trans HZ5.out)
        have HBV := hid (HB5.out.trans (hbv.mono HB5.out.size))
        have HV4 := hid (HY45.out.later hbv)
        have HV5 := hid (HY5.out.later hbv)
        have hnb9 : nb ≤ 16384 := by omega
        clear hV hbv hS
        refine nany_take 0 45 (.agg (caC xid prog vers proc u g (.slice ag ng cg) (.slice ab nb cb))) rfl rfl (by kernel_rfl) (by kernel_rfl) (by kernel_rfl) (fun _ _ _ h => h) (Or.inl ⟨by rfl, ?_⟩) HSN.out ?_
        · rintro w' hS'
          exact ex_load 28 _ rfl p0 rfl 28 _ (0, 0) _ ((hS'.block p0 (Array.getElem?_eq_some_iff.1 HZP.out).1).trans HZP.out) Tryz.underlying28 sizeCall
        try simp only [List.setIfInBounds_toArray, List.set_cons_zero, List.set_cons_succ]
        refine nany_take 3 48 (.agg (caC xid prog vers proc u g (.slice ag ng cg) (.slice ab nb cb))) rfl rfl (by kernel_rfl) (by kernel_rfl) (by kernel_rfl) (fun _ _ _ h => h) (Or.inl ⟨by rfl, ?_⟩) HSN.out ?_
        · rintro w' hS'
          exact ex_load 28 _ rfl p0 rfl 28 _ (0, 0) _ ((hS'.block p0 (Array.getElem?_eq_some_iff.1 HZP.out).1).trans HZP.out) Tryz.underlying28 sizeCall
        try simp only [List.setIfInBounds_toArray, List.set_cons_zero, List.set_cons_succ]
        refine nany_one 1 (by kernel_rfl) ?_
        refine nop_callE 46 (f := 11) (args := #[.agg (caC xid prog vers proc u g (.slice ag ng cg) (.slice ab nb cb))]) (R := fun v w' => (∃ a2 c2, v = .slice a2 m c2 ∧ Bytes w' a2 LC) ∧ Below V.heap.size V w') rfl (by rfl) rfl (by go_simp) ((HWP.out V HBV.out hnb9).mono (fun e w' ⟨a2, c2, h1, h2, h3, h4⟩ => ⟨_, h1, ⟨a2, c2, rfl, h2.bytes⟩, h4⟩)) ?_
        rintro v V1 ⟨⟨a6, c6, rfl, hy6⟩, hbn⟩
        refine ⟨hbn, ?_⟩
        try simp only [List.setIfInBounds_toArray, List.set_cons_zero, List.set_cons_succ]
        have HC6 := hid hy6
        clear hy6
        refine strong_ hbn ?_
        have HZQ := hid ((hbn.block p0 (Array.getElem?_eq_some_iff.1 HZP.out).1).trans HZP.out)
        clear HZP
        have HZP := HZQ
        clear HZQ
        have HBW := hid (HBV.out.trans (hbn.mono HBV.out.size))
        clear HBV
        have HBV := HBW
        clear HBW
        clear HSN
        have HSN := hid (Below.refl V1.heap.size V1)
        have HV4q := hid (HV4.out.later hbn)
        clear HV4
        have HV4 := HV4q
        clear HV4q
        have HV5q := hid (HV5.out.later hbn)
        clear HV5
        have HV5 := HV5q
        clear HV5q
        clear hbn
        refine nany_take 2 47 (.string SB) rfl rfl (by kernel_rfl) (by kernel_rfl) (by kernel_rfl) (fun _ _ _ h => h) (Or.inl ⟨by rfl, ?_⟩) HSN.out ?_
        · rintro w' hS'
          have cv := conv0 (HC6.out.later hS') HM.out (cap := c6)
          rw [HSB.out] at cv
          go_simp
        try simp only [List.setIfInBounds_toArray, List.set_cons_zero, List.set_cons_succ]
        refine nany_one 4 (by kernel_rfl) ?_
        refine nop_callE 49 (f := 7) (args := #[.agg (caC xid prog vers proc u g (.slice ag ng cg) (.slice ab nb cb))]) (R := fun v w' => v = .agg (caC xid prog vers proc u g (.slice ag ng cg) (.slice ab nb cb)) ∧ Below V1.heap.size V1 w') rfl (by rfl) rfl (by go_simp) ((theirs_any V1 xid prog vers proc u g ag ng cg ab nb cb).mono (fun e w' ⟨h1, h2⟩ => ⟨_, h1, rfl, h2⟩)) ?_
        rintro v V2 ⟨rfl, hbn⟩
        refine ⟨hbn, ?_⟩
        try simp only [List.setIfInBounds_toArray, List.set_cons_zero, List.set_cons_succ]
        refine strong_ hbn ?_
        have HZQ := hid ((hbn.block p0 (Array.getElem?_eq_some_iff.1 HZP.out).1).trans HZP.out)
        clear HZP
        have HZP := HZQ
        clear HZQ
        have HBW := hid (HBV.out.trans (hbn.mono HBV.out.size))
        clear HBV
        have HBV := HBW
        clear HBW
        clear HSN
        have HSN := hid (Below.refl V2.heap.size V2)
        have HV4q := hid (HV4.out.later hbn)
        clear HV4
        have HV4 := HV4q
        clear HV4q
        have HV5q := hid (HV5.out.later hbn)
        clear HV5
        have HV5 := HV5q
        clear HV5q
        clear hbn
        refine nany_one 5 (by kernel_rfl) ?_
        refine nop_callE 50 (f := 6) (args := #[.agg (caC xid prog vers proc u g (.slice ag ng cg) (.slice ab nb cb))]) (R := fun v w' => (∃ a2 c2, v = .slice a2 m c2 ∧ Bytes w' a2 LC) ∧ Below V2.heap.size V2 w') rfl (by rfl) rfl (by go_simp) ((HWD.out V2 HBV.out hnb9).mono (fun e w' ⟨a2, c2, h1, h2, h4⟩ => ⟨_, h1, ⟨a2, c2, rfl, h2.bytes⟩, h4⟩)) ?_
        rintro v V3 ⟨⟨a7, c7, rfl, hy7⟩, hbn⟩
        refine ⟨hbn, ?_⟩
        try simp only [List.setIfInBounds_toArray, List.set_cons_zero, List.set_cons_succ]
        have HC7 := hid hy7
        clear hy7
        refine strong_ hbn ?_
        have HZQ := hid ((hbn.block p0 (Array.getElem?_eq_some_iff.1 HZP.out).1).trans HZP.out)
        clear HZP
        have HZP := HZQ
        clear HZQ
        have HBW := hid (HBV.out.trans (hbn.mono HBV.out.size))
        clear HBV
        have HBV := HBW
        clear HBW
        clear HSN
        have HSN := hid (Below.refl V3.heap.size V3)
        have HV4q := hid (HV4.out.later hbn)
        clear HV4
        have HV4 := HV4q
        clear HV4q
        have HV5q := hid (HV5.out.later hbn)
        clear HV5
        have HV5 := HV5q
        clear HV5q
        clear hbn
        refine nany_take 6 51 (.string SB) rfl rfl (by kernel_rfl) (by kernel_rfl) (by kernel_rfl) (fun _ _ _ h => h) (Or.inl ⟨by rfl, ?_⟩) HSN.out ?_
        · rintro w' hS'
          have cv := conv0 (HC7.out.later hS') HM.out (cap := c7)
          rw [HSB.out] at cv
          go_simp
        try simp only [List.setIfInBounds_toArray, List.set_cons_zero, List.set_cons_succ]
        refine nany_take 7 52 (.bool true) rfl rfl (by kernel_rfl) (by kernel_rfl) (by kernel_rfl) (fun _ _ _ h => h) (Or.inl ⟨by rfl, ?_⟩) HSN.out ?_
        · rintro w' hS'
          go_simp
        try simp only [List.setIfInBounds_toArray, List.set_cons_zero, List.set_cons_succ]
        refine nany_take 8 53 (.bool true) rfl rfl (by kernel_rfl) (by kernel_rfl) (by kernel_rfl) (fun _ _ _ h => h) (Or.inl ⟨by rfl, ?_⟩) HSN.out ?_
        · rintro w' hS'
          go_simp
        try simp only [List.setIfInBounds_toArray, List.set_cons_zero, List.set_cons_succ]
        refine nany_take 9 54 (.int .u32 x) rfl rfl (by kernel_rfl) (by kernel_rfl) (by kernel_rfl) (fun _ _ _ h => h) (Or.inl ⟨by rfl, ?_⟩) HSN.out ?_
        · rintro w' hS'
          go_simp
        try simp only [List.setIfInBounds_toArray, List.set_cons_zero, List.set_cons_succ]
        refine nany_take 10 55 (.slice ay ny cy) rfl rfl (by kernel_rfl) (by kernel_rfl) (by kernel_rfl) (fun _ _ _ h => h) (Or.inl ⟨by rfl, ?_⟩) HSN.out ?_
        · rintro w' hS'
          go_simp
        try simp only [List.setIfInBounds_toArray, List.set_cons_zero, List.set_cons_succ]
        refine nany_take 13 58 (.int .u32 x) rfl rfl (by kernel_rfl) (by kernel_rfl) (by kernel_rfl) (fun _ _ _ h => h) (Or.inl ⟨by rfl, ?_⟩) HSN.out ?_
        · rintro w' hS'
          go_simp
        try simp only [List.setIfInBounds_toArray, List.set_cons_zero, List.set_cons_succ]
        refine nany_take 14 59 (.slice ay ny cy) rfl rfl (by kernel_rfl) (by kernel_rfl) (by kernel_rfl) (fun _ _ _ h => h) (Or.inl ⟨by rfl, ?_⟩) HSN.out ?_
        · rintro w' hS'
          go_simp
        try simp only [List.setIfInBounds_toArray, List.set_cons_zero, List.set_cons_succ]
        refine nany_one 11 (by kernel_rfl) ?_
        refine nop_callE 56 (f := 12) (args := #[.int .u32 x, .slice ay ny cy]) (R := fun v w' => (∃ a2 c2, v = .slice a2 (24 + ny) c2 ∧ Bytes w' a2 (sucL x d)) ∧ Below V3.heap.size V3 w') rfl (by rfl) rfl (by go_simp) ((Success_any V3 x HX.out ay ny cy d HNY.out (HDY.out.later HBV.out) (by omega) (24 + ny) rfl).mono (fun e w' ⟨a2, c2, h1, h2, h3, h4⟩ => ⟨_, h1, ⟨a2, c2, rfl, h2.bytes⟩, h4⟩)) ?_
        rintro v V4 ⟨⟨a8, c8, rfl, hy8⟩, hbn⟩
        refine ⟨hbn, ?_⟩
        try simp only [List.setIfInBounds_toArray, List.set_cons_zero, List.set_cons_succ]
        have HC8 := hid hy8
        clear hy8
        refine strong_ hbn ?_
        have HZQ := hid ((hbn.block p0 (Array.getElem?_eq_some_iff.1 HZP.out).1).trans HZP.out)
        clear HZP
        have HZP := HZQ
        clear HZQ
        have HBW := hid (HBV.out.trans (hbn.mono HBV.out.size))
        clear HBV
        have HBV := HBW
        clear HBW
        clear HSN
        have HSN := hid (Below.refl V4.heap.size V4)
        have HV4q := hid (HV4.out.later hbn)
        clear HV4
        have HV4 := HV4q
        clear HV4q
        have HV5q := hid (HV5.out.later hbn)
        clear HV5
        have HV5 := HV5q
        clear HV5q
        clear hbn
        refine nany_take 12 57 (.string SS) rfl rfl (by kernel_rfl) (by kernel_rfl) (by kernel_rfl) (fun _ _ _ h => h) (Or.inl ⟨by rfl, ?_⟩) HSN.out ?_
        · rintro w' hS'
          have cv := conv0 (HC8.out.later hS') HLU.out (cap := c8)
          rw [HSS.out] at cv
          go_simp
        try simp only [List.setIfInBounds_toArray, List.set_cons_zero, List.set_cons_succ]
        refine nany_one 15 (by kernel_rfl) ?_
        refine nop_callE 60 (f := 13) (args := #[.int .u32 x, .slice ay ny cy]) (R := fun v w' => (∃ a2 c2, v = .slice a2 (24 + ny) c2 ∧ Bytes w' a2 (sucL x d)) ∧ Below V4.heap.size V4 w') rfl (by rfl) rfl (by go_simp) ((dSuccess_any V4 x HX.out ay ny cy d HNY.out (HDY.out.later HBV.out) (by omega) (24 + ny) rfl).mono (fun e w' ⟨a2, c2, h1, h2, h4⟩ => ⟨_, h1, ⟨a2, c2, rfl, h2.bytes⟩, h4⟩)) ?_
        rintro v V5 ⟨⟨a9, c9, rfl, hy9⟩, hbn⟩
        refine ⟨hbn, ?_⟩
        try simp only [List.setIfInBounds_toArray, List.set_cons_zero, List.set_cons_succ]
        have HC9 := hid hy9
        clear hy9
        refine strong_ hbn ?_
        have HZQ := hid ((hbn.block p0 (Array.getElem?_eq_some_iff.1 HZP.out).1).trans HZP.out)
        clear HZP
        have HZP := HZQ
        clear HZQ
        have HBW := hid (HBV.out.trans (hbn.mono HBV.out.size))
        clear HBV
        have HBV := HBW
        clear HBW
        clear HSN
        have HSN := hid (Below.refl V5.heap.size V5)
        have HV4q := hid (HV4.out.later hbn)
        clear HV4
        have HV4 := HV4q
        clear HV4q
        have HV5q := hid (HV5.out.later hbn)
        clear HV5
        have HV5 := HV5q
        clear HV5q
        clear hbn
        refine nany_take 16 61 (.string SS) rfl rfl (by kernel_rfl) (by kernel_rfl) (by kernel_rfl) (fun _ _ _ h => h) (Or.inl ⟨by rfl, ?_⟩) HSN.out ?_
        · rintro w' hS'
          have cv := conv0 (HC9.out.later hS') HLU.out (cap := c9)
          rw [HSS.out] at cv
          go_simp
        try simp only [List.setIfInBounds_toArray, List.set_cons_zero, List.set_cons_succ]
        refine nany_take 17 62 (.bool true) rfl rfl (by kernel_rfl) (by kernel_rfl) (by kernel_rfl) (fun _ _ _ h => h) (Or.inl ⟨by rfl, ?_⟩) HSN.out ?_
        · rintro w' hS'
          go_simp
        try simp only [List.setIfInBounds_toArray, List.set_cons_zero, List.set_cons_succ]
        refine nany_take 18 63 (.bool true) rfl rfl (by kernel_rfl) (by kernel_rfl) (by kernel_rfl) (fun _ _ _ h => h) (Or.inl ⟨by rfl, ?_⟩) HSN.out ?_
        · rintro w' hS'
          go_simp
        try simp only [List.setIfInBounds_toArray, List.set_cons_zero, List.set_cons_succ]
        refine nany_take 19 64 (.bool true) rfl rfl (by kernel_rfl) (by kernel_rfl) (by kernel_rfl) (fun _ _ _ h => h) (Or.inl ⟨by rfl, ?_⟩) HSN.out ?_
        · rintro w' hS'
          go_simp
        try simp only [List.setIfInBounds_toArray, List.set_cons_zero, List.set_cons_succ]
        refine nany_take 20 65 (.int .u32 x) rfl rfl (by kernel_rfl) (by kernel_rfl) (by kernel_rfl) (fun _ _ _ h => h) (Or.inl ⟨by rfl, ?_⟩) HSN.out ?_
        · rintro w' hS'
          go_simp
        try simp only [List.setIfInBounds_toArray, List.set_cons_zero, List.set_cons_succ]
        refine nany_take 23 68 (.int .u32 x) rfl rfl (by kernel_rfl) (by kernel_rfl) (by kernel_rfl) (fun _ _ _ h => h) (Or.inl ⟨by rfl, ?_⟩) HSN.out ?_
        · rintro w' hS'
          go_simp
        try simp only [List.setIfInBounds_toArray, List.set_cons_zero, List.set_cons_succ]
        refine nany_one 21 (by kernel_rfl) ?_
        refine nop_callE 66 (f := 14) (args := #[.int .u32 x]) (R := fun v w' => (∃ a2 c2, v = .slice a2 24 c2 ∧ Bytes w' a2 (garL x)) ∧ Below V5.heap.size V5 w') rfl (by rfl) rfl (by go_simp) ((Garbage_any V5 x HX.out).mono (fun e w' h => let ⟨a2, c2, h1, h2, h3, h4⟩ := h.by_ (nuL_isB 4 _); ⟨_, h1, ⟨a2, c2, rfl, h2.bytes⟩, h4⟩)) ?_
        rintro v V6 ⟨⟨a10, c10, rfl, hy10⟩, hbn⟩
        refine ⟨hbn, ?_⟩
        try simp only [List.setIfInBounds_toArray, List.set_cons_zero, List.set_cons_succ]
        have HC10 := hid hy10
        clear hy10
        refine strong_ hbn ?_
        have HZQ := hid ((hbn.block p0 (Array.getElem?_eq_some_iff.1 HZP.out).1).trans HZP.out)
        clear HZP
        have HZP := HZQ
        clear HZQ
        have HBW := hid (HBV.out.trans (hbn.mono HBV.out.size))
        clear HBV
        have HBV := HBW
        clear HBW
        clear HSN
        have HSN := hid (Below.refl V6.heap.size V6)
        have HV4q := hid (HV4.out.later hbn)
        clear HV4
        have HV4 := HV4q
        clear HV4q
        have HV5q := hid (HV5.out.later hbn)
        clear HV5
        have HV5 := HV5q
        clear HV5q
        clear hbn
        refine nany_take 22 67 (.string SG) rfl rfl (by kernel_rfl) (by kernel_rfl) (by kernel_rfl) (fun _ _ _ h => h) (Or.inl ⟨by rfl, ?_⟩) HSN.out ?_
        · rintro w' hS'
          have cv := conv0 (HC10.out.later hS') HLG.out (cap := c10)
          rw [HSG.out] at cv
          go_simp
        try simp only [List.setIfInBounds_toArray, List.set_cons_zero, List.set_cons_succ]
        refine nany_one 24 (by kernel_rfl) ?_
        refine nop_callE 69 (f := 15) (args := #[.int .u32 x]) (R := fun v w' => (∃ a2 c2, v = .slice a2 24 c2 ∧ Bytes w' a2 (garL x)) ∧ Below V6.heap.size V6 w') rfl (by rfl) rfl (by go_simp) ((dGarbage_any V6 x HX.out).mono (fun e w' ⟨a2, c2, h1, h2, h4⟩ => ⟨_, h1, ⟨a2, c2, rfl, h2.bytes⟩, h4⟩)) ?_
        rintro v V7 ⟨⟨a11, c11, rfl, hy11⟩, hbn⟩
        refine ⟨hbn, ?_⟩
        try simp only [List.setIfInBounds_toArray, List.set_cons_zero, List.set_cons_succ]
        have HC11 := hid hy11
        clear hy11
        refine strong_ hbn ?_
        have HZQ := hid ((hbn.block p0 (Array.getElem?_eq_some_iff.1 HZP.out).1).trans HZP.out)
        clear HZP
        have HZP := HZQ
        clear HZQ
        have HBW := hid (HBV.out.trans (hbn.mono HBV.out.size))
        clear HBV
        have HBV := HBW
        clear HBW
        clear HSN
        have HSN := hid (Below.refl V7.heap.size V7)
        have HV4q := hid (HV4.out.later hbn)
        clear HV4
        have HV4 := HV4q
        clear HV4q
        have HV5q := hid (HV5.out.later hbn)
        clear HV5
        have HV5 := HV5q
        clear HV5q
        clear hbn
        refine nany_take 25 70 (.string SG) rfl rfl (by kernel_rfl) (by kernel_rfl) (by kernel_rfl) (fun _ _ _ h => h) (Or.inl ⟨by rfl, ?_⟩) HSN.out ?_
        · rintro w' hS'
          have cv := conv0 (HC11.out.later hS') HLG.out (cap := c11)
          rw [HSG.out] at cv
          go_simp
        try simp only [List.setIfInBounds_toArray, List.set_cons_zero, List.set_cons_succ]
        refine nany_take 26 71 (.bool true) rfl rfl (by kernel_rfl) (by kernel_rfl) (by kernel_rfl) (fun _ _ _ h => h) (Or.inl ⟨by rfl, ?_⟩) HSN.out ?_
        · rintro w' hS'
          go_simp
        try simp only [List.setIfInBounds_toArray, List.set_cons_zero, List.set_cons_succ]
        refine nany_take 27 72 (.bool true) rfl rfl (by kernel_rfl) (by kernel_rfl) (by kernel_rfl) (fun _ _ _ h => h) (Or.inl ⟨by rfl, ?_⟩) HSN.out ?_
        · rintro w' hS'
          go_simp
        try simp only [List.setIfInBounds_toArray, List.set_cons_zero, List.set_cons_succ]
        refine nany_take 28 73 (.bool true) rfl rfl (by kernel_rfl) (by kernel_rfl) (by kernel_rfl) (fun _ _ _ h => h) (Or.inl ⟨by rfl, ?_⟩) HSN.out ?_
        · rintro w' hS'
          go_simp
        try simp only [List.setIfInBounds_toArray, List.set_cons_zero, List.set_cons_succ]
        refine nany_take 29 74 (.int .u32 vx) rfl rfl (by kernel_rfl) (by kernel_rfl) (by kernel_rfl) (fun _ _ _ h => h) (Or.inl ⟨by rfl, ?_⟩) HSN.out ?_
        · rintro w' hS'
          go_simp
        try simp only [List.setIfInBounds_toArray, List.set_cons_zero, List.set_cons_succ]
        refine nany_take 30 75 (.int .u32 vx) rfl rfl (by kernel_rfl) (by kernel_rfl) (by kernel_rfl) (fun _ _ _ h => h) (Or.inl ⟨by rfl, ?_⟩) HSN.out ?_
        · rintro w' hS'
          go_simp
        try simp only [List.setIfInBounds_toArray, List.set_cons_zero, List.set_cons_succ]
        refine nany_take 31 76 (.bool true) rfl rfl (by kernel_rfl) (by kernel_rfl) (by kernel_rfl) (fun _ _ _ h => h) (Or.inl ⟨by rfl, ?_⟩) HSN.out ?_
        · rintro w' hS'
          go_simp
        try simp only [List.setIfInBounds_toArray, List.set_cons_zero, List.set_cons_succ]
        refine nany_take 32 77 (.bool true) rfl rfl (by kernel_rfl) (by kernel_rfl) (by kernel_rfl) (fun _ _ _ h => h) (Or.inl ⟨by rfl, ?_⟩) HSN.out ?_
        · rintro w' hS'
          go_simp
        try simp only [List.setIfInBounds_toArray, List.set_cons_zero, List.set_cons_succ]
        refine nany_take 33 78 (.bool true) rfl rfl (by kernel_rfl) (by kernel_rfl) (by kernel_rfl) (fun _ _ _ h => h) (Or.inl ⟨by rfl, ?_⟩) HSN.out ?_
        · rintro w' hS'
          go_simp
        try simp only [List.setIfInBounds_toArray, List.set_cons_zero, List.set_cons_succ]
        refine nany_take 34 79 (.slice a4 n4 c4) rfl rfl (by kernel_rfl) (by kernel_rfl) (by kernel_rfl) (fun _ _ _ h => h) (Or.inl ⟨by rfl, ?_⟩) HSN.out ?_
        · rintro w' hS'
          go_simp
        try simp only [List.setIfInBounds_toArray, List.set_cons_zero, List.set_cons_succ]
        refine nany_take 35 80 (.string SL) rfl rfl (by kernel_rfl) (by kernel_rfl) (by kernel_rfl) (fun _ _ _ h => h) (Or.inl ⟨by rfl, ?_⟩) HSN.out ?_
        · rintro w' hS'
          have cv := conv0 (HV4.out.later hS') HN4.out (cap := c4)
          rw [HSL.out] at cv
          go_simp
        try simp only [List.setIfInBounds_toArray, List.set_cons_zero, List.set_cons_succ]
        refine nany_take 36 81 (.slice a5 n5 c5) rfl rfl (by kernel_rfl) (by kernel_rfl) (by kernel_rfl) (fun _ _ _ h => h) (Or.inl ⟨by rfl, ?_⟩) HSN.out ?_
        · rintro w' hS'
          go_simp
        try simp only [List.setIfInBounds_toArray, List.set_cons_zero, List.set_cons_succ]
        refine nany_take 37 82 (.string SL) rfl rfl (by kernel_rfl) (by kernel_rfl) (by kernel_rfl) (fun _ _ _ h => h) (Or.inl ⟨by rfl, ?_⟩) HSN.out ?_
        · rintro w' hS'
          have cv := conv0 (HV5.out.later hS') HN5.out (cap := c5)
          rw [HSL.out] at cv
          go_simp
        try simp only [List.setIfInBounds_toArray, List.set_cons_zero, List.set_cons_succ]
        refine nany_take 38 83 (.bool true) rfl rfl (by kernel_rfl) (by kernel_rfl) (by kernel_rfl) (fun _ _ _ h => h) (Or.inl ⟨by rfl, ?_⟩) HSN.out ?_
        · rintro w' hS'
          go_simp
        try simp only [List.setIfInBounds_toArray, List.set_cons_zero, List.set_cons_succ]
        refine nany_take 39 84 (.bool true) rfl rfl (by kernel_rfl) (by kernel_rfl) (by kernel_rfl) (fun _ _ _ h => h) (Or.inl ⟨by rfl, ?_⟩) HSN.out ?_
        · rintro w' hS'
          go_simp
        try simp only [List.setIfInBounds_toArray, List.set_cons_zero, List.set_cons_succ]
        refine nany_take 40 85 (.bool true) rfl rfl (by kernel_rfl) (by kernel_rfl) (by kernel_rfl) (fun _ _ _ h => h) (Or.inl ⟨by rfl, ?_⟩) HSN.out ?_
        · rintro w' hS'
          go_simp
        try simp only [List.setIfInBounds_toArray, List.set_cons_zero, List.set_cons_succ]
        refine nany_take 41 86 (.int .i64 ve) rfl rfl (by kernel_rfl) (by kernel_rfl) (by kernel_rfl) (fun _ _ _ h => h) (Or.inl ⟨by rfl, ?_⟩) HSN.out ?_
        · rintro w' hS'
          go_simp
        try simp only [List.setIfInBounds_toArray, List.set_cons_zero, List.set_cons_succ]
        refine nany_take 42 87 (.int .i64 ve) rfl rfl (by kernel_rfl) (by kernel_rfl) (by kernel_rfl) (fun _ _ _ h => h) (Or.inl ⟨by rfl, ?_⟩) HSN.out ?_
        · rintro w' hS'
          go_simp
        try simp only [List.setIfInBounds_toArray, List.set_cons_zero, List.set_cons_succ]
        refine nany_take 43 88 (.bool true) rfl rfl (by kernel_rfl) (by kernel_rfl) (by kernel_rfl) (fun _ _ _ h => h) (Or.inl ⟨by rfl, ?_⟩) HSN.out ?_
        · rintro w' hS'
          go_simp
        try simp only [List.setIfInBounds_toArray, List.set_cons_zero, List.set_cons_succ]
        refine nany_take 44 89 (.bool true) rfl rfl (by kernel_rfl) (by kernel_rfl) (by kernel_rfl) (fun _ _ _ h => h) (Or.inl ⟨by rfl, ?_⟩) HSN.out ?_
        · rintro w' hS'
          go_simp
        try simp only [List.setIfInBounds_toArray, List.set_cons_zero, List.set_cons_succ]
        refine nany_take 45 8 (.bool true) rfl rfl (by kernel_rfl) (by kernel_rfl) (by kernel_rfl) (fun _ _ _ h => h) (Or.inl ⟨by rfl, ?_⟩) HSN.out ?_
        · rintro w' hS'
          go_simp
        try simp only [List.setIfInBounds_toArray, List.set_cons_zero, List.set_cons_succ]
        refine wpAnyH_done (by kernel_rfl) ?_ _
        go_wp2
        go_ret
        exact ⟨rfl, HBV.out⟩
end Go.Proofs.YtgeecahpfjllgaaGreatDoor
