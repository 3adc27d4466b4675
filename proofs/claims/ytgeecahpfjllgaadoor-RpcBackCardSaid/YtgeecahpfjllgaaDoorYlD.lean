/- RpcBack: what was written is read. -/
import Derived.Test.YtgeecahpfjllgaaDoorYlC
namespace Go.Proofs.YtgeecahpfjllgaaDoor
open Go.RowKit Go.Maps
set_option linter.unusedVariables false

/-- A call that has been made a good one. -/
def bkC (C : Ca) : Ca := ⟨C.xid, 100003 + 2 * (C.prog % 2), 3, C.proc % 6, ⟨C.cr.uid, C.cr.gid, C.cr.gids.take 16⟩, C.body⟩
theorem bkC_ok {C : Ca} (h : C.ok) : (bkC C).ok := by
  obtain ⟨h1, h2, h3, h4, h5, h6, h7⟩ := h
  unfold bkC
  refine ⟨h1, ?_, ?_, ?_, h5, h6, fun x hx => h7 x (List.mem_of_mem_take hx)⟩
  · unfold IsU; simp only; omega
  · unfold IsU; simp only; omega
  · unfold IsU at h4 ⊢; simp only; omega
theorem bkC_parse {C : Ca} (h : C.ok) : parseP (callL (bkC C)) = (bkC C, 0, []) := by
  rw [parse_call _ (bkC_ok h)]
  have e : ({ bkC C with cr := { (bkC C).cr with gids := (bkC C).cr.gids.take 16 } } : Ca) = bkC C := by unfold bkC; simp [List.take_take]
  rw [e]
  unfold judP
  have h4 := h.hc
  unfold IsU at h4
  have h2 := h.hp
  unfold IsU at h2
  have hp : (bkC C).prog = 100003 ∨ (bkC C).prog = 100005 := by show 100003 + 2 * (C.prog % 2) = 100003 ∨ 100003 + 2 * (C.prog % 2) = 100005; omega
  have hk : (bkC C).proc = C.proc % 6 := rfl
  rw [if_neg (by omega), if_neg (by show ¬ ((3 : Int) ≠ 3); decide), if_neg (by rw [hk]; omega)]
set_option maxRecDepth 100000 in
set_option maxHeartbeats 16000000 in
theorem RpcBack_walk (w : World) (hG : Gl w) (C : Ca) (hC : C.ok) (ag : Option Addr) (ng cg : Nat) (ab : Option Addr) (nb cb : Nat) (hng : C.cr.gids.length = ng) (hgs : U32s w ag C.cr.gids) (hgm : ng ≤ maxLen) (hgc : ng ≤ cg) (hnb : C.body.length = nb) (hb : Bytes w ab C.body) (hbc : nb ≤ cb) (x : Int) (hx : IsU x) (ad : Option Addr) (nd cd : Nat) (d : List Int) (hnd : d.length = nd) (hd : Bytes w ad d) :
    Calls Tryd.prog 6 #[.agg (caC C.xid C.prog C.vers C.proc C.cr.uid C.cr.gid (.slice ag ng cg) (.slice ab nb cb)), .int .u32 x, .slice ad nd cd] w fun e w' => e = .returned (.bool true) ∧ Below w.heap.size w w' := by
  obtain ⟨BK, hBK⟩ : ∃ B, bkC C = B := ⟨_, rfl⟩
  have hok := bkC_ok hC
  have hpp := bkC_parse hC
  have hB1 : BK.xid = C.xid ∧ BK.prog = 100003 + 2 * (C.prog % 2) ∧ BK.vers = 3 ∧ BK.proc = C.proc % 6 ∧ BK.cr.uid = C.cr.uid ∧ BK.cr.gid = C.cr.gid ∧ BK.cr.gids = C.cr.gids.take 16 ∧ BK.body = C.body := by rw [← hBK]; exact ⟨rfl, rfl, rfl, rfl, rfl, rfl, rfl, rfl⟩
  rw [hBK] at hok hpp
  obtain ⟨xid, prog, vers, proc, ⟨u, g, gs⟩, body⟩ := C
  obtain ⟨bx, bp, bv, bk, ⟨bu, bg, bgs⟩, bb⟩ := BK
  simp only at hB1 hng hgs hnb hb
  obtain ⟨rfl, hbp, rfl, hbk, rfl, rfl, hbgs, rfl⟩ := hB1
  simp only
  have h2 : 0 ≤ prog ∧ prog < 4294967296 := hC.hp
  have h4 : 0 ≤ proc ∧ proc < 4294967296 := hC.hc
  have ht2 : prog.tmod 2 = prog % 2 := Int.tmod_eq_emod_of_nonneg h2.1
  have ht6 : proc.tmod 6 = proc % 6 := Int.tmod_eq_emod_of_nonneg h4.1
  obtain ⟨p2, hp2⟩ : ∃ z, prog.tmod 2 = z := ⟨_, rfl⟩
  have hwr3 : proc.tmod 6 = bk := ht6.trans hbk.symm
  have hp2b : 0 ≤ p2 ∧ p2 < 2 := by omega
  have hwr1 : 2 * p2 % 4294967296 = 2 * p2 := by omega
  have hwr2 : (100003 + 2 * p2) % 4294967296 = bp := by omega
  obtain ⟨p0, hp0⟩ : ∃ g, w.heap.size = g := ⟨_, rfl⟩
  obtain ⟨W1, hW1⟩ : ∃ W, W = w.alloc (.cells (caC bx prog vers proc bu bg (.slice ag ng cg) (.slice ab nb cb)) 29) := ⟨_, rfl⟩
  have b1 : Below w.heap.size w W1 := by rw [hW1]; exact below_alloc (Below.refl _ _) (Nat.le_refl _) _
  have z1 : W1.heap[p0]? = some (.cells (caC bx prog vers proc bu bg (.slice ag ng cg) (.slice ab nb cb)) 29 (0, 0)) := by rw [hW1, ← hp0]; exact alloc_new w _
  have HKN := hid (known17 W1 (hG.later b1))
  have HZ1 := hid z1
  have HB1 := hid b1
  have HG0 := hid hG
  have HGS0 := hid hgs
  have HBY0 := hid hb
  have HDD0 := hid hd
  have HNG := hid (And.intro hng (And.intro hgm hgc))
  have HNB := hid (And.intro hnb hbc)
  have HND := hid hnd
  have HOK := hid hok
  have HPP := hid hpp
  have HX := hid hx
  have HBG := hid hbgs
  have hW1' := hW1.symm
  clear b1 z1 hW1 hG hgs hb hd hng hgm hgc hnb hbc hnd hok hpp hx hbgs h2 h4 hp2b hbp hbk hC hBK ht2 ht6
  by_cases hs1 : 16384 < nb
  · have q1 : (16384 : Int) < (nb : Nat) := by omega
    clear hs1
    go_enter Tryd.func6, Tryd.ntmps6
    go_wp2_with (first
      | (go_at_call 7
         (try rw [hW1'])
         refine HKN.out.mono ?_
         rintro e w2 ⟨rfl, hb2⟩
         have hz2 := (hb2.block p0 (Array.getElem?_eq_some_iff.1 HZ1.out).1).trans HZ1.out
         have x7 := cell_of hz2 (i := 7) (v := .slice ab nb cb) rfl
         have x1 := cell_of hz2 (i := 1) (v := .int .u32 prog) rfl
         have f1 := froz_of hz2 1
         obtain ⟨W3, hW3⟩ : ∃ W, W = w2.setCell ⟨p0, 1, none⟩ (.int .u32 bp) := ⟨_, rfl⟩
         have z3 : W3.heap[p0]? = some (.cells (caC bx bp vers proc bu bg (.slice ag ng cg) (.slice ab nb cb)) 29 (0, 0)) := by rw [hW3]; exact setc hz2 1 _
         have q3 : Mods (fun b => b = p0) w2 W3 := by rw [hW3]; exact (Mods.refl _ _).setCell p0 1 _ rfl
         have x32 := cell_of z3 (i := 2) (v := .int .u32 vers) rfl
         have f32 := froz_of z3 2
         obtain ⟨W4, hW4⟩ : ∃ W, W = W3.setCell ⟨p0, 2, none⟩ (.int .u32 3) := ⟨_, rfl⟩
         have z4 : W4.heap[p0]? = some (.cells (caC bx bp 3 proc bu bg (.slice ag ng cg) (.slice ab nb cb)) 29 (0, 0)) := by rw [hW4]; exact setc z3 2 _
         have q4 : Mods (fun b => b = p0) W3 W4 := by rw [hW4]; exact (Mods.refl _ _).setCell p0 2 _ rfl
         have x43 := cell_of z4 (i := 3) (v := .int .u32 proc) rfl
         have f43 := froz_of z4 3
         obtain ⟨W5, hW5⟩ : ∃ W, W = W4.setCell ⟨p0, 3, none⟩ (.int .u32 bk) := ⟨_, rfl⟩
         have z5 : W5.heap[p0]? = some (.cells (caC bx bp 3 bk bu bg (.slice ag ng cg) (.slice ab nb cb)) 29 (0, 0)) := by rw [hW5]; exact setc z4 3 _
         have q5 : Mods (fun b => b = p0) W4 W5 := by rw [hW5]; exact (Mods.refl _ _).setCell p0 3 _ rfl
         have x56 := cell_of z5 (i := 6) (v := .slice ag ng cg) rfl
         have f56 := froz_of z5 6
         have q25 := (q3.tr q4).tr q5
         have HZ5 := hid z5
         have HB2 := hid (HB1.out.trans (hb2.mono HB1.out.size))
         have HQ25 := hid q25
         have HY2 := hid hb2
         have hW3' := hW3.symm
         have hW4' := hW4.symm
         have hW5' := hW5.symm
         clear hb2 hz2 z3 q3 z4 q4 z5 q5 q25 hW3 hW4 hW5 HKN))
    go_ret
    exact ⟨rfl, HB2.out⟩
  · have q1 : ¬ ((16384 : Int) < (nb : Nat)) := by omega
    by_cases hs2 : 16384 < nd
    · have q2 : (16384 : Int) < (nd : Nat) := by omega
      clear hs1 hs2
      go_enter Tryd.func6, Tryd.ntmps6
      go_wp2_with (first
        | (go_at_call 7
           (try rw [hW1'])
           refine HKN.out.mono ?_
           rintro e w2 ⟨rfl, hb2⟩
           have hz2 := (hb2.block p0 (Array.getElem?_eq_some_iff.1 HZ1.out).1).trans HZ1.out
           have x7 := cell_of hz2 (i := 7) (v := .slice ab nb cb) rfl
           have x1 := cell_of hz2 (i := 1) (v := .int .u32 prog) rfl
           have f1 := froz_of hz2 1
           obtain ⟨W3, hW3⟩ : ∃ W, W = w2.setCell ⟨p0, 1, none⟩ (.int .u32 bp) := ⟨_, rfl⟩
           have z3 : W3.heap[p0]? = some (.cells (caC bx bp vers proc bu bg (.slice ag ng cg) (.slice ab nb cb)) 29 (0, 0)) := by rw [hW3]; exact setc hz2 1 _
           have q3 : Mods (fun b => b = p0) w2 W3 := by rw [hW3]; exact (Mods.refl _ _).setCell p0 1 _ rfl
           have x32 := cell_of z3 (i := 2) (v := .int .u32 vers) rfl
           have f32 := froz_of z3 2
           obtain ⟨W4, hW4⟩ : ∃ W, W = W3.setCell ⟨p0, 2, none⟩ (.int .u32 3) := ⟨_, rfl⟩
           have z4 : W4.heap[p0]? = some (.cells (caC bx bp 3 proc bu bg (.slice ag ng cg) (.slice ab nb cb)) 29 (0, 0)) := by rw [hW4]; exact setc z3 2 _
           have q4 : Mods (fun b => b = p0) W3 W4 := by rw [hW4]; exact (Mods.refl _ _).setCell p0 2 _ rfl
           have x43 := cell_of z4 (i := 3) (v := .int .u32 proc) rfl
           have f43 := froz_of z4 3
           obtain ⟨W5, hW5⟩ : ∃ W, W = W4.setCell ⟨p0, 3, none⟩ (.int .u32 bk) := ⟨_, rfl⟩
           have z5 : W5.heap[p0]? = some (.cells (caC bx bp 3 bk bu bg (.slice ag ng cg) (.slice ab nb cb)) 29 (0, 0)) := by rw [hW5]; exact setc z4 3 _
           have q5 : Mods (fun b => b = p0) W4 W5 := by rw [hW5]; exact (Mods.refl _ _).setCell p0 3 _ rfl
           have x56 := cell_of z5 (i := 6) (v := .slice ag ng cg) rfl
           have f56 := froz_of z5 6
           have q25 := (q3.tr q4).tr q5
           have HZ5 := hid z5
           have HB2 := hid (HB1.out.trans (hb2.mono HB1.out.size))
           have HQ25 := hid q25
           have HY2 := hid hb2
           have hW3' := hW3.symm
           have hW4' := hW4.symm
           have hW5' := hW5.symm
           clear hb2 hz2 z3 q3 z4 q4 z5 q5 q25 hW3 hW4 hW5 HKN))
      go_ret
      exact ⟨rfl, HB2.out⟩
    · have d1 : decide ((16384 : Int) < (nb : Nat)) = false := decide_eq_false (by omega)
      have d2 : decide ((16384 : Int) < (nd : Nat)) = false := decide_eq_false (by omega)
      have HS1 := hid hs1
      have HS2 := hid hs2
      clear hs1 hs2 q1
      by_cases h16 : 16 < ng
      · have q3 : (16 : Int) < (ng : Nat) := by omega
        have hcut0 := cut_u32s ag ng cg 16 (by have := HNG.out.2.2; omega)
        have hcut : ∀ W, (Instr.slice 25 (.slice ag ng cg) none (some (.int .i64 16)) none).run Tryd.prog W = .ok (.slice ag 16 cg) W := hcut0
        have HGL : Hid (bgs.length = 16 ∧ 16 ≤ maxLen ∧ 16 ≤ cg) := hid ⟨by rw [HBG.out, List.length_take, HNG.out.1]; omega, by unfold maxLen; omega, by have := HNG.out.2.2; omega⟩
        have HGB : Hid (16 ≤ 16) := hid (Nat.le_refl _)
        clear h16 hcut0
        go_enter Tryd.func6, Tryd.ntmps6
        go_upto_region 10 with (first
          | (go_at_call 7
             (try rw [hW1'])
             refine HKN.out.mono ?_
             rintro e w2 ⟨rfl, hb2⟩
             have hz2 := (hb2.block p0 (Array.getElem?_eq_some_iff.1 HZ1.out).1).trans HZ1.out
             have x7 := cell_of hz2 (i := 7) (v := .slice ab nb cb) rfl
             have x1 := cell_of hz2 (i := 1) (v := .int .u32 prog) rfl
             have f1 := froz_of hz2 1
             obtain ⟨W3, hW3⟩ : ∃ W, W = w2.setCell ⟨p0, 1, none⟩ (.int .u32 bp) := ⟨_, rfl⟩
             have z3 : W3.heap[p0]? = some (.cells (caC bx bp vers proc bu bg (.slice ag ng cg) (.slice ab nb cb)) 29 (0, 0)) := by rw [hW3]; exact setc hz2 1 _
             have q3 : Mods (fun b => b = p0) w2 W3 := by rw [hW3]; exact (Mods.refl _ _).setCell p0 1 _ rfl
             have x32 := cell_of z3 (i := 2) (v := .int .u32 vers) rfl
             have f32 := froz_of z3 2
             obtain ⟨W4, hW4⟩ : ∃ W, W = W3.setCell ⟨p0, 2, none⟩ (.int .u32 3) := ⟨_, rfl⟩
             have z4 : W4.heap[p0]? = some (.cells (caC bx bp 3 proc bu bg (.slice ag ng cg) (.slice ab nb cb)) 29 (0, 0)) := by rw [hW4]; exact setc z3 2 _
             have q4 : Mods (fun b => b = p0) W3 W4 := by rw [hW4]; exact (Mods.refl _ _).setCell p0 2 _ rfl
             have x43 := cell_of z4 (i := 3) (v := .int .u32 proc) rfl
             have f43 := froz_of z4 3
             obtain ⟨W5, hW5⟩ : ∃ W, W = W4.setCell ⟨p0, 3, none⟩ (.int .u32 bk) := ⟨_, rfl⟩
             have z5 : W5.heap[p0]? = some (.cells (caC bx bp 3 bk bu bg (.slice ag ng cg) (.slice ab nb cb)) 29 (0, 0)) := by rw [hW5]; exact setc z4 3 _
             have q5 : Mods (fun b => b = p0) W4 W5 := by rw [hW5]; exact (Mods.refl _ _).setCell p0 3 _ rfl
             have x56 := cell_of z5 (i := 6) (v := .slice ag ng cg) rfl
             have f56 := froz_of z5 6
             have q25 := (q3.tr q4).tr q5
             have HZ5 := hid z5
             have HB2 := hid (HB1.out.trans (hb2.mono HB1.out.size))
             have HQ25 := hid q25
             have HY2 := hid hb2
             have hW3' := hW3.symm
             have hW4' := hW4.symm
             have hW5' := hW5.symm
             clear hb2 hz2 z3 q3 z4 q4 z5 q5 q25 hW3 hW4 hW5 HKN))
        have hx6 : W5.heap[p0]? = some (.cells (caC bx bp 3 bk bu bg (.slice ag ng cg) (.slice ab nb cb)) 29 (0, 0)) := HZ5.out
        have z6 := setc hx6 6 (.slice ag 16 cg)
        have q6 : Mods (fun b => b = p0) W5 (W5.setCell ⟨p0, 6, none⟩ (.slice ag 16 cg)) := (Mods.refl _ _).setCell p0 6 _ rfl
        obtain ⟨W6, hW6⟩ : ∃ W, W5.setCell ⟨p0, 6, none⟩ (.slice ag 16 cg) = W := ⟨_, rfl⟩
        rw [hW6] at z6 q6
        (try rw [hW6])
        have HZ6 : Hid (W6.heap[p0]? = some (.cells (caC bx bp 3 bk bu bg (.slice ag 16 cg) (.slice ab nb cb)) 29 (0, 0))) := hid z6
        have HQ6 := hid (HQ25.out.tr q6)
        clear hx6 z6 q6 hW6 x7 x1 f1 x32 f32 x43 f43 x56 f56 hW3' hW4' hW5' hwr1 hwr2 hwr3 hp2
        have HBW : Hid (Below w.heap.size w W6) := hid (HQ6.out.to_below HB2.out HB2.out.size (fun b hb => by have h : b = p0 := hb; omega))
        have HLTP : Hid (p0 < W1.heap.size) := hid (Array.getElem?_eq_some_iff.1 HZ1.out).1
        have hkeep : ∀ a l, Bytes w a l → Bytes W6 a l := fun a l h => h.later HBW.out
        have hkeepU : ∀ a l, U32s w a l → U32s W6 a l := fun a l h => h.later HBW.out
        have HBP0 := hid (hkeep ab bb HBY0.out)
        have HAD0 := hid (hkeep ad d HDD0.out)
        have HUP0 : Hid (U32s W6 ag bgs) := hid (by rw [HBG.out]; exact (hkeepU ag gs HGS0.out).take 16)
        clear hkeep hkeepU HQ6
        obtain ⟨LC, hLC⟩ : ∃ l, callL ⟨bx, bp, 3, bk, ⟨bu, bg, bgs⟩, bb⟩ = l := ⟨_, rfl⟩
        obtain ⟨m, hm⟩ : ∃ m, LC.length = m := ⟨_, rfl⟩
        have hml : m ≤ 20000 ∧ 24 ≤ m := by
          have h1 := sysL_len ⟨bu, bg, bgs⟩
          have h4 := pad4_lt (20 + 4 * min 16 bgs.length)
          rw [← hm, ← hLC]
          unfold callL
          simp only [List.length_append, nuL_len, fuL_len, len_be, h1, List.length_cons, List.length_nil, HNB.out.1]
          have := HS1.out
          omega
        have hpp := HPP.out
        rw [hLC] at hpp
        have HPP2 := hid hpp
        have HLC := hid hLC
        have HM := hid hm
        have HML := hid hml
        clear hLC hm hml hpp HPP
        go_upto_region 13 with (first
            | ((try rw [hW5'])
               refine wpList_load_row rfl 29 _ rfl p0 rfl 29 _ (0, 0) _ HZ6.out Tryd.underlying29 rfl sizeCall ?_
               have HWR := hid (Write_any W6 ⟨bx, bp, 3, bk, ⟨bu, bg, bgs⟩, bb⟩ HOK.out ag 16 cg ab nb cb HGL.out.1 HGL.out.2.2 HGL.out.2.1 HUP0.out HNB.out.1 HBP0.out (by have := HS1.out; omega) m (by rw [HLC.out]; exact HM.out))
               rw [HLC.out] at HWR)
            | (go_at_call 17
               refine HWR.out.mono ?_
               rintro e w7 ⟨a6, c6, rfl, hy6, hc6, hb6⟩
               have HPA := hid (Parse_any w7 (HG0.out.later (HBW.out.trans (hb6.mono HBW.out.size))) a6 m c6 LC HM.out hc6 (by have := HML.out; omega) hy6.bytes)
               have HB6 := hid hb6
               clear hy6 hc6 hb6 HWR)
            | (go_at_call 8
               refine HPA.out.mono ?_
               rintro e w8 ⟨hb8, hok8, _⟩
               rw [HPP2.out] at hok8
               obtain ⟨a7, n7, c7, d7, m7, e7, rfl, hut, hn7, hc7, hyb, hm7, he7⟩ := hok8 rfl
               have en7 : 16 = n7 := by rw [← hn7]; exact HGL.out.1.symm
               have em7 : nb = m7 := by rw [← hm7]; exact HNB.out.1.symm
               subst en7
               subst em7
               have B8 := HB6.out.trans (hb8.mono HB6.out.size)
               obtain ⟨g7, hg7⟩ : ∃ g, w8.heap.size = g := ⟨_, rfl⟩
               obtain ⟨W9, hW9⟩ : ∃ W, W = w8.alloc (.cells (caC 0 0 0 0 0 0 nilS nilS) 29) := ⟨_, rfl⟩
               obtain ⟨W10, hW10⟩ : ∃ W, W = W9.setRow g7 (caC bx bp 3 bk bu bg (.slice a7 16 c7) (.slice d7 nb e7)) := ⟨_, rfl⟩
               have b9 : Below w8.heap.size w8 W9 := by rw [hW9]; exact below_alloc (Below.refl _ _) (Nat.le_refl _) _
               have z9 : W9.heap[g7]? = some (.cells (caC 0 0 0 0 0 0 nilS nilS) 29 (0, 0)) := by rw [hW9, ← hg7]; exact alloc_new w8 _
               have z10 : W10.heap[g7]? = some (.cells (caC bx bp 3 bk bu bg (.slice a7 16 c7) (.slice d7 nb e7)) 29 (0, 0)) := by rw [hW10]; exact setRow_heap _ g7 _ _ _ _ z9
               have q10 : Mods (fun b => b = g7) W9 W10 := by rw [hW10]; exact setRow_mods _ _ _
               have b10 : Below w8.heap.size w8 W10 := q10.to_below b9 b9.size (fun b hb => by have h : b = g7 := hb; omega)
               have B10 := B8.trans (b10.mono B8.size)
               have HZ9 := hid z9
               have HZ10 := hid z10
               have HU10 := hid (hut.later b10).toU
               have HD10 := hid (hyb.later b10).bytes
               have HB10 := hid B10
               have HSU := hid (Success_any W10 x HX.out ad nd cd d HND.out (HAD0.out.later B10) (by have := HS2.out; omega) (24 + nd) rfl)
               have hW9' := hW9.symm
               have hW10' := hW10.symm
               clear hb8 hok8 hut hn7 hc7 hyb hm7 he7 B8 b9 z9 z10 q10 b10 B10 hW9 hW10 HPA)
            | ((try rw [hW9'])
               refine wpList_store_row rfl 29 _ _ rfl g7 (caC bx bp 3 bk bu bg (.slice a7 16 c7) (.slice d7 nb e7)) rfl rfl 29 _ HZ9.out sizeCall rfl (caC_one _ _ _ _ _ _ _ _ _ _ _ _) ?_
               (try rw [hW10']))
            | (go_at_call 19
               refine HSU.out.mono ?_
               rintro e w11 ⟨a9, c9, rfl, hy9, hc9, hb9⟩
               have HAN := hid (Answer_any w11 a9 (24 + nd) c9 (sucL x d) (by rw [← HND.out]; unfold sucL; rw [List.length_append, nuL_len]; rfl) hc9 (by have := HS2.out; omega) hy9.bytes)
               rw [ans_suc x d HX.out] at HAN
               have HB11 := hid (HB10.out.trans (hb9.mono HB10.out.size))
               have HB11' := hid hb9
               clear hy9 hc9 hb9 HSU)
            | (go_at_call 18
               refine HAN.out.mono ?_
               rintro e w12 ⟨a10, n10, c10, rfl, hy10, hn10, hc10, hb10⟩
               simp only at hy10 hn10
               have en10 : nd = n10 := by rw [← hn10]; exact HND.out.symm
               subst en10
               have HB12 := hid (HB11.out.trans (hb10.mono HB11.out.size))
               have HB12' := hid (HB11'.out.trans (hb10.mono HB11'.out.size))
               have HY10 := hid hy10.bytes
               have HGA := hid (Garbage_any w12 x HX.out)
               clear hy10 hn10 hc10 hb10 HAN)
            | (go_at_call 20
               refine HGA.out.mono ?_
               rintro e w13 h13
               obtain ⟨a11, c11, rfl, hy11, hc11, hb11⟩ := h13.by_ (nuL_isB 4 _)
               have HAN2 := hid (Answer_any w13 a11 24 c11 (garL x) (by unfold garL; rw [nuL_len]; rfl) hc11 (by omega) hy11.bytes)
               rw [ans_gar x HX.out] at HAN2
               have HB13 := hid (HB12.out.trans (hb11.mono HB12.out.size))
               have HB13' := hid (HB12'.out.trans (hb11.mono HB12'.out.size))
               have HY13 := hid (HY10.out.later hb11)
               clear h13 hy11 hc11 hb11 HGA)
            | (go_at_call 18
               refine HAN2.out.mono ?_
               rintro e w14 ⟨a13, n13, c13, rfl, hy14, hn14, hc14, hb14⟩
               have en13 : 0 = n13 := hn14
               subst en13
               have B14 := HB13.out.trans (hb14.mono HB13.out.size)
               have B14' := HB13'.out.trans (hb14.mono HB13'.out.size)
               have HZ14 := hid ((B14'.block g7 (Array.getElem?_eq_some_iff.1 HZ10.out).1).trans HZ10.out)
               have HP14 := hid ((B14.block p0 (Array.getElem?_eq_some_iff.1 HZ6.out).1).trans HZ6.out)
               have HU14 := hid (HU10.out.later B14')
               have HD14 := hid (HD10.out.later B14')
               have HY14 := hid (HY13.out.later hb14)
               have HB14 := hid B14
               clear hy14 hn14 hc14 hb14 B14 B14' HAN2))
        obtain ⟨SB, hSB⟩ : ∃ s, strOfNums d = s := ⟨_, rfl⟩
        have HSB := hid hSB
        clear hSB
        refine wp_region_held_drew (S := fun W => Below w14.drew.heap.size w14.drew W) (by kernel_rfl) (Below.refl _ _) (fun hS => ?_)
        obtain ⟨V, hV⟩ : ∃ W, W = w14.drew := ⟨_, rfl⟩
        have hbv : Below w14.heap.size w14 V := by rw [hV]; exact (Below.refl _ _).drew
        rw [← hV] at hS ⊢
        have HSN := hid hS
        have HZ7 := hid ((hbv.block g7 (Array.getElem?_eq_some_iff.1 HZ14.out).1).trans HZ14.out)
        have HZP := hid ((hbv.block p0 (Array.getElem?_eq_some_iff.1 HP14.out).1).trans HP14.out)
        have HU7 := hid (HU14.out.later hbv)
        have HD7 := hid (HD14.out.later hbv)
        have HBV := hid (HB14.out.trans (hbv.mono HB14.out.size))
        have HUP := hid (HUP0.out.later HBV.out)
        have HBP := hid (HBP0.out.later HBV.out)
        have HA10 := hid (HY14.out.later hbv)
        have HAD := hid (HAD0.out.later HBV.out)
        clear hV hbv hS
        refine nany_take 0 69 (.nilIface) rfl rfl (by kernel_rfl) (by kernel_rfl) (by kernel_rfl) (fun _ _ _ h => h) (Or.inl ⟨by rfl, ?_⟩) HSN.out ?_
        · rintro w' hS'
          go_simp
        try simp only [List.setIfInBounds_toArray, List.set_cons_zero, List.set_cons_succ]
        refine nany_take 1 70 (.bool true) rfl rfl (by kernel_rfl) (by kernel_rfl) (by kernel_rfl) (fun _ _ _ h => h) (Or.inl ⟨by rfl, ?_⟩) HSN.out ?_
        · rintro w' hS'
          go_simp
        try simp only [List.setIfInBounds_toArray, List.set_cons_zero, List.set_cons_succ]
        refine nany_take 2 71 (.bool true) rfl rfl (by kernel_rfl) (by kernel_rfl) (by kernel_rfl) (fun _ _ _ h => h) (Or.inl ⟨by rfl, ?_⟩) HSN.out ?_
        · rintro w' hS'
          go_simp
        try simp only [List.setIfInBounds_toArray, List.set_cons_zero, List.set_cons_succ]
        refine nany_take 3 72 (.agg (caC bx bp 3 bk bu bg (.slice a7 16 c7) (.slice d7 nb e7))) rfl rfl (by kernel_rfl) (by kernel_rfl) (by kernel_rfl) (fun _ _ _ h => h) (Or.inl ⟨by rfl, ?_⟩) HSN.out ?_
        · rintro w' hS'
          exact ex_load 29 _ rfl g7 rfl 29 _ (0, 0) _ ((hS'.block g7 (Array.getElem?_eq_some_iff.1 HZ7.out).1).trans HZ7.out) Tryd.underlying29 sizeCall
        try simp only [List.setIfInBounds_toArray, List.set_cons_zero, List.set_cons_succ]
        refine nany_take 4 73 (.agg (caC bx bp 3 bk bu bg (.slice ag 16 cg) (.slice ab nb cb))) rfl rfl (by kernel_rfl) (by kernel_rfl) (by kernel_rfl) (fun _ _ _ h => h) (Or.inl ⟨by rfl, ?_⟩) HSN.out ?_
        · rintro w' hS'
          exact ex_load 29 _ rfl p0 rfl 29 _ (0, 0) _ ((hS'.block p0 (Array.getElem?_eq_some_iff.1 HZP.out).1).trans HZP.out) Tryd.underlying29 sizeCall
        try simp only [List.setIfInBounds_toArray, List.set_cons_zero, List.set_cons_succ]
        refine nany_one 5 (by kernel_rfl) ?_
        refine nop_callE 74 (f := 21) (args := #[.agg (caC bx bp 3 bk bu bg (.slice ag 16 cg) (.slice ab nb cb))]) (R := fun v w' => v = .agg (caC bx bp 3 bk bu bg (.slice ag 16 cg) (.slice ab nb cb)) ∧ Below V.heap.size V w') rfl (by rfl) rfl (by go_simp) ((theirs_any V bx bp 3 bk bu bg ag 16 cg ab nb cb).mono (fun e w' ⟨h1, h2⟩ => ⟨_, h1, rfl, h2⟩)) ?_
        rintro v V1 ⟨rfl, hb1⟩
        refine ⟨hb1, ?_⟩
        try simp only [List.setIfInBounds_toArray, List.set_cons_zero, List.set_cons_succ]
        have HSN := hid hb1
        refine nany_one 6 (by kernel_rfl) ?_
        refine nop_callE 75 (f := 10) (args := #[.agg (caC bx bp 3 bk bu bg (.slice a7 16 c7) (.slice d7 nb e7)), .agg (caC bx bp 3 bk bu bg (.slice ag 16 cg) (.slice ab nb cb))]) (R := fun v w' => v = .bool true ∧ Below V1.heap.size V1 w') rfl (by rfl) rfl (by go_simp) ((same_yes V1 bx bp 3 bk bu bg a7 ag 16 c7 cg bgs d7 ab nb e7 cb bb HGL.out.1 (by have := HGB.out; omega) (HU7.out.later hb1) (HUP.out.later hb1) HNB.out.1 (HD7.out.later hb1) (HBP.out.later hb1)).mono (fun e w' ⟨h1, h2⟩ => ⟨_, h1, rfl, h2⟩)) ?_
        rintro v V2 ⟨rfl, hb2⟩
        have hb12 := hb1.trans (hb2.mono hb1.size)
        refine ⟨hb12, ?_⟩
        try simp only [List.setIfInBounds_toArray, List.set_cons_zero, List.set_cons_succ]
        have HSN := hid hb12
        have HB12 := hid hb12
        clear hb1 hb2 hb12
        refine nany_take 7 76 (.bool true) rfl rfl (by kernel_rfl) (by kernel_rfl) (by kernel_rfl) (fun _ _ _ h => h) (Or.inl ⟨by rfl, ?_⟩) HSN.out ?_
        · rintro w' hS'
          go_simp
        try simp only [List.setIfInBounds_toArray, List.set_cons_zero, List.set_cons_succ]
        refine nany_take 8 77 (.bool true) rfl rfl (by kernel_rfl) (by kernel_rfl) (by kernel_rfl) (fun _ _ _ h => h) (Or.inl ⟨by rfl, ?_⟩) HSN.out ?_
        · rintro w' hS'
          go_simp
        try simp only [List.setIfInBounds_toArray, List.set_cons_zero, List.set_cons_succ]
        refine nany_take 9 78 (.int .u32 x) rfl rfl (by kernel_rfl) (by kernel_rfl) (by kernel_rfl) (fun _ _ _ h => h) (Or.inl ⟨by rfl, ?_⟩) HSN.out ?_
        · rintro w' hS'
          go_simp
        try simp only [List.setIfInBounds_toArray, List.set_cons_zero, List.set_cons_succ]
        refine nany_take 10 79 (.int .u32 x) rfl rfl (by kernel_rfl) (by kernel_rfl) (by kernel_rfl) (fun _ _ _ h => h) (Or.inl ⟨by rfl, ?_⟩) HSN.out ?_
        · rintro w' hS'
          go_simp
        try simp only [List.setIfInBounds_toArray, List.set_cons_zero, List.set_cons_succ]
        refine nany_take 11 80 (.bool true) rfl rfl (by kernel_rfl) (by kernel_rfl) (by kernel_rfl) (fun _ _ _ h => h) (Or.inl ⟨by rfl, ?_⟩) HSN.out ?_
        · rintro w' hS'
          go_simp
        try simp only [List.setIfInBounds_toArray, List.set_cons_zero, List.set_cons_succ]
        refine nany_take 12 81 (.bool true) rfl rfl (by kernel_rfl) (by kernel_rfl) (by kernel_rfl) (fun _ _ _ h => h) (Or.inl ⟨by rfl, ?_⟩) HSN.out ?_
        · rintro w' hS'
          go_simp
        try simp only [List.setIfInBounds_toArray, List.set_cons_zero, List.set_cons_succ]
        refine nany_take 13 82 (.bool true) rfl rfl (by kernel_rfl) (by kernel_rfl) (by kernel_rfl) (fun _ _ _ h => h) (Or.inl ⟨by rfl, ?_⟩) HSN.out ?_
        · rintro w' hS'
          go_simp
        try simp only [List.setIfInBounds_toArray, List.set_cons_zero, List.set_cons_succ]
        refine nany_take 14 83 (.int .i64 0) rfl rfl (by kernel_rfl) (by kernel_rfl) (by kernel_rfl) (fun _ _ _ h => h) (Or.inl ⟨by rfl, ?_⟩) HSN.out ?_
        · rintro w' hS'
          go_simp
        try simp only [List.setIfInBounds_toArray, List.set_cons_zero, List.set_cons_succ]
        refine nany_take 15 84 (.bool true) rfl rfl (by kernel_rfl) (by kernel_rfl) (by kernel_rfl) (fun _ _ _ h => h) (Or.inl ⟨by rfl, ?_⟩) HSN.out ?_
        · rintro w' hS'
          go_simp
        try simp only [List.setIfInBounds_toArray, List.set_cons_zero, List.set_cons_succ]
        refine nany_take 16 85 (.bool true) rfl rfl (by kernel_rfl) (by kernel_rfl) (by kernel_rfl) (fun _ _ _ h => h) (Or.inl ⟨by rfl, ?_⟩) HSN.out ?_
        · rintro w' hS'
          go_simp
        try simp only [List.setIfInBounds_toArray, List.set_cons_zero, List.set_cons_succ]
        refine nany_take 17 86 (.bool true) rfl rfl (by kernel_rfl) (by kernel_rfl) (by kernel_rfl) (fun _ _ _ h => h) (Or.inl ⟨by rfl, ?_⟩) HSN.out ?_
        · rintro w' hS'
          go_simp
        try simp only [List.setIfInBounds_toArray, List.set_cons_zero, List.set_cons_succ]
        refine nany_take 18 87 (.slice a10 nd c10) rfl rfl (by kernel_rfl) (by kernel_rfl) (by kernel_rfl) (fun _ _ _ h => h) (Or.inl ⟨by rfl, ?_⟩) HSN.out ?_
        · rintro w' hS'
          go_simp
        try simp only [List.setIfInBounds_toArray, List.set_cons_zero, List.set_cons_succ]
        refine nany_take 19 88 (.string SB) rfl rfl (by kernel_rfl) (by kernel_rfl) (by kernel_rfl) (fun _ _ _ h => h) (Or.inl ⟨by rfl, ?_⟩) HSN.out ?_
        · rintro w' hS'
          have cv := conv0 (HA10.out.later hS') HND.out (cap := c10)
          rw [HSB.out] at cv
          go_simp
        try simp only [List.setIfInBounds_toArray, List.set_cons_zero, List.set_cons_succ]
        refine nany_take 20 89 (.slice ad nd cd) rfl rfl (by kernel_rfl) (by kernel_rfl) (by kernel_rfl) (fun _ _ _ h => h) (Or.inl ⟨by rfl, ?_⟩) HSN.out ?_
        · rintro w' hS'
          go_simp
        try simp only [List.setIfInBounds_toArray, List.set_cons_zero, List.set_cons_succ]
        refine nany_take 21 90 (.string SB) rfl rfl (by kernel_rfl) (by kernel_rfl) (by kernel_rfl) (fun _ _ _ h => h) (Or.inl ⟨by rfl, ?_⟩) HSN.out ?_
        · rintro w' hS'
          have cv := conv0 (HAD.out.later hS') HND.out (cap := cd)
          rw [HSB.out] at cv
          go_simp
        try simp only [List.setIfInBounds_toArray, List.set_cons_zero, List.set_cons_succ]
        refine nany_take 22 91 (.bool true) rfl rfl (by kernel_rfl) (by kernel_rfl) (by kernel_rfl) (fun _ _ _ h => h) (Or.inl ⟨by rfl, ?_⟩) HSN.out ?_
        · rintro w' hS'
          go_simp
        try simp only [List.setIfInBounds_toArray, List.set_cons_zero, List.set_cons_succ]
        refine nany_take 23 92 (.bool true) rfl rfl (by kernel_rfl) (by kernel_rfl) (by kernel_rfl) (fun _ _ _ h => h) (Or.inl ⟨by rfl, ?_⟩) HSN.out ?_
        · rintro w' hS'
          go_simp
        try simp only [List.setIfInBounds_toArray, List.set_cons_zero, List.set_cons_succ]
        refine nany_take 24 93 (.bool true) rfl rfl (by kernel_rfl) (by kernel_rfl) (by kernel_rfl) (fun _ _ _ h => h) (Or.inl ⟨by rfl, ?_⟩) HSN.out ?_
        · rintro w' hS'
          go_simp
        try simp only [List.setIfInBounds_toArray, List.set_cons_zero, List.set_cons_succ]
        refine nany_take 25 94 (.int .u32 x) rfl rfl (by kernel_rfl) (by kernel_rfl) (by kernel_rfl) (fun _ _ _ h => h) (Or.inl ⟨by rfl, ?_⟩) HSN.out ?_
        · rintro w' hS'
          go_simp
        try simp only [List.setIfInBounds_toArray, List.set_cons_zero, List.set_cons_succ]
        refine nany_take 26 95 (.int .u32 x) rfl rfl (by kernel_rfl) (by kernel_rfl) (by kernel_rfl) (fun _ _ _ h => h) (Or.inl ⟨by rfl, ?_⟩) HSN.out ?_
        · rintro w' hS'
          go_simp
        try simp only [List.setIfInBounds_toArray, List.set_cons_zero, List.set_cons_succ]
        refine nany_take 27 96 (.bool true) rfl rfl (by kernel_rfl) (by kernel_rfl) (by kernel_rfl) (fun _ _ _ h => h) (Or.inl ⟨by rfl, ?_⟩) HSN.out ?_
        · rintro w' hS'
          go_simp
        try simp only [List.setIfInBounds_toArray, List.set_cons_zero, List.set_cons_succ]
        refine nany_take 28 97 (.bool true) rfl rfl (by kernel_rfl) (by kernel_rfl) (by kernel_rfl) (fun _ _ _ h => h) (Or.inl ⟨by rfl, ?_⟩) HSN.out ?_
        · rintro w' hS'
          go_simp
        try simp only [List.setIfInBounds_toArray, List.set_cons_zero, List.set_cons_succ]
        refine nany_take 29 98 (.bool true) rfl rfl (by kernel_rfl) (by kernel_rfl) (by kernel_rfl) (fun _ _ _ h => h) (Or.inl ⟨by rfl, ?_⟩) HSN.out ?_
        · rintro w' hS'
          go_simp
        try simp only [List.setIfInBounds_toArray, List.set_cons_zero, List.set_cons_succ]
        refine nany_take 30 99 (.slice a13 0 c13) rfl rfl (by kernel_rfl) (by kernel_rfl) (by kernel_rfl) (fun _ _ _ h => h) (Or.inl ⟨by rfl, ?_⟩) HSN.out ?_
        · rintro w' hS'
          go_simp
        try simp only [List.setIfInBounds_toArray, List.set_cons_zero, List.set_cons_succ]
        refine nany_take 31 100 (.int .i64 0) rfl rfl (by kernel_rfl) (by kernel_rfl) (by kernel_rfl) (fun _ _ _ h => h) (Or.inl ⟨by rfl, ?_⟩) HSN.out ?_
        · rintro w' hS'
          go_simp
        try simp only [List.setIfInBounds_toArray, List.set_cons_zero, List.set_cons_succ]
        refine nany_take 32 101 (.bool true) rfl rfl (by kernel_rfl) (by kernel_rfl) (by kernel_rfl) (fun _ _ _ h => h) (Or.inl ⟨by rfl, ?_⟩) HSN.out ?_
        · rintro w' hS'
          go_simp
        try simp only [List.setIfInBounds_toArray, List.set_cons_zero, List.set_cons_succ]
        refine nany_take 33 102 (.bool true) rfl rfl (by kernel_rfl) (by kernel_rfl) (by kernel_rfl) (fun _ _ _ h => h) (Or.inl ⟨by rfl, ?_⟩) HSN.out ?_
        · rintro w' hS'
          go_simp
        try simp only [List.setIfInBounds_toArray, List.set_cons_zero, List.set_cons_succ]
        refine nany_take 34 103 (.bool true) rfl rfl (by kernel_rfl) (by kernel_rfl) (by kernel_rfl) (fun _ _ _ h => h) (Or.inl ⟨by rfl, ?_⟩) HSN.out ?_
        · rintro w' hS'
          go_simp
        try simp only [List.setIfInBounds_toArray, List.set_cons_zero, List.set_cons_succ]
        refine nany_take 35 104 (.int .i64 33) rfl rfl (by kernel_rfl) (by kernel_rfl) (by kernel_rfl) (fun _ _ _ h => h) (Or.inl ⟨by rfl, ?_⟩) HSN.out ?_
        · rintro w' hS'
          go_simp
        try simp only [List.setIfInBounds_toArray, List.set_cons_zero, List.set_cons_succ]
        refine nany_take 36 105 (.bool true) rfl rfl (by kernel_rfl) (by kernel_rfl) (by kernel_rfl) (fun _ _ _ h => h) (Or.inl ⟨by rfl, ?_⟩) HSN.out ?_
        · rintro w' hS'
          go_simp
        try simp only [List.setIfInBounds_toArray, List.set_cons_zero, List.set_cons_succ]
        refine nany_take 37 106 (.bool true) rfl rfl (by kernel_rfl) (by kernel_rfl) (by kernel_rfl) (fun _ _ _ h => h) (Or.inl ⟨by rfl, ?_⟩) HSN.out ?_
        · rintro w' hS'
          go_simp
        try simp only [List.setIfInBounds_toArray, List.set_cons_zero, List.set_cons_succ]
        refine nany_take 38 6 (.bool true) rfl rfl (by kernel_rfl) (by kernel_rfl) (by kernel_rfl) (fun _ _ _ h => h) (Or.inl ⟨by rfl, ?_⟩) HSN.out ?_
        · rintro w' hS'
          go_simp
        try simp only [List.setIfInBounds_toArray, List.set_cons_zero, List.set_cons_succ]
        refine wpAnyH_done (by kernel_rfl) ?_ _
        go_wp2
        go_ret
        have hfin := HBW.out.trans ((HBV.out.trans (HB12.out.mono HBV.out.size)).mono HBW.out.size)
        first | exact ⟨rfl, hfin⟩ | (rw [hp0] at hfin; exact ⟨rfl, hfin⟩)
      · have d3 : decide ((16 : Int) < (ng : Nat)) = false := decide_eq_false (by omega)
        have HGL : Hid (bgs.length = ng ∧ ng ≤ maxLen ∧ ng ≤ cg) := hid ⟨by rw [HBG.out, List.length_take, HNG.out.1]; omega, HNG.out.2.1, HNG.out.2.2⟩
        have HGB : Hid (ng ≤ 16) := hid (by omega)
        clear h16
        go_enter Tryd.func6, Tryd.ntmps6
        go_upto_region 10 with (first
          | (go_at_call 7
             (try rw [hW1'])
             refine HKN.out.mono ?_
             rintro e w2 ⟨rfl, hb2⟩
             have hz2 := (hb2.block p0 (Array.getElem?_eq_some_iff.1 HZ1.out).1).trans HZ1.out
             have x7 := cell_of hz2 (i := 7) (v := .slice ab nb cb) rfl
             have x1 := cell_of hz2 (i := 1) (v := .int .u32 prog) rfl
             have f1 := froz_of hz2 1
             obtain ⟨W3, hW3⟩ : ∃ W, W = w2.setCell ⟨p0, 1, none⟩ (.int .u32 bp) := ⟨_, rfl⟩
             have z3 : W3.heap[p0]? = some (.cells (caC bx bp vers proc bu bg (.slice ag ng cg) (.slice ab nb cb)) 29 (0, 0)) := by rw [hW3]; exact setc hz2 1 _
             have q3 : Mods (fun b => b = p0) w2 W3 := by rw [hW3]; exact (Mods.refl _ _).setCell p0 1 _ rfl
             have x32 := cell_of z3 (i := 2) (v := .int .u32 vers) rfl
             have f32 := froz_of z3 2
             obtain ⟨W4, hW4⟩ : ∃ W, W = W3.setCell ⟨p0, 2, none⟩ (.int .u32 3) := ⟨_, rfl⟩
             have z4 : W4.heap[p0]? = some (.cells (caC bx bp 3 proc bu bg (.slice ag ng cg) (.slice ab nb cb)) 29 (0, 0)) := by rw [hW4]; exact setc z3 2 _
             have q4 : Mods (fun b => b = p0) W3 W4 := by rw [hW4]; exact (Mods.refl _ _).setCell p0 2 _ rfl
             have x43 := cell_of z4 (i := 3) (v := .int .u32 proc) rfl
             have f43 := froz_of z4 3
             obtain ⟨W5, hW5⟩ : ∃ W, W = W4.setCell ⟨p0, 3, none⟩ (.int .u32 bk) := ⟨_, rfl⟩
             have z5 : W5.heap[p0]? = some (.cells (caC bx bp 3 bk bu bg (.slice ag ng cg) (.slice ab nb cb)) 29 (0, 0)) := by rw [hW5]; exact setc z4 3 _
             have q5 : Mods (fun b => b = p0) W4 W5 := by rw [hW5]; exact (Mods.refl _ _).setCell p0 3 _ rfl
             have x56 := cell_of z5 (i := 6) (v := .slice ag ng cg) rfl
             have f56 := froz_of z5 6
             have q25 := (q3.tr q4).tr q5
             have HZ5 := hid z5
             have HB2 := hid (HB1.out.trans (hb2.mono HB1.out.size))
             have HQ25 := hid q25
             have HY2 := hid hb2
             have hW3' := hW3.symm
             have hW4' := hW4.symm
             have hW5' := hW5.symm
             clear hb2 hz2 z3 q3 z4 q4 z5 q5 q25 hW3 hW4 hW5 HKN))
        clear x7 x1 f1 x32 f32 x43 f43 x56 f56 hW3' hW4' hW5' hwr1 hwr2 hwr3 hp2
        have HBW : Hid (Below w.heap.size w W5) := hid (HQ25.out.to_below HB2.out HB2.out.size (fun b hb => by have h : b = p0 := hb; omega))
        have HLTP : Hid (p0 < W1.heap.size) := hid (Array.getElem?_eq_some_iff.1 HZ1.out).1
        have hkeep : ∀ a l, Bytes w a l → Bytes W5 a l := fun a l h => h.later HBW.out
        have hkeepU : ∀ a l, U32s w a l → U32s W5 a l := fun a l h => h.later HBW.out
        have HBP0 := hid (hkeep ab bb HBY0.out)
        have HAD0 := hid (hkeep ad d HDD0.out)
        have HUP0 : Hid (U32s W5 ag bgs) := hid (by rw [HBG.out]; exact (hkeepU ag gs HGS0.out).take 16)
        clear hkeep hkeepU HQ25
        obtain ⟨LC, hLC⟩ : ∃ l, callL ⟨bx, bp, 3, bk, ⟨bu, bg, bgs⟩, bb⟩ = l := ⟨_, rfl⟩
        obtain ⟨m, hm⟩ : ∃ m, LC.length = m := ⟨_, rfl⟩
        have hml : m ≤ 20000 ∧ 24 ≤ m := by
          have h1 := sysL_len ⟨bu, bg, bgs⟩
          have h4 := pad4_lt (20 + 4 * min 16 bgs.length)
          rw [← hm, ← hLC]
          unfold callL
          simp only [List.length_append, nuL_len, fuL_len, len_be, h1, List.length_cons, List.length_nil, HNB.out.1]
          have := HS1.out
          omega
        have hpp := HPP.out
        rw [hLC] at hpp
        have HPP2 := hid hpp
        have HLC := hid hLC
        have HM := hid hm
        have HML := hid hml
        clear hLC hm hml hpp HPP
        go_upto_region 13 with (first
            | ((try rw [hW5'])
               refine wpList_load_row rfl 29 _ rfl p0 rfl 29 _ (0, 0) _ HZ5.out Tryd.underlying29 rfl sizeCall ?_
               have HWR := hid (Write_any W5 ⟨bx, bp, 3, bk, ⟨bu, bg, bgs⟩, bb⟩ HOK.out ag ng cg ab nb cb HGL.out.1 HGL.out.2.2 HGL.out.2.1 HUP0.out HNB.out.1 HBP0.out (by have := HS1.out; omega) m (by rw [HLC.out]; exact HM.out))
               rw [HLC.out] at HWR)
            | (go_at_call 17
               refine HWR.out.mono ?_
               rintro e w7 ⟨a6, c6, rfl, hy6, hc6, hb6⟩
               have HPA := hid (Parse_any w7 (HG0.out.later (HBW.out.trans (hb6.mono HBW.out.size))) a6 m c6 LC HM.out hc6 (by have := HML.out; omega) hy6.bytes)
               have HB6 := hid hb6
               clear hy6 hc6 hb6 HWR)
            | (go_at_call 8
               refine HPA.out.mono ?_
               rintro e w8 ⟨hb8, hok8, _⟩
               rw [HPP2.out] at hok8
               obtain ⟨a7, n7, c7, d7, m7, e7, rfl, hut, hn7, hc7, hyb, hm7, he7⟩ := hok8 rfl
               have en7 : ng = n7 := by rw [← hn7]; exact HGL.out.1.symm
               have em7 : nb = m7 := by rw [← hm7]; exact HNB.out.1.symm
               subst en7
               subst em7
               have B8 := HB6.out.trans (hb8.mono HB6.out.size)
               obtain ⟨g7, hg7⟩ : ∃ g, w8.heap.size = g := ⟨_, rfl⟩
               obtain ⟨W9, hW9⟩ : ∃ W, W = w8.alloc (.cells (caC 0 0 0 0 0 0 nilS nilS) 29) := ⟨_, rfl⟩
               obtain ⟨W10, hW10⟩ : ∃ W, W = W9.setRow g7 (caC bx bp 3 bk bu bg (.slice a7 ng c7) (.slice d7 nb e7)) := ⟨_, rfl⟩
               have b9 : Below w8.heap.size w8 W9 := by rw [hW9]; exact below_alloc (Below.refl _ _) (Nat.le_refl _) _
               have z9 : W9.heap[g7]? = some (.cells (caC 0 0 0 0 0 0 nilS nilS) 29 (0, 0)) := by rw [hW9, ← hg7]; exact alloc_new w8 _
               have z10 : W10.heap[g7]? = some (.cells (caC bx bp 3 bk bu bg (.slice a7 ng c7) (.slice d7 nb e7)) 29 (0, 0)) := by rw [hW10]; exact setRow_heap _ g7 _ _ _ _ z9
               have q10 : Mods (fun b => b = g7) W9 W10 := by rw [hW10]; exact setRow_mods _ _ _
               have b10 : Below w8.heap.size w8 W10 := q10.to_below b9 b9.size (fun b hb => by have h : b = g7 := hb; omega)
               have B10 := B8.trans (b10.mono B8.size)
               have HZ9 := hid z9
               have HZ10 := hid z10
               have HU10 := hid (hut.later b10).toU
               have HD10 := hid (hyb.later b10).bytes
               have HB10 := hid B10
               have HSU := hid (Success_any W10 x HX.out ad nd cd d HND.out (HAD0.out.later B10) (by have := HS2.out; omega) (24 + nd) rfl)
               have hW9' := hW9.symm
               have hW10' := hW10.symm
               clear hb8 hok8 hut hn7 hc7 hyb hm7 he7 B8 b9 z9 z10 q10 b10 B10 hW9 hW10 HPA)
            | ((try rw [hW9'])
               refine wpList_store_row rfl 29 _ _ rfl g7 (caC bx bp 3 bk bu bg (.slice a7 ng c7) (.slice d7 nb e7)) rfl rfl 29 _ HZ9.out sizeCall rfl (caC_one _ _ _ _ _ _ _ _ _ _ _ _) ?_
               (try rw [hW10']))
            | (go_at_call 19
               refine HSU.out.mono ?_
               rintro e w11 ⟨a9, c9, rfl, hy9, hc9, hb9⟩
               have HAN := hid (Answer_any w11 a9 (24 + nd) c9 (sucL x d) (by rw [← HND.out]; unfold sucL; rw [List.length_append, nuL_len]; rfl) hc9 (by have := HS2.out; omega) hy9.bytes)
               rw [ans_suc x d HX.out] at HAN
               have HB11 := hid (HB10.out.trans (hb9.mono HB10.out.size))
               have HB11' := hid hb9
               clear hy9 hc9 hb9 HSU)
            | (go_at_call 18
               refine HAN.out.mono ?_
               rintro e w12 ⟨a10, n10, c10, rfl, hy10, hn10, hc10, hb10⟩
               simp only at hy10 hn10
               have en10 : nd = n10 := by rw [← hn10]; exact HND.out.symm
               subst en10
               have HB12 := hid (HB11.out.trans (hb10.mono HB11.out.size))
               have HB12' := hid (HB11'.out.trans (hb10.mono HB11'.out.size))
               have HY10 := hid hy10.bytes
               have HGA := hid (Garbage_any w12 x HX.out)
               clear hy10 hn10 hc10 hb10 HAN)
            | (go_at_call 20
               refine HGA.out.mono ?_
               rintro e w13 h13
               obtain ⟨a11, c11, rfl, hy11, hc11, hb11⟩ := h13.by_ (nuL_isB 4 _)
               have HAN2 := hid (Answer_any w13 a11 24 c11 (garL x) (by unfold garL; rw [nuL_len]; rfl) hc11 (by omega) hy11.bytes)
               rw [ans_gar x HX.out] at HAN2
               have HB13 := hid (HB12.out.trans (hb11.mono HB12.out.size))
               have HB13' := hid (HB12'.out.trans (hb11.mono HB12'.out.size))
               have HY13 := hid (HY10.out.later hb11)
               clear h13 hy11 hc11 hb11 HGA)
            | (go_at_call 18
               refine HAN2.out.mono ?_
               rintro e w14 ⟨a13, n13, c13, rfl, hy14, hn14, hc14, hb14⟩
               have en13 : 0 = n13 := hn14
               subst en13
               have B14 := HB13.out.trans (hb14.mono HB13.out.size)
               have B14' := HB13'.out.trans (hb14.mono HB13'.out.size)
               have HZ14 := hid ((B14'.block g7 (Array.getElem?_eq_some_iff.1 HZ10.out).1).trans HZ10.out)
               have HP14 := hid ((B14.block p0 (Array.getElem?_eq_some_iff.1 HZ5.out).1).trans HZ5.out)
               have HU14 := hid (HU10.out.later B14')
               have HD14 := hid (HD10.out.later B14')
               have HY14 := hid (HY13.out.later hb14)
               have HB14 := hid B14
               clear hy14 hn14 hc14 hb14 B14 B14' HAN2))
        obtain ⟨SB, hSB⟩ : ∃ s, strOfNums d = s := ⟨_, rfl⟩
        have HSB := hid hSB
        clear hSB
        refine wp_region_held_drew (S := fun W => Below w14.drew.heap.size w14.drew W) (by kernel_rfl) (Below.refl _ _) (fun hS => ?_)
        obtain ⟨V, hV⟩ : ∃ W, W = w14.drew := ⟨_, rfl⟩
        have hbv : Below w14.heap.size w14 V := by rw [hV]; exact (Below.refl _ _).drew
        rw [← hV] at hS ⊢
        have HSN := hid hS
        have HZ7 := hid ((hbv.block g7 (Array.getElem?_eq_some_iff.1 HZ14.out).1).trans HZ14.out)
        have HZP := hid ((hbv.block p0 (Array.getElem?_eq_some_iff.1 HP14.out).1).trans HP14.out)
        have HU7 := hid (HU14.out.later hbv)
        have HD7 := hid (HD14.out.later hbv)
        have HBV := hid (HB14.out.trans (hbv.mono HB14.out.size))
        have HUP := hid (HUP0.out.later HBV.out)
        have HBP := hid (HBP0.out.later HBV.out)
        have HA10 := hid (HY14.out.later hbv)
        have HAD := hid (HAD0.out.later HBV.out)
        clear hV hbv hS
        refine nany_take 0 69 (.nilIface) rfl rfl (by kernel_rfl) (by kernel_rfl) (by kernel_rfl) (fun _ _ _ h => h) (Or.inl ⟨by rfl, ?_⟩) HSN.out ?_
        · rintro w' hS'
          go_simp
        try simp only [List.setIfInBounds_toArray, List.set_cons_zero, List.set_cons_succ]
        refine nany_take 1 70 (.bool true) rfl rfl (by kernel_rfl) (by kernel_rfl) (by kernel_rfl) (fun _ _ _ h => h) (Or.inl ⟨by rfl, ?_⟩) HSN.out ?_
        · rintro w' hS'
          go_simp
        try simp only [List.setIfInBounds_toArray, List.set_cons_zero, List.set_cons_succ]
        refine nany_take 2 71 (.bool true) rfl rfl (by kernel_rfl) (by kernel_rfl) (by kernel_rfl) (fun _ _ _ h => h) (Or.inl ⟨by rfl, ?_⟩) HSN.out ?_
        · rintro w' hS'
          go_simp
        try simp only [List.setIfInBounds_toArray, List.set_cons_zero, List.set_cons_succ]
        refine nany_take 3 72 (.agg (caC bx bp 3 bk bu bg (.slice a7 ng c7) (.slice d7 nb e7))) rfl rfl (by kernel_rfl) (by kernel_rfl) (by kernel_rfl) (fun _ _ _ h => h) (Or.inl ⟨by rfl, ?_⟩) HSN.out ?_
        · rintro w' hS'
          exact ex_load 29 _ rfl g7 rfl 29 _ (0, 0) _ ((hS'.block g7 (Array.getElem?_eq_some_iff.1 HZ7.out).1).trans HZ7.out) Tryd.underlying29 sizeCall
        try simp only [List.setIfInBounds_toArray, List.set_cons_zero, List.set_cons_succ]
        refine nany_take 4 73 (.agg (caC bx bp 3 bk bu bg (.slice ag ng cg) (.slice ab nb cb))) rfl rfl (by kernel_rfl) (by kernel_rfl) (by kernel_rfl) (fun _ _ _ h => h) (Or.inl ⟨by rfl, ?_⟩) HSN.out ?_
        · rintro w' hS'
          exact ex_load 29 _ rfl p0 rfl 29 _ (0, 0) _ ((hS'.block p0 (Array.getElem?_eq_some_iff.1 HZP.out).1).trans HZP.out) Tryd.underlying29 sizeCall
        try simp only [List.setIfInBounds_toArray, List.set_cons_zero, List.set_cons_succ]
        refine nany_one 5 (by kernel_rfl) ?_
        refine nop_callE 74 (f := 21) (args := #[.agg (caC bx bp 3 bk bu bg (.slice ag ng cg) (.slice ab nb cb))]) (R := fun v w' => v = .agg (caC bx bp 3 bk bu bg (.slice ag ng cg) (.slice ab nb cb)) ∧ Below V.heap.size V w') rfl (by rfl) rfl (by go_simp) ((theirs_any V bx bp 3 bk bu bg ag ng cg ab nb cb).mono (fun e w' ⟨h1, h2⟩ => ⟨_, h1, rfl, h2⟩)) ?_
        rintro v V1 ⟨rfl, hb1⟩
        refine ⟨hb1, ?_⟩
        try simp only [List.setIfInBounds_toArray, List.set_cons_zero, List.set_cons_succ]
        have HSN := hid hb1
        refine nany_one 6 (by kernel_rfl) ?_
        refine nop_callE 75 (f := 10) (args := #[.agg (caC bx bp 3 bk bu bg (.slice a7 ng c7) (.slice d7 nb e7)), .agg (caC bx bp 3 bk bu bg (.slice ag ng cg) (.slice ab nb cb))]) (R := fun v w' => v = .bool true ∧ Below V1.heap.size V1 w') rfl (by rfl) rfl (by go_simp) ((same_yes V1 bx bp 3 bk bu bg a7 ag ng c7 cg bgs d7 ab nb e7 cb bb HGL.out.1 (by have := HGB.out; omega) (HU7.out.later hb1) (HUP.out.later hb1) HNB.out.1 (HD7.out.later hb1) (HBP.out.later hb1)).mono (fun e w' ⟨h1, h2⟩ => ⟨_, h1, rfl, h2⟩)) ?_
        rintro v V2 ⟨rfl, hb2⟩
        have hb12 := hb1.trans (hb2.mono hb1.size)
        refine ⟨hb12, ?_⟩
        try simp only [List.setIfInBounds_toArray, List.set_cons_zero, List.set_cons_succ]
        have HSN := hid hb12
        have HB12 := hid hb12
        clear hb1 hb2 hb12
        refine nany_take 7 76 (.bool true) rfl rfl (by kernel_rfl) (by kernel_rfl) (by kernel_rfl) (fun _ _ _ h => h) (Or.inl ⟨by rfl, ?_⟩) HSN.out ?_
        · rintro w' hS'
          go_simp
        try simp only [List.setIfInBounds_toArray, List.set_cons_zero, List.set_cons_succ]
        refine nany_take 8 77 (.bool true) rfl rfl (by kernel_rfl) (by kernel_rfl) (by kernel_rfl) (fun _ _ _ h => h) (Or.inl ⟨by rfl, ?_⟩) HSN.out ?_
        · rintro w' hS'
          go_simp
        try simp only [List.setIfInBounds_toArray, List.set_cons_zero, List.set_cons_succ]
        refine nany_take 9 78 (.int .u32 x) rfl rfl (by kernel_rfl) (by kernel_rfl) (by kernel_rfl) (fun _ _ _ h => h) (Or.inl ⟨by rfl, ?_⟩) HSN.out ?_
        · rintro w' hS'
          go_simp
        try simp only [List.setIfInBounds_toArray, List.set_cons_zero, List.set_cons_succ]
        refine nany_take 10 79 (.int .u32 x) rfl rfl (by kernel_rfl) (by kernel_rfl) (by kernel_rfl) (fun _ _ _ h => h) (Or.inl ⟨by rfl, ?_⟩) HSN.out ?_
        · rintro w' hS'
          go_simp
        try simp only [List.setIfInBounds_toArray, List.set_cons_zero, List.set_cons_succ]
        refine nany_take 11 80 (.bool true) rfl rfl (by kernel_rfl) (by kernel_rfl) (by kernel_rfl) (fun _ _ _ h => h) (Or.inl ⟨by rfl, ?_⟩) HSN.out ?_
        · rintro w' hS'
          go_simp
        try simp only [List.setIfInBounds_toArray, List.set_cons_zero, List.set_cons_succ]
        refine nany_take 12 81 (.bool true) rfl rfl (by kernel_rfl) (by kernel_rfl) (by kernel_rfl) (fun _ _ _ h => h) (Or.inl ⟨by rfl, ?_⟩) HSN.out ?_
        · rintro w' hS'
          go_simp
        try simp only [List.setIfInBounds_toArray, List.set_cons_zero, List.set_cons_succ]
        refine nany_take 13 82 (.bool true) rfl rfl (by kernel_rfl) (by kernel_rfl) (by kernel_rfl) (fun _ _ _ h => h) (Or.inl ⟨by rfl, ?_⟩) HSN.out ?_
        · rintro w' hS'
          go_simp
        try simp only [List.setIfInBounds_toArray, List.set_cons_zero, List.set_cons_succ]
        refine nany_take 14 83 (.int .i64 0) rfl rfl (by kernel_rfl) (by kernel_rfl) (by kernel_rfl) (fun _ _ _ h => h) (Or.inl ⟨by rfl, ?_⟩) HSN.out ?_
        · rintro w' hS'
          go_simp
        try simp only [List.setIfInBounds_toArray, List.set_cons_zero, List.set_cons_succ]
        refine nany_take 15 84 (.bool true) rfl rfl (by kernel_rfl) (by kernel_rfl) (by kernel_rfl) (fun _ _ _ h => h) (Or.inl ⟨by rfl, ?_⟩) HSN.out ?_
        · rintro w' hS'
          go_simp
        try simp only [List.setIfInBounds_toArray, List.set_cons_zero, List.set_cons_succ]
        refine nany_take 16 85 (.bool true) rfl rfl (by kernel_rfl) (by kernel_rfl) (by kernel_rfl) (fun _ _ _ h => h) (Or.inl ⟨by rfl, ?_⟩) HSN.out ?_
        · rintro w' hS'
          go_simp
        try simp only [List.setIfInBounds_toArray, List.set_cons_zero, List.set_cons_succ]
        refine nany_take 17 86 (.bool true) rfl rfl (by kernel_rfl) (by kernel_rfl) (by kernel_rfl) (fun _ _ _ h => h) (Or.inl ⟨by rfl, ?_⟩) HSN.out ?_
        · rintro w' hS'
          go_simp
        try simp only [List.setIfInBounds_toArray, List.set_cons_zero, List.set_cons_succ]
        refine nany_take 18 87 (.slice a10 nd c10) rfl rfl (by kernel_rfl) (by kernel_rfl) (by kernel_rfl) (fun _ _ _ h => h) (Or.inl ⟨by rfl, ?_⟩) HSN.out ?_
        · rintro w' hS'
          go_simp
        try simp only [List.setIfInBounds_toArray, List.set_cons_zero, List.set_cons_succ]
        refine nany_take 19 88 (.string SB) rfl rfl (by kernel_rfl) (by kernel_rfl) (by kernel_rfl) (fun _ _ _ h => h) (Or.inl ⟨by rfl, ?_⟩) HSN.out ?_
        · rintro w' hS'
          have cv := conv0 (HA10.out.later hS') HND.out (cap := c10)
          rw [HSB.out] at cv
          go_simp
        try simp only [List.setIfInBounds_toArray, List.set_cons_zero, List.set_cons_succ]
        refine nany_take 20 89 (.slice ad nd cd) rfl rfl (by kernel_rfl) (by kernel_rfl) (by kernel_rfl) (fun _ _ _ h => h) (Or.inl ⟨by rfl, ?_⟩) HSN.out ?_
        · rintro w' hS'
          go_simp
        try simp only [List.setIfInBounds_toArray, List.set_cons_zero, List.set_cons_succ]
        refine nany_take 21 90 (.string SB) rfl rfl (by kernel_rfl) (by kernel_rfl) (by kernel_rfl) (fun _ _ _ h => h) (Or.inl ⟨by rfl, ?_⟩) HSN.out ?_
        · rintro w' hS'
          have cv := conv0 (HAD.out.later hS') HND.out (cap := cd)
          rw [HSB.out] at cv
          go_simp
        try simp only [List.setIfInBounds_toArray, List.set_cons_zero, List.set_cons_succ]
        refine nany_take 22 91 (.bool true) rfl rfl (by kernel_rfl) (by kernel_rfl) (by kernel_rfl) (fun _ _ _ h => h) (Or.inl ⟨by rfl, ?_⟩) HSN.out ?_
        · rintro w' hS'
          go_simp
        try simp only [List.setIfInBounds_toArray, List.set_cons_zero, List.set_cons_succ]
        refine nany_take 23 92 (.bool true) rfl rfl (by kernel_rfl) (by kernel_rfl) (by kernel_rfl) (fun _ _ _ h => h) (Or.inl ⟨by rfl, ?_⟩) HSN.out ?_
        · rintro w' hS'
          go_simp
        try simp only [List.setIfInBounds_toArray, List.set_cons_zero, List.set_cons_succ]
        refine nany_take 24 93 (.bool true) rfl rfl (by kernel_rfl) (by kernel_rfl) (by kernel_rfl) (fun _ _ _ h => h) (Or.inl ⟨by rfl, ?_⟩) HSN.out ?_
        · rintro w' hS'
          go_simp
        try simp only [List.setIfInBounds_toArray, List.set_cons_zero, List.set_cons_succ]
        refine nany_take 25 94 (.int .u32 x) rfl rfl (by kernel_rfl) (by kernel_rfl) (by kernel_rfl) (fun _ _ _ h => h) (Or.inl ⟨by rfl, ?_⟩) HSN.out ?_
        · rintro w' hS'
          go_simp
        try simp only [List.setIfInBounds_toArray, List.set_cons_zero, List.set_cons_succ]
        refine nany_take 26 95 (.int .u32 x) rfl rfl (by kernel_rfl) (by kernel_rfl) (by kernel_rfl) (fun _ _ _ h => h) (Or.inl ⟨by rfl, ?_⟩) HSN.out ?_
        · rintro w' hS'
          go_simp
        try simp only [List.setIfInBounds_toArray, List.set_cons_zero, List.set_cons_succ]
        refine nany_take 27 96 (.bool true) rfl rfl (by kernel_rfl) (by kernel_rfl) (by kernel_rfl) (fun _ _ _ h => h) (Or.inl ⟨by rfl, ?_⟩) HSN.out ?_
        · rintro w' hS'
          go_simp
        try simp only [List.setIfInBounds_toArray, List.set_cons_zero, List.set_cons_succ]
        refine nany_take 28 97 (.bool true) rfl rfl (by kernel_rfl) (by kernel_rfl) (by kernel_rfl) (fun _ _ _ h => h) (Or.inl ⟨by rfl, ?_⟩) HSN.out ?_
        · rintro w' hS'
          go_simp
        try simp only [List.setIfInBounds_toArray, List.set_cons_zero, List.set_cons_succ]
        refine nany_take 29 98 (.bool true) rfl rfl (by kernel_rfl) (by kernel_rfl) (by kernel_rfl) (fun _ _ _ h => h) (Or.inl ⟨by rfl, ?_⟩) HSN.out ?_
        · rintro w' hS'
          go_simp
        try simp only [List.setIfInBounds_toArray, List.set_cons_zero, List.set_cons_succ]
        refine nany_take 30 99 (.slice a13 0 c13) rfl rfl (by kernel_rfl) (by kernel_rfl) (by kernel_rfl) (fun _ _ _ h => h) (Or.inl ⟨by rfl, ?_⟩) HSN.out ?_
        · rintro w' hS'
          go_simp
        try simp only [List.setIfInBounds_toArray, List.set_cons_zero, List.set_cons_succ]
        refine nany_take 31 100 (.int .i64 0) rfl rfl (by kernel_rfl) (by kernel_rfl) (by kernel_rfl) (fun _ _ _ h => h) (Or.inl ⟨by rfl, ?_⟩) HSN.out ?_
        · rintro w' hS'
          go_simp
        try simp only [List.setIfInBounds_toArray, List.set_cons_zero, List.set_cons_succ]
        refine nany_take 32 101 (.bool true) rfl rfl (by kernel_rfl) (by kernel_rfl) (by kernel_rfl) (fun _ _ _ h => h) (Or.inl ⟨by rfl, ?_⟩) HSN.out ?_
        · rintro w' hS'
          go_simp
        try simp only [List.setIfInBounds_toArray, List.set_cons_zero, List.set_cons_succ]
        refine nany_take 33 102 (.bool true) rfl rfl (by kernel_rfl) (by kernel_rfl) (by kernel_rfl) (fun _ _ _ h => h) (Or.inl ⟨by rfl, ?_⟩) HSN.out ?_
        · rintro w' hS'
          go_simp
        try simp only [List.setIfInBounds_toArray, List.set_cons_zero, List.set_cons_succ]
        refine nany_take 34 103 (.bool true) rfl rfl (by kernel_rfl) (by kernel_rfl) (by kernel_rfl) (fun _ _ _ h => h) (Or.inl ⟨by rfl, ?_⟩) HSN.out ?_
        · rintro w' hS'
          go_simp
        try simp only [List.setIfInBounds_toArray, List.set_cons_zero, List.set_cons_succ]
        refine nany_take 35 104 (.int .i64 33) rfl rfl (by kernel_rfl) (by kernel_rfl) (by kernel_rfl) (fun _ _ _ h => h) (Or.inl ⟨by rfl, ?_⟩) HSN.out ?_
        · rintro w' hS'
          go_simp
        try simp only [List.setIfInBounds_toArray, List.set_cons_zero, List.set_cons_succ]
        refine nany_take 36 105 (.bool true) rfl rfl (by kernel_rfl) (by kernel_rfl) (by kernel_rfl) (fun _ _ _ h => h) (Or.inl ⟨by rfl, ?_⟩) HSN.out ?_
        · rintro w' hS'
          go_simp
        try simp only [List.setIfInBounds_toArray, List.set_cons_zero, List.set_cons_succ]
        refine nany_take 37 106 (.bool true) rfl rfl (by kernel_rfl) (by kernel_rfl) (by kernel_rfl) (fun _ _ _ h => h) (Or.inl ⟨by rfl, ?_⟩) HSN.out ?_
        · rintro w' hS'
          go_simp
        try simp only [List.setIfInBounds_toArray, List.set_cons_zero, List.set_cons_succ]
        refine nany_take 38 6 (.bool true) rfl rfl (by kernel_rfl) (by kernel_rfl) (by kernel_rfl) (fun _ _ _ h => h) (Or.inl ⟨by rfl, ?_⟩) HSN.out ?_
        · rintro w' hS'
          go_simp
        try simp only [List.setIfInBounds_toArray, List.set_cons_zero, List.set_cons_succ]
        refine wpAnyH_done (by kernel_rfl) ?_ _
        go_wp2
        go_ret
        have hfin := HBW.out.trans ((HBV.out.trans (HB12.out.mono HBV.out.size)).mono HBW.out.size)
        first | exact ⟨rfl, hfin⟩ | (rw [hp0] at hfin; exact ⟨rfl, hfin⟩)
end Go.Proofs.YtgeecahpfjllgaaDoor
