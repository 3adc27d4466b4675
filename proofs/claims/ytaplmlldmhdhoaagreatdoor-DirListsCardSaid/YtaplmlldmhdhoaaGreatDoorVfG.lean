/- VfC, VfG in one text. -/
import Derived.Test.YtaplmlldmhdhoaaGreatDoorVcC
import Derived.Test.YtaplmlldmhdhoaaGreatDoorVfB
/- Made, Inodes, NewView, Over, Fresh. -/
namespace Go.Proofs.YtaplmlldmhdhoaaGreatDoor
open Go.RowKit Go.Maps
set_option linter.unusedVariables false

theorem info4 : (Tryz.prog.info? 4).map (fun i => (i.zero, i.size, i.bytes)) = some (some (.bool false), 1, 1) := by kernel_rfl
theorem infoBy : (Tryz.prog.info? 59).map (fun i => (i.zero, i.size, i.bytes)) = some (some (.slice none 0 0), 1, 24) := by kernel_rfl
theorem alloc3 (w : World) (A B C : Obj) : (((w.alloc A).alloc B).alloc C).drew.heap[w.heap.size]? = some A ∧ (((w.alloc A).alloc B).alloc C).drew.heap[w.heap.size + 1]? = some B ∧ (((w.alloc A).alloc B).alloc C).drew.heap[w.heap.size + 1 + 1]? = some C ∧ Below w.heap.size w (((w.alloc A).alloc B).alloc C).drew := by
  have z1 : (w.alloc A).heap.size = w.heap.size + 1 := by simp
  have z2 : ((w.alloc A).alloc B).heap.size = w.heap.size + 1 + 1 := by simp
  have b1 : Below (w.alloc A).heap.size (w.alloc A) ((w.alloc A).alloc B) := (Below.refl _ _).alloc (Nat.le_refl _) _
  have b2 : Below ((w.alloc A).alloc B).heap.size ((w.alloc A).alloc B) (((w.alloc A).alloc B).alloc C) := (Below.refl _ _).alloc (Nat.le_refl _) _
  rw [drew_heap]
  refine ⟨?_, ?_, ?_, ?_⟩
  · rw [b2.block _ (by omega), b1.block _ (by omega)]; exact alloc_new w A
  · rw [b2.block _ (by omega), ← z1]; exact alloc_new _ B
  · rw [← z2]; exact alloc_new _ C
  · exact ((((Below.refl _ w).alloc (Nat.le_refl _) A).alloc (by omega) B).alloc (by omega) C).drew
/-- A base while it is laid: after the first j blocks of L. -/
def BsM (w wr : World) (q N : Nat) (T : Nat → Prop) (L : List Pt) : Prop := Bs wr q T N (cont L) (fun _ => false) ∧ Below w.heap.size w wr
set_option maxRecDepth 100000 in
set_option maxHeartbeats 2000000 in
theorem Made_ok (w : World) (b i s ns : Int) (hp : PlanOk b i) (s0 : 0 ≤ s) (s1 : s < 4294967296) (n0 : 0 ≤ ns) (n1 : ns < 4294967296) :
    Calls Tryz.prog 29 #[n64 b, n64 i, .agg #[.int .u32 s, .int .u32 ns]] w fun e w' => ∃ q, e = .returned (.pointer (some ⟨q, 0, none⟩)) ∧ Bs w' q (fun g => w.heap.size ≤ g ∧ g < w'.heap.size) b.toNat (cont (mkfsL b i s ns)) (fun _ => false) ∧ Below w.heap.size w w' := by
  obtain ⟨W0, hW0⟩ : ∃ W0, W0 = w.alloc (.cells #[.int .u32 s, .int .u32 ns] 28) := ⟨_, rfl⟩
  have hb0 : Below w.heap.size w W0 := by rw [hW0]; exact (Below.refl _ _).alloc (Nat.le_refl _) _
  have hh0 : W0.heap[w.heap.size]? = some (.cells #[.int .u32 s, .int .u32 ns] 28 (0, 0)) := by rw [hW0]; exact alloc_new w _
  have t0 : W0.cell? ⟨w.heap.size, 0, none⟩ = some (.int .u32 s) := cell_of hh0 rfl
  have t1 : W0.cell? ⟨w.heap.size, 1, none⟩ = some (.int .u32 ns) := cell_of hh0 rfl
  have HC := hid (rMkfs_ok W0 b i s ns hp s0 s1 n0 n1)
  have HA := hid (mk_all (s := s) (ns := ns) hp)
  obtain ⟨N, hN⟩ : ∃ N : Nat, N = b.toNat := ⟨_, rfl⟩
  have hbN : b = (N : Int) := by have := hp.b0; omega
  have hN2 : N ≤ 65536 := by have := hp.b1; omega
  have hN1 : 128 ≤ N := by have := hp.b0; omega
  rw [← hN]
  subst hbN
  have mk1 := run_make_row' (P := Tryz.prog) 109 59 (.slice none 0 0) 24 Tryz.underlying109 infoBy rfl .i64 .i64 N (by omega) (by omega)
  have mk2 := run_make_row' (P := Tryz.prog) 47 4 (.bool false) 1 Tryz.underlying47 info4 rfl .i64 .i64 N (by omega) (by omega)
  have HB0 := hid hb0
  clear hb0 hh0 hN hp
  go_enter Tryz.func29, Tryz.ntmps29
  go_wp2_with (rw [← hW0]; clear hW0)
  refine HC.out.mono ?_
  rintro e w1 ⟨v, M, rfl, hpo, hM, hb1⟩
  obtain ⟨a1, c1, rfl, hlc, hps⟩ := hpo.ps
  have HPS := hid hps
  have HM := hid hM
  have HB1 : Hid (Below w.heap.size w w1) := hid (HB0.out.trans (hb1.mono HB0.out.size))
  clear hpo hM hb1 hps HC t0 t1
  go_upto_region 4 with fail
  go_cut [9] from 20 to 25 (fun v wc => ∃ q gB gL, v = .pointer (some ⟨q, 0, none⟩) ∧ wc.heap[q]? = some (.cells #[.slice (some ⟨gB, 0, none⟩) N N, .slice (some ⟨gL, 0, none⟩) N N] 111 (0, 0)) ∧ wc.heap[gB]? = some (.cells (madeCells #[.slice none 0 0] N) 59 (0, 0)) ∧ wc.heap[gL]? = some (.cells (madeCells #[.bool false] N) 4 (0, 0)) ∧ w1.heap.size ≤ q ∧ w1.heap.size ≤ gB ∧ w1.heap.size ≤ gL ∧ Below w1.heap.size w1 wc)
  case first =>
    go_region
    all_goals
      go_wp2_with fail
      go_meet
      obtain ⟨k1, k2, k3, k4⟩ := alloc3 w1 _ _ _
      first
        | exact ⟨_, _, _, rfl, k3, k1, k2, by omega, by omega, by omega, k4⟩
        | exact ⟨_, _, _, rfl, k3, k2, k1, by omega, by omega, by omega, k4⟩
  case rest =>
    obtain ⟨q, gB, gL, rfl, hq, hgB, hgL, lq, lB, lL, hbc⟩ := hcut
    rename World => V
    have hqB : q ≠ gB := fun e => by rw [e, hgB] at hq; simp at hq
    have hLB : gL ≠ gB := fun e => by rw [e, hgB] at hgL; simp at hgL
    have HQ := hid (And.intro hq (And.intro hgB (And.intro hgL (And.intro lq (And.intro lB (And.intro lL (And.intro hbc (And.intro hqB hLB))))))))
    obtain ⟨m, hm⟩ : ∃ m, m = M.length := ⟨_, rfl⟩
    rw [← hm] at hlc
    have hm' := hm.symm
    have HMM := hid hm
    have HML : Hid (M.length ≤ 1000000) := hid (by
      have := congrArg List.length HM.out
      rw [List.length_map] at this
      rw [this]
      unfold mkfsL
      have h3 := bmRows_len (N : Int) (planD N i) (((N : Int) + 4095) / 4096).toNat
      simp only [List.length_append, List.length_cons, List.length_nil]
      omega)
    clear hq hgB hgL lq lB lL hbc hqB hLB hm mk1 mk2
    rw [hm']
    clear hm'
    go_wp2
    go_loopw [10] (fun z wr => ∃ (j : Nat) (cB : Array Value), j ≤ m ∧ z = n64 j ∧ wr.heap[gB]? = some (.cells cB 59 (0, 0)) ∧ cB.size = N ∧ (∀ k : Nat, k < N → (cB[k]? = some (.slice none 0 0) ∧ laid ((M.map Pw.pt).take j) k = none) ∨ ∃ p ∈ M, cB[k]? = some (.slice p.a p.dat.length p.c) ∧ laid ((M.map Pw.pt).take j) k = some p.dat) ∧ Mods (fun g => g = gB) V wr) (fun z _ => m - (RowKit.intOf z).toNat)
    case atStart => exact ⟨0, _, Nat.zero_le _, rfl, HQ.out.2.1, by rw [size_madeCells], fun k hk => .inl ⟨by rw [← Array.getElem?_toList, toList_madeCells_one]; simp [hk], rfl⟩, Mods.refl _ _⟩
    case round =>
      obtain ⟨j, cB, hj, rfl, hcB, hsz, hall, hmo⟩ := hrel
      rename World => U
      have hblk : ∀ g, g < w1.heap.size → U.heap[g]? = w1.heap[g]? := fun g hg => by
        rw [hmo.block g (by have := HQ.out.2.2.2.2.2.2.1.size; omega) (fun e => by have := HQ.out.2.2.2.2.1; omega), HQ.out.2.2.2.2.2.2.1.block g hg]
      have hps : Ps U (New W0) a1 M := HPS.out.keep (fun g _ hg => hblk g hg)
      have huq : U.heap[q]? = some (.cells #[.slice (some ⟨gB, 0, none⟩) N N, .slice (some ⟨gL, 0, none⟩) N N] 111 (0, 0)) := (hmo.block _ (Array.getElem?_eq_some_iff.1 HQ.out.1).1 HQ.out.2.2.2.2.2.2.2.1).trans HQ.out.1
      by_cases hlt : j < m
      · have hlt' : (j : Int) < m := by omega
        obtain ⟨Pj, hPj⟩ : ∃ Pj, Pj = M.getD j default := ⟨_, rfl⟩
        have hjM : j < M.length := by rw [← HMM.out]; exact hlt
        obtain ⟨bb, off, rfl, _, e0, e1⟩ := hps.at_ hjM
        rw [← hPj] at e0 e1
        have hmem : Pj ∈ M := by rw [hPj]; exact getD_memP hjM
        have hA : 0 ≤ Pj.blk ∧ Pj.blk < (N : Int) ∧ Pj.dat.length = 512 := HA.out Pj.pt (by rw [← HM.out]; exact List.mem_map_of_mem hmem)
        obtain ⟨kk, hkk⟩ : ∃ kk : Nat, Pj.blk = (kk : Int) := ⟨Pj.blk.toNat, by omega⟩
        have hkN : kk < N := by omega
        have hkN' : (kk : Int) < N := by omega
        rw [hkk] at e0
        have q0 : U.drew.cell? ⟨q, 0, none⟩ = some (.slice (some ⟨gB, 0, none⟩) N N) := cell_of huq rfl
        obtain ⟨old, hold⟩ : ∃ old, cB[kk]? = some old := ⟨cB[kk]'(by omega), by simp [hsz, hkN]⟩
        have g0 : U.drew.cell? ⟨gB, kk, none⟩ = some old := cell_of hcB hold
        have gf : U.drew.frozen? ⟨gB, kk, none⟩ = false := froz_of hcB kk
        obtain ⟨dn, hdn⟩ : ∃ dn, dn = Pj.dat.length := ⟨_, rfl⟩
        rw [← hdn] at e1
        obtain ⟨pa, hpa⟩ : ∃ pa, pa = Pj.a := ⟨_, rfl⟩
        obtain ⟨pc, hpc⟩ : ∃ pc, pc = Pj.c := ⟨_, rfl⟩
        rw [← hpa, ← hpc] at e1
        have f0 : U.drew.cell? ⟨bb, off + j * 2, none⟩ = some (n64 kk) := e0
        have f1 : U.drew.cell? ⟨bb, off + j * 2 + 1, none⟩ = some (.slice pa dn pc) := e1
        have hw2 : IntKind.i64.wrap ((j : Int) + 1) = ((j + 1 : Nat) : Int) := by rw [IntWalk.i64_in _ (by have := HML.out; omega)]; omega
        have HN : Hid (∃ cB', ((U.setCell ⟨gB, kk, none⟩ (.slice pa dn pc)).drew).heap[gB]? = some (.cells cB' 59 (0, 0)) ∧ cB'.size = N ∧ (∀ k : Nat, k < N → (cB'[k]? = some (.slice none 0 0) ∧ laid ((M.map Pw.pt).take (j + 1)) k = none) ∨ ∃ p ∈ M, cB'[k]? = some (.slice p.a p.dat.length p.c) ∧ laid ((M.map Pw.pt).take (j + 1)) k = some p.dat) ∧ Mods (fun g => g = gB) V (U.setCell ⟨gB, kk, none⟩ (.slice pa dn pc)).drew) := hid (by
          refine ⟨_, setc hcB kk (.slice pa dn pc), by simp [hsz], fun k hk => ?_, (hmo.setCell gB kk _ rfl).drew⟩
          rw [laid_take _ j (by rw [List.length_map]; exact hjM), map_getD M j hjM, ← hPj]
          show _ ∨ _
          by_cases e : k = kk
          · subst e
            refine .inr ⟨Pj, hmem, ?_, by rw [if_pos (show Pj.pt.blk = (k : Int) from hkk)]; rfl⟩
            rw [Array.getElem?_setIfInBounds_self_of_lt (by omega), hpa, hdn, hpc]
          · rw [if_neg (show ¬ Pj.pt.blk = (k : Int) from fun h => e (by have h2 : Pj.blk = (k : Int) := h; omega)), Array.getElem?_setIfInBounds_ne (by omega)]
            exact hall k hk)
        clear hblk hps huq hPj hjM hmem hA hkk hold hcB hall hmo hpa hpc hdn e0 e1
        go_wp2_with fail
        go_region
        all_goals
          go_wp2
          go_roundw
          case rel =>
            obtain ⟨cB', k1, k2, k3, k4⟩ := HN.out
            exact ⟨j + 1, cB', by omega, by first | rfl | go_num, k1, k2, k3, k4⟩
          case measure => simp [RowKit.intOf]; omega
      · have hlt' : ¬ (j : Int) < m := by omega
        obtain rfl : j = m := by omega
        have HFIN : Hid (Bs U q (fun g => w.heap.size ≤ g ∧ g < U.heap.size) N (cont (mkfsL N i s ns)) (fun _ => false) ∧ Below w.heap.size w U) := hid (by
          have hsw := HB1.out.size
          have htk : (M.map Pw.pt).take j = mkfsL N i s ns := by rw [← HM.out, List.take_of_length_le (by rw [List.length_map, ← HMM.out]; exact Nat.le_refl _)]
          rw [htk] at hall
          refine ⟨⟨gB, gL, cB, _, huq, hcB, (hmo.block _ (Array.getElem?_eq_some_iff.1 HQ.out.2.2.1).1 HQ.out.2.2.2.2.2.2.2.2).trans HQ.out.2.2.1, ⟨by have := HQ.out.2.2.2.1; omega, (Array.getElem?_eq_some_iff.1 huq).1⟩, ⟨by have := HQ.out.2.2.2.2.1; omega, (Array.getElem?_eq_some_iff.1 hcB).1⟩, ⟨by have := HQ.out.2.2.2.2.2.1; omega, Nat.lt_of_lt_of_le (Array.getElem?_eq_some_iff.1 HQ.out.2.2.1).1 hmo.size⟩, fun k hk => by rw [← Array.getElem?_toList, toList_madeCells_one]; simp [hk], fun k hk => ?_⟩, ?_⟩
          · rcases hall k hk with ⟨h1, h2⟩ | ⟨p, hp, h1, h2⟩
            · exact .inl ⟨h1, by unfold cont; rw [h2]; rfl⟩
            · have h512 : p.dat.length = 512 := (HA.out p.pt (by rw [← HM.out]; exact List.mem_map_of_mem hp)).2.2
              obtain ⟨hy, hc⟩ := hps.1 p hp
              have hcont : cont (mkfsL N i s ns) k = p.dat := by unfold cont; rw [h2]; rfl
              obtain ⟨gb, go, ea, _, _⟩ := hy.addr (by omega)
              rw [ea] at h1 hy
              rw [h512] at h1 hc
              exact .inr ⟨_, _, h1, hc, by rw [hcont]; exact h512, by rw [hcont]; exact hy.weak (fun g hg hl => ⟨Nat.le_trans HB0.out.size hg, hl⟩)⟩
          · have h2 : Below w.heap.size w V := HB1.out.trans (HQ.out.2.2.2.2.2.2.1.mono hsw)
            exact hmo.to_below h2 h2.size (fun g hg => by subst hg; have := HQ.out.2.2.2.2.1; omega))
        clear hblk hps huq hcB hall hmo
        go_wp2
        go_ret
        exact ⟨q, rfl, HFIN.out.1, HFIN.out.2⟩
end Go.Proofs.YtaplmlldmhdhoaaGreatDoor

/- give; the view's calls by it. -/
namespace Go.Proofs.YtaplmlldmhdhoaaGreatDoor
open Go.RowKit Go.Maps
set_option linter.unusedVariables false

variable {w w' : World} {pv n q N : Nat} {S S' T : Nat → Prop} {b i : Int} {P : Int → Option (List Int)} {bc : Nat → List Int} {lk : Nat → Bool}
theorem vcells {base : Value} (h : Vw w pv S b i base n P) : w.cell? ⟨pv, 10, none⟩ = some (n64 69) ∧ w.cell? ⟨pv, 11, none⟩ = some (n64 (planD b i)) ∧ w.cell? ⟨pv, 12, none⟩ = some (n64 b) ∧ w.cell? ⟨pv, 13, none⟩ = some (n64 68) ∧ w.cell? ⟨pv, 14, none⟩ = some (n64 2) ∧ w.cell? ⟨pv, 15, none⟩ = some (n64 i) := by
  obtain ⟨m, MV, h1, _⟩ := h
  exact ⟨cell_of h1 rfl, cell_of h1 rfl, cell_of h1 rfl, cell_of h1 rfl, cell_of h1 rfl, cell_of h1 rfl⟩
set_option maxHeartbeats 1000000 in
theorem TakeBlock_via {base : Value} (h : Vw w pv S b i base n P) (R : Ending → World → Prop) (hc : Calls Tryz.prog 105 #[.pointer (some ⟨pv, 0, none⟩), .agg #[n64 69, n64 (planD b i), n64 b]] w R) (hR : ∀ e w', R e w' → ∃ x : Int, e = .returned (.tuple #[n64 x, .nilIface]) ∨ ∃ t v, e = .returned (.tuple #[n64 x, .iface t v])) :
    Calls Tryz.prog 100 #[.pointer (some ⟨pv, 0, none⟩)] w R := by
  obtain ⟨c0, c1, c2, _, _, _⟩ := vcells h
  have HC := hid hc
  have HR := hid hR
  clear h hc hR
  go_enter Tryz.func100, Tryz.ntmps100
  go_wp2_with fail
  refine HC.out.mono ?_
  intro e w2 hr
  have HRR := hid hr
  obtain ⟨x, rfl | ⟨t, v, rfl⟩⟩ := HR.out e w2 hr
  all_goals
    clear hr
    go_wp2
    exact HRR.out
end Go.Proofs.YtaplmlldmhdhoaaGreatDoor
