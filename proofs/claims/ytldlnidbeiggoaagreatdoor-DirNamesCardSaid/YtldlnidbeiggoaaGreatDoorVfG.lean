/- VfC, VfG in one text. -/
import Derived.Test.YtldlnidbeiggoaaGreatDoorVcC
import Derived.Test.YtldlnidbeiggoaaGreatDoorVfB
/- Made, Inodes, NewView, Over, Fresh. -/
namespace Go.Proofs.YtldlnidbeiggoaaGreatDoor
open Go.RowKit Go.Maps
set_option linter.unusedVariables false

theorem info4 : (Tryz.prog.info? 4).map (fun i => (i.zero, i.size, i.bytes)) = some (some (.bool false), 1, 1) := by kernel_rfl
theorem infoBy : (Tryz.prog.info? 40).map (fun i => (i.zero, i.size, i.bytes)) = some (some (.slice none 0 0), 1, 24) := by kernel_rfl
theorem alloc3 (w : World) (A B C : Obj) : (((w.alloc A).alloc B).alloc C).drew.heap[w.heap.size]? = some A ∧ (((w.alloc A).alloc B).alloc C).drew.heap[w.heap.size + 1]? = some B ∧ (((w.alloc A).alloc B).alloc C).drew.heap[w.heap.size + 1 + 1]? = some C ∧ Below w.heap.size w (((w.alloc A).alloc B).alloc C).drew := by
  have z1 : (w.alloc A).heap.size = w.heap.size + 1 := by simp
  have z2 : ((w.alloc A).alloc B).heap.size = w.heap.size + 1 + 1 := by simp
  have b1 : Below (w.alloc A).heap.size (w.alloc A) ((w.alloc A).alloc B) := (Below.refl _ _).alloc (Nat.le_refl _) _
  have b2 : Below ((w.alloc A).alloc B).heap.size ((w.alloc A).alloc B) (((w.alloc A).alloc B).alloc C) := (Below.refl _ _).alloc (Nat.le_refl _) _
  rw [drew_heap]
  refine ⟨?_, ?_, ?_, ?_⟩
  · rw [b2.block _ (by omega), b1.block _ (by omega)]; exact alloc_new w A
  · rw [b2.block _ (by omega), ← z1]; exact alloc_new _ B
  · rw [← z2]; exact alloc_new _ C
  · exact ((((Below.refl _ w).alloc (Nat.le_refl _) A).alloc (by omega) B).alloc (by omega) C).drew
/-- A base while it is laid: after the first j blocks of L. -/
def BsM (w wr : World) (q N : Nat) (T : Nat → Prop) (L : List Pt) : Prop := Bs wr q T N (cont L) (fun _ => false) ∧ Below w.heap.size w wr
set_option maxRecDepth 100000 in
set_option maxHeartbeats 2000000 in
theorem Made_ok (w : World) (b i s ns : Int) (hp : PlanOk b i) (s0 : 0 ≤ s) (s1 : s < 4294967296) (n0 : 0 ≤ ns) (n1 : ns < 4294967296) :
    Calls Tryz.prog 41 #[n64 b, n64 i, .agg #[.int .u32 s, .int .u32 ns]] w fun e w' => ∃ q, e = .returned (.pointer (some ⟨q, 0, none⟩)) ∧ Bs w' q (fun g => w.heap.size ≤ g ∧ g < w'.heap.size) b.toNat (cont (mkfsL b i s ns)) (fun _ => false) ∧ Below w.heap.size w w' := by
  obtain ⟨W0, hW0⟩ : ∃ W0, W0 = w.alloc (.cells #[.int .u32 s, .int .u32 ns] 34) := ⟨_, rfl⟩
  have hb0 : Below w.heap.size w W0 := by rw [hW0]; exact (Below.refl _ _).alloc (Nat.le_refl _) _
  have hh0 : W0.heap[w.heap.size]? = some (.cells #[.int .u32 s, .int .u32 ns] 34 (0, 0)) := by rw [hW0]; exact alloc_new w _
  have t0 : W0.cell? ⟨w.heap.size, 0, none⟩ = some (.int .u32 s) := cell_of hh0 rfl
  have t1 : W0.cell? ⟨w.heap.size, 1, none⟩ = some (.int .u32 ns) := cell_of hh0 rfl
  have HC := hid (rMkfs_ok W0 b i s ns hp s0 s1 n0 n1)
  have HA := hid (mk_all (s := s) (ns := ns) hp)
  obtain ⟨N, hN⟩ : ∃ N : Nat, N = b.toNat := ⟨_, rfl⟩
  have hbN : b = (N : Int) := by have := hp.b0; omega
  have hN2 : N ≤ 65536 := by have := hp.b1; omega
  have hN1 : 128 ≤ N := by have := hp.b0; omega
  rw [← hN]
  subst hbN
  have mk1 := run_make_row' (P := Tryz.prog) 128 40 (.slice none 0 0) 24 Tryz.underlying128 infoBy rfl .i64 .i64 N (by omega) (by omega)
  have mk2 := run_make_row' (P := Tryz.prog) 93 4 (.bool false) 1 Tryz.underlying93 info4 rfl .i64 .i64 N (by omega) (by omega)
  have HB0 := hid hb0
  clear hb0 hh0 hN hp
  go_enter Tryz.func41, Tryz.ntmps41
  go_wp2_with (rw [← hW0]; clear hW0)
  refine HC.out.mono ?_
  rintro e w1 ⟨v, M, rfl, hpo, hM, hb1⟩
  obtain ⟨a1, c1, rfl, hlc, hps⟩ := hpo.ps
  have HPS := hid hps
  have HM := hid hM
  have HB1 : Hid (Below w.heap.size w w1) := hid (HB0.out.trans (hb1.mono HB0.out.size))
  clear hpo hM hb1 hps HC t0 t1
  go_upto_region 4 with fail
  go_cut [9] from 20 to 25 (fun v wc => ∃ q gB gL, v = .pointer (some ⟨q, 0, none⟩) ∧ wc.heap[q]? = some (.cells #[.slice (some ⟨gB, 0, none⟩) N N, .slice (some ⟨gL, 0, none⟩) N N] 167 (0, 0)) ∧ wc.heap[gB]? = some (.cells (madeCells #[.slice none 0 0] N) 40 (0, 0)) ∧ wc.heap[gL]? = some (.cells (madeCells #[.bool false] N) 4 (0, 0)) ∧ w1.heap.size ≤ q ∧ w1.heap.size ≤ gB ∧ w1.heap.size ≤ gL ∧ Below w1.heap.size w1 wc)
  case first =>
    go_region
    all_goals
      go_wp2_with fail
      go_meet
      obtain ⟨k1, k2, k3, k4⟩ := alloc3 w1 _ _ _
      first
        | exact ⟨_, _, _, rfl, k3, k1, k2, by omega, by omega, by omega, k4⟩
        | exact ⟨_, _, _, rfl, k3, k2, k1, by omega, by omega, by omega, k4⟩
  case rest =>
    obtain ⟨q, gB, gL, rfl, hq, hgB, hgL, lq, lB, lL, hbc⟩ := hcut
    rename World => V
    have hqB : q ≠ gB := fun e => by rw [e, hgB] at hq; simp at hq
    have hLB : gL ≠ gB := fun e => by rw [e, hgB] at hgL; simp at hgL
    have HQ := hid (And.intro hq (And.intro hgB (And.intro hgL (And.intro lq (And.intro lB (And.intro lL (And.intro hbc (And.intro hqB hLB))))))))
    obtain ⟨m, hm⟩ : ∃ m, m = M.length := ⟨_, rfl⟩
    rw [← hm] at hlc
    have hm' := hm.symm
    have HMM := hid hm
    have HML : Hid (M.length ≤ 1000000) := hid (by
      have := congrArg List.length HM.out
      rw [List.length_map] at this
      rw [this]
      unfold mkfsL
      have h3 := bmRows_len (N : Int) (planD N i) (((N : Int) + 4095) / 4096).toNat
      simp only [List.length_append, List.length_cons, List.length_nil]
      omega)
    clear hq hgB hgL lq lB lL hbc hqB hLB hm mk1 mk2
    rw [hm']
    clear hm'
    go_wp2
    go_loopw [10] (fun z wr => ∃ (j : Nat) (cB : Array Value), j ≤ m ∧ z = n64 j ∧ wr.heap[gB]? = some (.cells cB 40 (0, 0)) ∧ cB.size = N ∧ (∀ k : Nat, k < N → (cB[k]? = some (.slice none 0 0) ∧ laid ((M.map Pw.pt).take j) k = none) ∨ ∃ p ∈ M, cB[k]? = some (.slice p.a p.dat.length p.c) ∧ laid ((M.map Pw.pt).take j) k = some p.dat) ∧ Mods (fun g => g = gB) V wr) (fun z _ => m - (RowKit.intOf z).toNat)
    case atStart => exact ⟨0, _, Nat.zero_le _, rfl, HQ.out.2.1, by rw [size_madeCells], fun k hk => .inl ⟨by rw [← Array.getElem?_toList, toList_madeCells_one]; simp [hk], rfl⟩, Mods.refl _ _⟩
    case round =>
      obtain ⟨j, cB, hj, rfl, hcB, hsz, hall, hmo⟩ := hrel
      rename World => U
      have hblk : ∀ g, g < w1.heap.size → U.heap[g]? = w1.heap[g]? := fun g hg => by
        rw [hmo.block g (by have := HQ.out.2.2.2.2.2.2.1.size; omega) (fun e => by have := HQ.out.2.2.2.2.1; omega), HQ.out.2.2.2.2.2.2.1.block g hg]
      have hps : Ps U (New W0) a1 M := HPS.out.keep (fun g _ hg => hblk g hg)
      have huq : U.heap[q]? = some (.cells #[.slice (some ⟨gB, 0, none⟩) N N, .slice (some ⟨gL, 0, none⟩) N N] 167 (0, 0)) := (hmo.block _ (Array.getElem?_eq_some_iff.1 HQ.out.1).1 HQ.out.2.2.2.2.2.2.2.1).trans HQ.out.1
      by_cases hlt : j < m
      · have hlt' : (j : Int) < m := by omega
        obtain ⟨Pj, hPj⟩ : ∃ Pj, Pj = M.getD j default := ⟨_, rfl⟩
        have hjM : j < M.length := by rw [← HMM.out]; exact hlt
        obtain ⟨bb, off, rfl, _, e0, e1⟩ := hps.at_ hjM
        rw [← hPj] at e0 e1
        have hmem : Pj ∈ M := by rw [hPj]; exact getD_memP hjM
        have hA : 0 ≤ Pj.blk ∧ Pj.blk < (N : Int) ∧ Pj.dat.length = 512 := HA.out Pj.pt (by rw [← HM.out]; exact List.mem_map_of_mem hmem)
        obtain ⟨kk, hkk⟩ : ∃ kk : Nat, Pj.blk = (kk : Int) := ⟨Pj.blk.toNat, by omega⟩
        have hkN : kk < N := by omega
        have hkN' : (kk : Int) < N := by omega
        rw [hkk] at e0
        have q0 : U.drew.cell? ⟨q, 0, none⟩ = some (.slice (some ⟨gB, 0, none⟩) N N) := cell_of huq rfl
        obtain ⟨old, hold⟩ : ∃ old, cB[kk]? = some old := ⟨cB[kk]'(by omega), by simp [hsz, hkN]⟩
        have g0 : U.drew.cell? ⟨gB, kk, none⟩ = some old := cell_of hcB hold
        have gf : U.drew.frozen? ⟨gB, kk, none⟩ = false := froz_of hcB kk
        obtain ⟨dn, hdn⟩ : ∃ dn, dn = Pj.dat.length := ⟨_, rfl⟩
        rw [← hdn] at e1
        obtain ⟨pa, hpa⟩ : ∃ pa, pa = Pj.a := ⟨_, rfl⟩
        obtain ⟨pc, hpc⟩ : ∃ pc, pc = Pj.c := ⟨_, rfl⟩
        rw [← hpa, ← hpc] at e1
        have f0 : U.drew.cell? ⟨bb, off + j * 2, none⟩ = some (n64 kk) := e0
        have f1 : U.drew.cell? ⟨bb, off + j * 2 + 1, none⟩ = some (.slice pa dn pc) := e1
        have hw2 : IntKind.i64.wrap ((j : Int) + 1) = ((j + 1 : Nat) : Int) := by rw [IntWalk.i64_in _ (by have := HML.out; omega)]; omega
        have HN : Hid (∃ cB', ((U.setCell ⟨gB, kk, none⟩ (.slice pa dn pc)).drew).heap[gB]? = some (.cells cB' 40 (0, 0)) ∧ cB'.size = N ∧ (∀ k : Nat, k < N → (cB'[k]? = some (.slice none 0 0) ∧ laid ((M.map Pw.pt).take (j + 1)) k = none) ∨ ∃ p ∈ M, cB'[k]? = some (.slice p.a p.dat.length p.c) ∧ laid ((M.map Pw.pt).take (j + 1)) k = some p.dat) ∧ Mods (fun g => g = gB) V (U.setCell ⟨gB, kk, none⟩ (.slice pa dn pc)).drew) := hid (by
          refine ⟨_, setc hcB kk (.slice pa dn pc), by simp [hsz], fun k hk => ?_, (hmo.setCell gB kk _ rfl).drew⟩
          rw [laid_take _ j (by rw [List.length_map]; exact hjM), map_getD M j hjM, ← hPj]
          show _ ∨ _
          by_cases e : k = kk
          · subst e
            refine .inr ⟨Pj, hmem, ?_, by rw [if_pos (show Pj.pt.blk = (k : Int) from hkk)]; rfl⟩
            rw [Array.getElem?_setIfInBounds_self_of_lt (by omega), hpa, hdn, hpc]
          · rw [if_neg (show ¬ Pj.pt.blk = (k : Int) from fun h => e (by have h2 : Pj.blk = (k : Int) := h; omega)), Array.getElem?_setIfInBounds_ne (by omega)]
            exact hall k hk)
        clear hblk hps huq hPj hjM hmem hA hkk hold hcB hall hmo hpa hpc hdn e0 e1
        go_wp2_with fail
        go_region
        all_goals
          go_wp2
          go_roundw
          case rel =>
            obtain ⟨cB', k1, k2, k3, k4⟩ := HN.out
            exact ⟨j + 1, cB', by omega, by first | rfl | go_num, k1, k2, k3, k4⟩
          case measure => simp [RowKit.intOf]; omega
      · have hlt' : ¬ (j : Int) < m := by omega
        obtain rfl : j = m := by omega
        have HFIN : Hid (Bs U q (fun g => w.heap.size ≤ g ∧ g < U.heap.size) N (cont (mkfsL N i s ns)) (fun _ => false) ∧ Below w.heap.size w U) := hid (by
          have hsw := HB1.out.size
          have htk : (M.map Pw.pt).take j = mkfsL N i s ns := by rw [← HM.out, List.take_of_length_le (by rw [List.length_map, ← HMM.out]; exact Nat.le_refl _)]
          rw [htk] at hall
          refine ⟨⟨gB, gL, cB, _, huq, hcB, (hmo.block _ (Array.getElem?_eq_some_iff.1 HQ.out.2.2.1).1 HQ.out.2.2.2.2.2.2.2.2).trans HQ.out.2.2.1, ⟨by have := HQ.out.2.2.2.1; omega, (Array.getElem?_eq_some_iff.1 huq).1⟩, ⟨by have := HQ.out.2.2.2.2.1; omega, (Array.getElem?_eq_some_iff.1 hcB).1⟩, ⟨by have := HQ.out.2.2.2.2.2.1; omega, Nat.lt_of_lt_of_le (Array.getElem?_eq_some_iff.1 HQ.out.2.2.1).1 hmo.size⟩, fun k hk => by rw [← Array.getElem?_toList, toList_madeCells_one]; simp [hk], fun k hk => ?_⟩, ?_⟩
          · rcases hall k hk with ⟨h1, h2⟩ | ⟨p, hp, h1, h2⟩
            · exact .inl ⟨h1, by unfold cont; rw [h2]; rfl⟩
            · have h512 : p.dat.length = 512 := (HA.out p.pt (by rw [← HM.out]; exact List.mem_map_of_mem hp)).2.2
              obtain ⟨hy, hc⟩ := hps.1 p hp
              have hcont : cont (mkfsL N i s ns) k = p.dat := by unfold cont; rw [h2]; rfl
              obtain ⟨gb, go, ea, _, _⟩ := hy.addr (by omega)
              rw [ea] at h1 hy
              rw [h512] at h1 hc
              exact .inr ⟨_, _, h1, hc, by rw [hcont]; exact h512, by rw [hcont]; exact hy.weak (fun g hg hl => ⟨Nat.le_trans HB0.out.size hg, hl⟩)⟩
          · have h2 : Below w.heap.size w V := HB1.out.trans (HQ.out.2.2.2.2.2.2.1.mono hsw)
            exact hmo.to_below h2 h2.size (fun g hg => by subst hg; have := HQ.out.2.2.2.2.1; omega))
        clear hblk hps huq hcB hall hmo
        go_wp2
        go_ret
        exact ⟨q, rfl, HFIN.out.1, HFIN.out.2⟩
end Go.Proofs.YtldlnidbeiggoaaGreatDoor

/- give; the view's calls by it. -/
namespace Go.Proofs.YtldlnidbeiggoaaGreatDoor
open Go.RowKit Go.Maps
set_option linter.unusedVariables false

variable {w w' : World} {pv n q N : Nat} {S S' T : Nat → Prop} {b i : Int} {P : Int → Option (List Int)} {bc : Nat → List Int} {lk : Nat → Bool}
set_option maxRecDepth 100000 in
set_option maxHeartbeats 1000000 in
theorem give_arg (base : Value) (h : Vw w pv S b i base n P) (f lo hi x : Int) (hx : x < lo ∨ hi ≤ x) :
    Calls Tryz.prog 161 #[.pointer (some ⟨pv, 0, none⟩), .agg #[n64 f, n64 lo, n64 hi], n64 x] w fun e w' => e = .returned (.iface 107 (n64 1)) ∧ Below w.heap.size w w' := by
  clear h
  by_cases h1 : x < lo
  · clear hx
    go_enter Tryz.func161, Tryz.ntmps161
    go_wp2
    go_ret
    exact ⟨rfl, (Below.refl _ _).alloc (Nat.le_refl _) _⟩
  · have h2 : hi ≤ x := by omega
    clear hx
    go_enter Tryz.func161, Tryz.ntmps161
    go_wp2
    go_ret
    exact ⟨rfl, (Below.refl _ _).alloc (Nat.le_refl _) _⟩
set_option maxRecDepth 100000 in
set_option maxHeartbeats 1000000 in
theorem give_any (h : Vw w pv S b i (baseV q) n P) (hB : Bs w q T N bc lk) (hSb : ∀ g, S g → g < w.heap.size) (hn : n < 900000) (hN : N ≤ 100000) (f lo hi x : Nat) (hx0 : lo ≤ x) (hx1 : x < hi) (hfN : f + x / 4096 < N) (hlk : lk (f + x / 4096) = false) (hhi : hi < 100000)
    (F : Nat → Bool) (hF : ct P bc (f + x / 4096) = bitB (rowF F (x / 4096))) :
    Calls Tryz.prog 161 #[.pointer (some ⟨pv, 0, none⟩), .agg #[n64 f, n64 lo, n64 hi], n64 x] w fun e w' =>
      (F x = true ∧ e = .returned .nilIface ∧ ∃ S', Vw w' pv S' b i (baseV q) (n + 1) (upd P ((f + x / 4096 : Nat) : Int) (some (bitB (flip1 (rowF F (x / 4096)) (x % 4096))))) ∧ Kp S w S' w' ∧ ∀ g, S' g → g < w'.heap.size) ∨
      (F x = false ∧ e = .returned (.iface 107 (n64 2)) ∧ Below w.heap.size w w') := by
  obtain ⟨W0, hW0⟩ : ∃ W, W = w.alloc (.cells #[n64 f, n64 lo, n64 hi] 184) := ⟨_, rfl⟩
  have hb0 : Below w.heap.size w W0 := by rw [hW0]; exact (Below.refl _ _).alloc (Nat.le_refl _) _
  have hh0 : W0.heap[w.heap.size]? = some (.cells #[n64 f, n64 lo, n64 hi] 184 (0, 0)) := by rw [hW0]; exact alloc_new w _
  have c0 : W0.cell? ⟨w.heap.size, 0, none⟩ = some (n64 f) := cell_of hh0 rfl
  have c1 : W0.cell? ⟨w.heap.size, 1, none⟩ = some (n64 lo) := cell_of hh0 rfl
  have c2 : W0.cell? ⟨w.heap.size, 2, none⟩ = some (n64 hi) := cell_of hh0 rfl
  have hx0' : ¬ (x : Int) < lo := by omega
  have hx1' : ¬ (hi : Int) ≤ x := by omega
  have HPl := place_any W0 (f : Int) (lo : Int) (hi : Int) x (by omega) (by omega) (by omega)
  obtain ⟨y, hy⟩ : ∃ y : Nat, y = f + x / 4096 := ⟨_, rfl⟩
  obtain ⟨z, hz⟩ : ∃ z : Nat, z = x % 4096 := ⟨_, rfl⟩
  rw [show (f : Int) + ((x / 4096 : Nat) : Int) = (y : Int) by omega, ← hz] at HPl
  replace HPl := hid HPl
  have HL := hid (fun (W : World) (hb : Below W0.heap.size W0 W) => look_any ((h.later hb0).later hb) ((hB.later hb0).later hb) y (by rw [hy]; exact hfN) hN (by rw [hy]; exact hlk))
  have hFx : F x = rowF F (x / 4096) z := by unfold rowF; rw [hz]; congr 1; omega
  rw [← hy] at hF ⊢
  rw [← hz, hFx]
  obtain ⟨G, hG⟩ : ∃ G, G = rowF F (x / 4096) := ⟨_, rfl⟩
  rw [← hG] at hF ⊢
  have hz4 : z < 4096 := by omega
  have HV := hid (h.later hb0)
  have HB0 := hid hb0
  have HSB := hid hSb
  have HF := hid hF
  have HY1000 : Hid (y < 1000000) := hid (by omega)
  clear h hB hb0 hh0 hSb hF hFx hG hy hz hlk hfN
  go_enter Tryz.func161, Tryz.ntmps161
  go_wp2_with (rw [← hW0]; clear hW0)
  refine HPl.out.mono ?_
  rintro e w1 ⟨rfl, hb1⟩
  have HB1 := hid hb1
  have HL1 := hid (HL.out w1 hb1)
  clear hb1 HPl HL c0 c1 c2
  go_wp2_with fail
  refine HL1.out.mono ?_
  rintro e w2 ⟨a2, c2, rfl, hy2, hc2, hb2⟩
  rw [HF.out] at hy2
  have HB2 : Hid (Below W0.heap.size W0 w2) := hid (HB1.out.trans (hb2.mono HB1.out.size))
  have HY2 := hid hy2
  have HIT := isTaken_any w2 _ (some a2) c2 G hy2 z hz4
  clear hy2 hb2 HL1 HB1
  cases hGz : G z
  · rw [hGz] at HIT
    replace HIT := hid HIT
    go_wp2_with fail
    refine HIT.out.mono ?_
    rintro e w3 ⟨rfl, rfl⟩
    go_wp2
    go_ret
    exact .inr ⟨hGz, rfl, HB0.out.trans (HB2.out.mono HB0.out.size)⟩
  · rw [hGz] at HIT
    replace HIT := hid HIT
    go_wp2_with fail
    refine HIT.out.mono ?_
    rintro e w6 ⟨rfl, rfl⟩
    have HTU := hid (turned_any w6.drew (fun _ => True) (some a2) c2 G HY2.out z hz4)
    have HCo := hid (fun (W : World) (hbW : Below w6.drew.heap.size w6.drew W) (a' : Option Addr) (c' : Nat) (ho : W.ownsRow w6.drew.heap.size 5 1 (.slice a' 512 c') 512 (u8s (bitB (flip1 G z)))) => show Calls Tryz.prog 104 #[.pointer (some ⟨pv, 0, none⟩), n64 (y : Int), .slice a' 512 c'] W (fun e w' => e = .returned (.tuple #[]) ∧ Vw w' pv (fun g => S g ∨ w6.drew.heap.size ≤ g) b i (baseV q) (n + 1) (upd P (y : Int) (some (bitB (flip1 G z)))) ∧ Mods S W w') by
      obtain ⟨a5, c5, e5, h5, _, hy5⟩ := By.of_owns (S := fun g => w6.drew.heap.size ≤ g) ho (bitB_isB _) (fun g hg => (owns_lt ho hg).2)
      simp only [Value.slice.injEq, true_and] at e5
      obtain ⟨rfl, rfl⟩ := e5
      have hVW : Vw W pv S b i (baseV q) n P := HV.out.later (HB2.out.drew.trans (hbW.mono HB2.out.size))
      exact lay_any hVW (by omega) (y : Int) (isI_nat (by omega) (by have := HY1000.out; omega)) _ _ (bitB_len _) _ _ h5 hy5)
    clear HIT
    go_wp2_with fail
    go_region_held3 (fun _ => True) (trivial)
      ((first
        | (go_at_call 136; refine HTU.out.mono ?_; rintro e w7 ⟨a7, c7, rfl, ho7, hb7⟩; have HB7 := hid hb7; have HO7 := hid ho7; clear ho7 hb7 HTU)
        | (go_at_call 104; refine (HCo.out w7 HB7.out a7 c7 HO7.out).mono ?_; rintro e w8 ⟨rfl, hv8, hm8⟩; have HV8 := hid hv8; have HM8 := hid hm8; clear hv8 hm8)))
    go_wp2
    go_ret
    left
    refine ⟨hGz, rfl, fun g => (S g ∨ w6.drew.heap.size ≤ g) ∧ g < w8.heap.size, HV8.out.cap, ⟨fun g hg => ?_, ?_⟩, fun g hg => hg.2⟩
    · have e9 : w6.drew.heap.size = w6.heap.size := rfl
      have := HB2.out.size
      have := HB0.out.size
      rcases hg.1 with h3 | h3
      · exact .inl h3
      · exact .inr (by omega)
    · have hbw : Below w.heap.size w w7 := HB0.out.trans ((HB2.out.drew.trans (HB7.out.mono HB2.out.size)).mono HB0.out.size)
      exact (Mods.of_below hbw).tr HM8.out
theorem vcells {base : Value} (h : Vw w pv S b i base n P) : w.cell? ⟨pv, 10, none⟩ = some (n64 69) ∧ w.cell? ⟨pv, 11, none⟩ = some (n64 (planD b i)) ∧ w.cell? ⟨pv, 12, none⟩ = some (n64 b) ∧ w.cell? ⟨pv, 13, none⟩ = some (n64 68) ∧ w.cell? ⟨pv, 14, none⟩ = some (n64 2) ∧ w.cell? ⟨pv, 15, none⟩ = some (n64 i) := by
  obtain ⟨m, MV, h1, _⟩ := h
  exact ⟨cell_of h1 rfl, cell_of h1 rfl, cell_of h1 rfl, cell_of h1 rfl, cell_of h1 rfl, cell_of h1 rfl⟩
set_option maxHeartbeats 1000000 in
theorem TakeBlock_via {base : Value} (h : Vw w pv S b i base n P) (R : Ending → World → Prop) (hc : Calls Tryz.prog 89 #[.pointer (some ⟨pv, 0, none⟩), .agg #[n64 69, n64 (planD b i), n64 b]] w R) (hR : ∀ e w', R e w' → ∃ x : Int, e = .returned (.tuple #[n64 x, .nilIface]) ∨ ∃ t v, e = .returned (.tuple #[n64 x, .iface t v])) :
    Calls Tryz.prog 162 #[.pointer (some ⟨pv, 0, none⟩)] w R := by
  obtain ⟨c0, c1, c2, _, _, _⟩ := vcells h
  have HC := hid hc
  have HR := hid hR
  clear h hc hR
  go_enter Tryz.func162, Tryz.ntmps162
  go_wp2_with fail
  refine HC.out.mono ?_
  intro e w2 hr
  have HRR := hid hr
  obtain ⟨x, rfl | ⟨t, v, rfl⟩⟩ := HR.out e w2 hr
  all_goals
    clear hr
    go_wp2
    exact HRR.out
set_option maxHeartbeats 1000000 in
theorem TakeInode_via {base : Value} (h : Vw w pv S b i base n P) (R : Ending → World → Prop) (hc : Calls Tryz.prog 89 #[.pointer (some ⟨pv, 0, none⟩), .agg #[n64 68, n64 2, n64 i]] w R) (hR : ∀ e w', R e w' → ∃ x : Int, e = .returned (.tuple #[n64 x, .nilIface]) ∨ ∃ t v, e = .returned (.tuple #[n64 x, .iface t v])) :
    Calls Tryz.prog 45 #[.pointer (some ⟨pv, 0, none⟩)] w R := by
  obtain ⟨_, _, _, c0, c1, c2⟩ := vcells h
  have HC := hid hc
  have HR := hid hR
  clear h hc hR
  go_enter Tryz.func45, Tryz.ntmps45
  go_wp2_with fail
  refine HC.out.mono ?_
  intro e w2 hr
  have HRR := hid hr
  obtain ⟨x, rfl | ⟨t, v, rfl⟩⟩ := HR.out e w2 hr
  all_goals
    clear hr
    go_wp2
    exact HRR.out
set_option maxHeartbeats 1000000 in
theorem GiveBlock_via {base : Value} (h : Vw w pv S b i base n P) (k : Int) (R : Ending → World → Prop) (hc : Calls Tryz.prog 161 #[.pointer (some ⟨pv, 0, none⟩), .agg #[n64 69, n64 (planD b i), n64 b], n64 k] w R) (hR : ∀ e w', R e w' → e = .returned .nilIface ∨ ∃ t v, e = .returned (.iface t v)) :
    Calls Tryz.prog 140 #[.pointer (some ⟨pv, 0, none⟩), n64 k] w R := by
  obtain ⟨c0, c1, c2, _, _, _⟩ := vcells h
  have HC := hid hc
  have HR := hid hR
  clear h hc hR
  go_enter Tryz.func140, Tryz.ntmps140
  go_wp2_with fail
  refine HC.out.mono ?_
  intro e w2 hr
  have HRR := hid hr
  obtain rfl | ⟨t, v, rfl⟩ := HR.out e w2 hr
  all_goals
    clear hr
    go_wp2
    exact HRR.out
end Go.Proofs.YtldlnidbeiggoaaGreatDoor
