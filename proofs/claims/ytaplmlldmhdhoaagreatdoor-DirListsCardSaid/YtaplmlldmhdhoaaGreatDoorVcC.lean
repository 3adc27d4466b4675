/- The document's Mkfs. -/
import Derived.Test.YtaplmlldmhdhoaaGreatDoorVcB
namespace Go.Proofs.YtaplmlldmhdhoaaGreatDoor
open Go.RowKit Go.Maps
set_option linter.unusedVariables false

set_option maxRecDepth 100000 in
set_option maxHeartbeats 1000000 in
theorem rMkfs_no (w : World) (b i s ns : Int) (h : planE b i ≠ 0) :
    Calls Tryz.prog 51 #[n64 b, n64 i, .agg #[.int .u32 s, .int .u32 ns]] w fun e w' => e = .returned (.tuple #[.slice none 0 0, n64 (planE b i)]) ∧ Below w.heap.size w w' := by
  obtain ⟨W0, hW0⟩ : ∃ W0, W0 = w.alloc (.cells #[.int .u32 s, .int .u32 ns] 28) := ⟨_, rfl⟩
  have hb0 : Below w.heap.size w W0 := by rw [hW0]; exact (Below.refl _ _).alloc (Nat.le_refl _) _
  have HC := hid (rPlan_any b i W0)
  have HB0 := hid hb0
  rw [supA_no h] at HC
  generalize planE b i = E at *
  have hE : (E != 0) = true := by simpa using h
  clear hb0
  unfold sup0 at HC
  go_enter Tryz.func51, Tryz.ntmps51
  go_wp2_with fail
  rw [← hW0]
  clear hW0
  refine HC.out.mono ?_
  rintro e w1 ⟨rfl, hb1⟩
  have HB1 : Hid (Below w.heap.size w w1) := hid (HB0.out.trans (hb1.mono HB0.out.size))
  clear hb1 HC
  go_wp2
  go_ret2
  exact ⟨rfl, HB1.out.alloc HB1.out.size _⟩
set_option maxRecDepth 100000 in
set_option maxHeartbeats 4000000 in
theorem rMkfs_ok (w : World) (b i s ns : Int) (hp : PlanOk b i) (s0 : 0 ≤ s) (s1 : s < 4294967296) (n0 : 0 ≤ ns) (n1 : ns < 4294967296) :
    Calls Tryz.prog 51 #[n64 b, n64 i, .agg #[.int .u32 s, .int .u32 ns]] w fun e w' => ∃ v M, e = .returned (.tuple #[v, n64 0]) ∧ PO w' (New w) v M ∧ M.map Pw.pt = mkfsL b i s ns ∧ Below w.heap.size w w' := by
  have HPO := hid hp
  obtain ⟨b0, b1, i0, i1, i4, hd⟩ := hp
  obtain ⟨W0, hW0⟩ : ∃ W0, W0 = w.alloc (.cells #[.int .u32 s, .int .u32 ns] 28) := ⟨_, rfl⟩
  have hb0 : Below w.heap.size w W0 := by rw [hW0]; exact (Below.refl _ _).alloc (Nat.le_refl _) _
  have hn0 : W0.heap[w.heap.size]? = some (.cells (timeC s ns) 28 (0, 0)) := by rw [hW0]; exact alloc_new w _
  have HC := hid (rPlan_any b i W0)
  rw [supA_ok HPO.out.e, HPO.out.e] at HC
  have HN0 := hid hn0
  have HB0 := hid hb0
  clear hb0 hn0
  have hmk := run_make_row' (P := Tryz.prog) 59 5 (.int .u8 0) 1 Tryz.underlying59 info5 rfl .i64 .i64 512 (by omega) (by omega)
  rw [show ((512 : Nat) : Int) = 512 by omega] at hmk
  unfold supC at HC
  go_enter Tryz.func51, Tryz.ntmps51
  go_wp2_with fail
  rw [← hW0]
  clear hW0
  refine HC.out.mono ?_
  rintro e w1 ⟨rfl, hb1⟩
  obtain ⟨W2, hW2⟩ : ∃ W2, W2 = w1.alloc (.cells #[n64 b, n64 i, n64 1, n64 2, n64 68, n64 69, n64 (planT b), n64 (planD b i)] 165) := ⟨_, rfl⟩
  have hb2 : Below w1.heap.size w1 W2 := by rw [hW2]; exact (Below.refl _ _).alloc (Nat.le_refl _) _
  have hs2 : W2.heap[w1.heap.size]? = some (.cells (supC b i) 165 (0, 0)) := by rw [hW2]; exact alloc_new w1 _
  have hB1 : Below w.heap.size w w1 := HB0.out.trans (hb1.mono HB0.out.size)
  have hB2 : Below w.heap.size w W2 := hB1.trans (hb2.mono hB1.size)
  have hn2 : W2.heap[w.heap.size]? = some (.cells (timeC s ns) 28 (0, 0)) := by
    have hlt := (Array.getElem?_eq_some_iff.1 HN0.out).1
    exact (hb2.block _ (Nat.lt_of_lt_of_le hlt hb1.size)).trans ((hb1.block _ hlt).trans HN0.out)
  obtain ⟨sb, hsb⟩ : ∃ sb, sb = w1.heap.size := ⟨_, rfl⟩
  rw [← hsb] at hs2
  have hE := hid (rEncode_any b i HPO.out W2)
  obtain ⟨d0, d1, d2, d3, d4, d5, d6, d7⟩ := cells8 hs2
  have HX : Hid (W2.heap[sb]? = some (.cells (supC b i) 165 (0, 0)) ∧ W2.heap[w.heap.size]? = some (.cells (timeC s ns) 28 (0, 0)) ∧ Below w.heap.size w W2) := hid ⟨hs2, hn2, hB2⟩
  have hsb' := hsb.symm
  clear hb1 hb2 hs2 hB1 hB2 hn2 hsb HC HN0 HB0
  unfold supC at hE
  go_wp2_with (first | (rw [← hW2]; clear hW2))
  refine hE.out.mono ?_
  rintro e w3 ⟨a3, c3, rfl, ho3, hb3⟩
  obtain ⟨a3', c3', e3, hc3, _, hy3⟩ := By.of_owns (S := New w) ho3 (encL_isB b i) (fun g hg => Nat.le_trans HX.out.2.2.size (owns_lt ho3 hg).2)
  simp only [Value.slice.injEq, true_and] at e3
  obtain ⟨rfl, rfl⟩ := e3
  obtain ⟨V, hV⟩ : ∃ V, V = w3.alloc (.cells #[n64 0, .slice a3 512 c3] 113) := ⟨_, rfl⟩
  have hB3 : Below w.heap.size w w3 := HX.out.2.2.trans (hb3.mono HX.out.2.2.size)
  have hbV : Below w3.heap.size w3 V := by rw [hV]; exact (Below.refl _ _).alloc (Nat.le_refl _) _
  have hbV2 : Below W2.heap.size W2 V := hb3.trans (hbV.mono hb3.size)
  have hMV : MkI w V sb w.heap.size b i s ns (.slice (some ⟨w3.heap.size, 0, none⟩) 1 1) [⟨0, encL b i⟩] := by
    refine ⟨⟨_, by rw [hV]; exact PO.one w w3 hB3.size 0 (encL b i) a3 512 c3 (encL_len b i) hy3 hc3, rfl⟩, (hbV2.block _ (Array.getElem?_eq_some_iff.1 HX.out.1).1).trans HX.out.1, (hbV2.block _ (Array.getElem?_eq_some_iff.1 HX.out.2.1).1).trans HX.out.2.1, hB3.trans (hbV.mono hB3.size)⟩
  have HMV := hid hMV
  obtain ⟨U, hU⟩ : ∃ U, U = V.alloc (.cells (madeCells #[.int .u8 0] 512) 5) := ⟨_, rfl⟩
  have HU : Hid (BitR U V.heap.size (fun _ => false) ∧ Below V.heap.size V U) := hid (by rw [hU]; exact ⟨BitR.made V, (Below.refl _ _).alloc (Nat.le_refl _) _⟩)
  clear ho3 hb3 hc3 hy3 hB3 hbV hbV2 hMV hE hsb'
  clear d0 d1 d2 d3 d4 d5 d6 d7 HX
  go_wp2_with (first | (rw [← hV]; clear hV) | (rw [← hU]; clear hU))
  go_loopw [12] (fun z wr => ∃ k : Nat, k ≤ 4096 ∧ z = n64 k ∧ BitR wr V.heap.size (fun j => decide (j < k) && imB i j) ∧ Below V.heap.size V wr) (fun z _ => 4096 - (RowKit.intOf z).toNat)
  case atStart => exact ⟨0, by omega, rfl, by simpa using HU.out.1, HU.out.2⟩
  case round =>
    obtain ⟨k, hk, rfl, hbr, hb⟩ := hrel
    have HBR := hid hbr
    have HB := hid hb
    clear hbr hb HU
    by_cases hlt : k < 4096
    · have hki : (k : Int) < 4096 := by omega
      clear hk
      by_cases hP : imB i k = true
      · have HC := hid (Set_any wr V.heap.size _ HBR.out k hlt)
        have hP' : (k : Int) < 2 ∨ (¬ (k : Int) < 2 ∧ i ≤ (k : Int)) := by
          simp only [imB, Bool.or_eq_true, decide_eq_true_eq] at hP
          omega
        have HPP := hid hP
        clear hP
        rcases hP' with h2 | ⟨h2, h3⟩
        all_goals
          go_wp2_with fail
          refine HC.out.mono ?_
          rintro e w5 ⟨rfl, hbr5, hmo5⟩
          have HBR5 := hid (hbr5.congr (f' := fun j => decide (j < k + 1) && imB i j) (fun j _ => front_step (imB i) k HPP.out j))
          have HB5 : Hid (Below V.heap.size V w5) := hid (hmo5.to_below HB.out HB.out.size (fun g hg => by subst hg; exact Nat.le_refl _))
          clear hbr5 hmo5
          go_wp2
          go_roundw
          case rel => exact ⟨k + 1, by omega, by go_num, HBR5.out, HB5.out⟩
          case measure => simp [RowKit.intOf]; omega
      · have hP2 : imB i k = false := by simpa using hP
        have h2 : ¬ (k : Int) < 2 := fun e => hP (by simp [imB, e])
        have h3 : ¬ i ≤ (k : Int) := fun e => hP (by simp [imB, e])
        have HBR5 := hid (HBR.out.congr (f' := fun j => decide (j < k + 1) && imB i j) (fun j _ => front_skip (imB i) k hP2 j))
        clear hP hP2
        go_wp2
        go_roundw
        case rel => exact ⟨k + 1, by omega, by go_num, HBR5.out, HB.out⟩
        case measure => simp [RowKit.intOf]; omega
    · have hki : ¬ ((k : Int) < 4096) := by omega
      obtain rfl : k = 4096 := by omega
      have HBR6 := hid (HBR.out.congr (f' := imB i) (fun j hj => by simp [hj]))
      rename World => U2
      have hM := HMV.out.later HB.out
      have h5 := hM.cells.1
      obtain ⟨a4, n4, c4, w4, hap4, hM4⟩ := hM.push 68 (bitB (imB i)) (some ⟨V.heap.size, 0, none⟩) 512 512 (bitB_len _) (HBR6.out.by_ HMV.out.bel.size) (Nat.le_refl _) (by simp)
      obtain ⟨X4, hX4⟩ : ∃ X, X = U2.alloc (.cells #[n64 68, .slice (some ⟨V.heap.size, 0, none⟩) 512 512] 113) := ⟨_, rfl⟩
      rw [← hX4] at hap4
      have h7 := hM4.cells.2.1
      have HM4 := hid hM4
      obtain ⟨T, hT⟩ : ∃ T, T = planT b := ⟨_, rfl⟩
      obtain ⟨D, hD⟩ : ∃ D, D = planD b i := ⟨_, rfl⟩
      obtain ⟨R, hR⟩ : ∃ R : Nat, R = ((b + 4095) / 4096).toNat := ⟨_, rfl⟩
      have hTR : T = 69 + (R : Int) := by rw [hT, hR]; unfold planT; omega
      have hR16 : R ≤ 16 := by omega
      have hDb : 0 ≤ D ∧ D + 8 ≤ b := by rw [hD]; refine ⟨?_, hd⟩; unfold planD planT; omega
      have HMK : Hid (mkfsL b i s ns = [⟨0, encL b i⟩, ⟨68, bitB (imB i)⟩] ++ bmRows b D R ++ [⟨T, nodeL D s ns⟩, ⟨D, linesL⟩]) := hid (by rw [hT, hD, hR]; rfl)
      have HTR := hid hTR
      have HDB := hid hDb
      have HDD := hid hD
      have HTT := hid hT
      clear hM hM4 HBR6 HBR HB hk hki hlt hT hD hR hTR hDb HMV
      clear hd b0 b1 i0 i1 i4
      go_wp2_with (first | (at_builtin; rw [← hX4]; clear hX4; refine wpList_append_run rfl _ _ 106 rfl rfl rfl hap4 ?_; clear hap4))
      clear h5 h7
      go_loopw [10, 13] (fun v z wr => ∃ r : Nat, r ≤ R ∧ z = n64 (69 + (r : Int)) ∧ MkI w wr sb w.heap.size b i s ns v ([⟨0, encL b i⟩, ⟨68, bitB (imB i)⟩] ++ bmRows b D r)) (fun _ z _ => R + 69 - (RowKit.intOf z).toNat)
      case atStart => exact ⟨0, by omega, rfl, HM4.out⟩
      case round =>
        obtain ⟨r, hr, rfl, hM⟩ := hrel
        rename World => V5
        have h6 : V5.cell? ⟨sb, 6, none⟩ = some (n64 (69 + (R : Int))) := by
          rw [hM.cells.2.2.1, ← HTT.out, HTR.out]
        have HM := hid hM
        clear hM HM4
        by_cases hlt : r < R
        · have hlt' : 69 + (r : Int) < 69 + R := by omega
          obtain ⟨U, hU⟩ : ∃ U, U = V5.alloc (.cells (madeCells #[.int .u8 0] 512) 5) := ⟨_, rfl⟩
          have HU : Hid (BitR U V5.heap.size (fun _ => false) ∧ Below V5.heap.size V5 U) := hid (by rw [hU]; exact ⟨BitR.made V5, (Below.refl _ _).alloc (Nat.le_refl _) _⟩)
          obtain ⟨P, hP⟩ : ∃ P, P = bmB b D r := ⟨_, rfl⟩
          have hPk : ∀ k : Nat, P k = (decide ((r : Int) * 4096 + k ≤ D) || decide (b ≤ (r : Int) * 4096 + k)) := fun k => by rw [hP]; simp [bmB]
          have HPk := hid hPk
          have HPP := hid hP
          obtain ⟨A, hA⟩ : ∃ A : Nat → Bool, A = fun k => (List.range k).any P := ⟨_, rfl⟩
          have HA0 : Hid (A 0 = false) := hid (by rw [hA]; rfl)
          have HAS : Hid (∀ k, A (k + 1) = (A k || P k)) := hid (fun k => by rw [hA]; exact any_snoc P k)
          have HAE : Hid ((List.range 4096).any (bmB b D r) = A 4096) := hid (by rw [hA, hP])
          clear hPk hP hA
          go_wp2_with (first | (rw [← hU]; clear hU))
          clear h6
          go_loopw [15, 16] (fun q z wq => ∃ k : Nat, k ≤ 4096 ∧ z = n64 k ∧ q = .bool (A k) ∧ BitR wq V5.heap.size (fun j => decide (j < k) && P j) ∧ Below V5.heap.size V5 wq) (fun _ z _ => 4096 - (RowKit.intOf z).toNat)
          case atStart => exact ⟨0, by omega, rfl, by rw [HA0.out], by simpa using HU.out.1, HU.out.2⟩
          case round =>
            obtain ⟨k, hk, rfl, rfl, hbr, hb⟩ := hrel
            rename World => Wq
            have HBR := hid hbr
            have HB := hid hb
            obtain ⟨_, k5, _, k7⟩ := (HM.out.later hb).cells
            rw [← HDD.out] at k7
            have HAN := hid (HAS.out k)
            clear hbr hb HU
            by_cases hk4 : k < 4096
            · have hki : (k : Int) < 4096 := by omega
              have hw1 : IntKind.i64.wrap (69 + (r : Int) - 69) = (r : Int) := by rw [IntWalk.i64_in _ (by omega)]; omega
              have hw2 : IntKind.i64.wrap ((r : Int) * 4096) = (r : Int) * 4096 := IntWalk.i64_in _ (by omega)
              have hw3 : IntKind.i64.wrap ((r : Int) * 4096 + (k : Int)) = (r : Int) * 4096 + k := IntWalk.i64_in _ (by omega)
              have hPk := HPk.out k
              clear hk
              by_cases hP : P k = true
              · have HC := hid (Set_any Wq V5.heap.size _ HBR.out k hk4)
                have hP' : ((r : Int) * 4096 + k ≤ D) ∨ (¬ ((r : Int) * 4096 + k ≤ D) ∧ b ≤ (r : Int) * 4096 + k) := by
                  rw [hPk] at hP
                  simp only [Bool.or_eq_true, decide_eq_true_eq] at hP
                  omega
                have HPT := hid hP
                clear hP hPk
                rcases hP' with h2 | ⟨h2, h3⟩
                all_goals
                  go_wp2_with fail
                  refine HC.out.mono ?_
                  rintro e w6 ⟨rfl, hbr5, hmo5⟩
                  have HBR5 := hid (hbr5.congr (f' := fun j => decide (j < k + 1) && P j) (fun j _ => front_step P k HPT.out j))
                  have HB5 : Hid (Below V5.heap.size V5 w6) := hid (hmo5.to_below HB.out HB.out.size (fun g hg => by subst hg; exact Nat.le_refl _))
                  clear hbr5 hmo5
                  go_wp2
                  go_roundw
                  case rel => exact ⟨k + 1, by omega, by go_num, by rw [HAN.out, HPT.out, Bool.or_true], HBR5.out, HB5.out⟩
                  case measure => simp [RowKit.intOf]; omega
              · have hP2 : P k = false := by simpa using hP
                rw [hPk] at hP2
                simp only [Bool.or_eq_false_iff, decide_eq_false_iff_not] at hP2
                obtain ⟨h2, h3⟩ := hP2
                have HPF : Hid (P k = false) := hid (by simpa using hP)
                have HBR5 := hid (HBR.out.congr (f' := fun j => decide (j < k + 1) && P j) (fun j _ => front_skip P k HPF.out j))
                clear hP hPk
                go_wp2
                go_roundw
                case rel => exact ⟨k + 1, by omega, by go_num, by rw [HAN.out, HPF.out, Bool.or_false], HBR5.out, HB.out⟩
                case measure => simp [RowKit.intOf]; omega
            · have hki : ¬ ((k : Int) < 4096) := by omega
              obtain rfl : k = 4096 := by omega
              have HBR6 := hid (HBR.out.congr (f' := P) (fun j hj => by simp [hj]))
              have HM6 := hid (HM.out.later HB.out)
              clear HAN HBR k5 k7
              have hw1 : IntKind.i64.wrap (69 + (r : Int) + 1) = 69 + ((r + 1 : Nat) : Int) := by rw [IntWalk.i64_in _ (by omega)]; omega
              have HBE : Hid (bmRows b D (r + 1) = bmRows b D r ++ (if A 4096 then [⟨69 + (r : Int), bitB P⟩] else [])) := hid (by
                show bmRows b D r ++ (if (List.range 4096).any (bmB b D r) then [⟨69 + (r : Int), bitB (bmB b D r)⟩] else []) = _
                rw [HAE.out, HPP.out])
              cases hA : A 4096
              · rw [hA] at HBE
                have HM7 := hid HM6.out
                clear HA0 HAS HAE
                go_wp2
                go_roundw
                case rel => exact ⟨r + 1, by omega, rfl, by rw [HBE.out]; simpa using HM7.out⟩
                case measure => simp [RowKit.intOf]; omega
              · rw [hA] at HBE
                obtain ⟨a7, n7, c7, w7, hap7, hM7⟩ := HM6.out.push (69 + (r : Int)) (bitB P) (some ⟨V5.heap.size, 0, none⟩) 512 512 (bitB_len _) (HBR6.out.by_ HM.out.bel.size) (Nat.le_refl _) (by
                  have := bmRows_len b D r
                  simp only [List.length_append, List.length_cons, List.length_nil]
                  omega)
                obtain ⟨X7, hX7⟩ : ∃ X, X = Wq.alloc (.cells #[n64 (69 + (r : Int)), .slice (some ⟨V5.heap.size, 0, none⟩) 512 512] 113) := ⟨_, rfl⟩
                rw [← hX7] at hap7
                have HM7 := hid hM7
                clear hM7 HA0 HAS HAE
                go_wp2_with (first | (at_builtin; rw [← hX7]; clear hX7; refine wpList_append_run rfl _ _ 106 rfl rfl rfl hap7 ?_; clear hap7))
                go_roundw
                case rel => exact ⟨r + 1, by omega, rfl, by
                  rw [HBE.out, if_pos rfl, ← List.append_assoc]
                  exact HM7.out⟩
                case measure => simp [RowKit.intOf]; omega
        · obtain rfl : r = R := by omega
          have hlt' : ¬ (69 + (r : Int) < 69 + r) := by omega
          have HMR := hid HM.out
          have hIz : ∀ (n : Nat) (x : Int), x ∈ List.replicate n 0 → IsB x := fun n x hx => by rw [(List.mem_replicate.1 hx).2]; simp [IsB]
          have HC1 := hid (Noughts' V5 V5.heap.size _ [] (Gr.nil V5 _) (Nat.le_refl _) 128 128 rfl (by decide) (by decide) 128 rfl (List.replicate 128 0) rfl)
          clear hlt hr
          go_wp2_with fail
          refine HC1.out.mono ?_
          rintro e w8 ⟨a8, c8, rfl, hg8, _, hb8⟩
          have hM8 := HMR.out.later hb8
          obtain ⟨d0, d1, d2, d3, d4, d5, d6, d7⟩ := cells8 hM8.sb
          have t0 : w8.cell? ⟨w.heap.size, 0, none⟩ = some (.int .u32 s) := cell_of hM8.nb rfl
          have t1 : w8.cell? ⟨w.heap.size, 1, none⟩ = some (.int .u32 ns) := cell_of hM8.nb rfl
          have HC2 := hid (rRoot_any w8 b i s ns HPO.out s0 s1 n0 n1)
          unfold supC at HC2
          have HG8 := hid hg8
          have HB8 := hid hb8
          have HM8 := hid hM8
          clear hg8 hb8 hM8 HC1 h6 hlt'
          go_wp2_with fail
          refine HC2.out.mono ?_
          rintro e w9 ⟨a9, c9, rfl, ho9, hb9⟩
          have hIr : ∀ x ∈ rootL (planD b i) s ns, IsB x := rootL_isB _ _ _
          obtain ⟨a9', c9', e9, _, _, hy9⟩ := By.of_owns (S := New w8) ho9 hIr (fun g hg => (owns_lt ho9 hg).2)
          simp only [Value.slice.injEq, true_and] at e9
          obtain ⟨rfl, rfl⟩ := e9
          obtain ⟨gb, go, rfl, _, _⟩ := hy9.addr (by rw [rootL_len]; decide)
          have hs9 : V5.heap.size ≤ w9.heap.size := Nat.le_trans HB8.out.size hb9.size
          obtain ⟨a10, c10, w10, hap10, hg10, _, hb10, _, _⟩ := (HG8.out.later hb9).push hs9 (rootL (planD b i) s ns) hIr (by rw [rootL_len]; decide) ⟨gb, go, none⟩ 128 c9 (rootL_len _ _ _) hy9.cells (by simp) 59
          rw [List.length_replicate] at hap10 hg10
          have HB10 : Hid (Below V5.heap.size V5 w10) := hid ((HB8.out.trans (hb9.mono HB8.out.size)).trans hb10)
          have HG10 := hid hg10
          clear ho9 hb9 hIr hy9 hs9 hg10 hb10 HC2 HG8 d0 d1 d2 d3 d4 d5 d6 d7 t0 t1
          go_wp2_with (first | (at_builtin; refine wpList_append_run rfl _ _ 59 rfl rfl rfl hap10 ?_; clear hap10))
          have hM10 := HMR.out.later HB10.out
          have y6 : ∀ W, Below V5.heap.size V5 W → W.cell? ⟨sb, 6, none⟩ = some (n64 T) := fun W hb => by rw [(HMR.out.later hb).cells.2.2.1, HTT.out]
          have y7 : ∀ W, Below V5.heap.size V5 W → W.cell? ⟨sb, 7, none⟩ = some (n64 D) := fun W hb => by rw [(HMR.out.later hb).cells.2.2.2, HDD.out]
          have HY6 := hid y6
          clear y6 y7 hM10 HB8 HM8
          have HC3 := hid (Noughts' w10.drew V5.heap.size _ _ HG10.out HB10.out.size 256 256 rfl (by decide) (by rw [List.length_append, List.length_replicate, rootL_len]; decide) 512 (by rw [List.length_append, List.length_replicate, rootL_len]) (nodeL (planD b i) s ns) rfl)
          refine wp_region_held_drew (S := fun w' => w'.cell? ⟨sb, 6, none⟩ = some (n64 T)) (by kernel_rfl) (HY6.out w10.drew HB10.out.drew) (fun hS => ?_)
          refine nany_take 0 100 (u10) rfl rfl (by kernel_rfl) (by kernel_rfl) (by kernel_rfl) (fun _ _ _ h => h) (Or.inl ⟨by rfl, ?_⟩) hS ?_
          · rintro w' x0
            go_simp
          simp only [List.setIfInBounds_toArray, List.set_cons_zero, List.set_cons_succ]
          refine nany_take 1 101 (.pointer (some ⟨sb, 6, none⟩)) rfl rfl (by kernel_rfl) (by kernel_rfl) (by kernel_rfl) (fun _ _ _ h => h) (Or.inl ⟨by rfl, ?_⟩) hS ?_
          · rintro w' x0
            go_simp
          simp only [List.setIfInBounds_toArray, List.set_cons_zero, List.set_cons_succ]
          refine nany_take 2 102 (n64 T) rfl rfl (by kernel_rfl) (by kernel_rfl) (by kernel_rfl) (fun _ _ _ h => h) (Or.inl ⟨by rfl, ?_⟩) hS ?_
          · rintro w' x0
            go_simp
          simp only [List.setIfInBounds_toArray, List.set_cons_zero, List.set_cons_succ]
          refine nany_take 3 103 (.slice a10 256 c10) rfl rfl (by kernel_rfl) (by kernel_rfl) (by kernel_rfl) (fun _ _ _ h => h) (Or.inl ⟨by rfl, ?_⟩) hS ?_
          · rintro w' x0
            go_simp
          simp only [List.setIfInBounds_toArray, List.set_cons_zero, List.set_cons_succ]
          refine nany_one 4 (by kernel_rfl) ?_
          refine nop_callE 104 (f := 75) (args := #[.slice a10 256 c10, n64 256]) (R := fun v w' => ∃ a c, v = .slice a 512 c ∧ w'.ownsRow V5.heap.size 5 1 (.slice a 512 c) 512 (u8s (nodeL (planD b i) s ns)) ∧ Below V5.heap.size V5 w') rfl (by rfl) rfl (by go_simp) (HC3.out.mono (fun e w' h => by obtain ⟨a, c, h1, _, h2, h3⟩ := h; exact ⟨_, h1, a, c, rfl, h2, HB10.out.drew.trans h3⟩)) ?_
          rintro v11 w11 ⟨a11, c11, rfl, ho11, hb11⟩
          clear hS
          have hS := HY6.out w11 hb11
          refine ⟨hS, ?_⟩
          simp only [List.setIfInBounds_toArray, List.set_cons_zero, List.set_cons_succ]
          refine nany_take 5 105 (.agg #[n64 T, .slice a11 512 c11]) rfl rfl (by kernel_rfl) (by kernel_rfl) (by kernel_rfl) (fun _ _ _ h => h) (Or.inl ⟨by rfl, ?_⟩) hS ?_
          · rintro w' x0
            go_simp
          simp only [List.setIfInBounds_toArray, List.set_cons_zero, List.set_cons_succ]
          obtain ⟨a11', c11', e11, hc11, _, hy11⟩ := By.of_owns (S := New w) ho11 (nodeL_isB _ _ _) (fun g hg => Nat.le_trans HMR.out.bel.size (owns_lt ho11 hg).2)
          simp only [Value.slice.injEq, true_and] at e11
          obtain ⟨rfl, rfl⟩ := e11
          obtain ⟨a12, n12, c12, w12, hap12, hM12⟩ := (HMR.out.later hb11).push T (nodeL (planD b i) s ns) a11 512 c11 (nodeL_len _ _ _) hy11 hc11 (by
            have := bmRows_len b D r
            simp only [List.length_append, List.length_cons, List.length_nil]
            omega)
          have HM12 := hid hM12
          have y12 : w12.cell? ⟨sb, 6, none⟩ = some (n64 T) := by rw [hM12.cells.2.2.1, HTT.out]
          clear hM12
          refine nany_one 6 (by kernel_rfl) ?_
          refine nop_value' 106 (v := .slice (some ⟨w11.heap.size, 0, none⟩) 1 1) (w' := w11.alloc (.cells #[n64 T, .slice a11 512 c11] 113)) rfl (by rfl) rfl (by kernel_rfl) ?_
          refine ⟨HY6.out _ (hb11.alloc hb11.size _), ?_⟩
          simp only [List.setIfInBounds_toArray, List.set_cons_zero, List.set_cons_succ]
          refine nany_one 7 (by kernel_rfl) ?_
          refine nop_value' 107 (v := .slice a12 n12 c12) (w' := w12) rfl (by rfl) rfl (nop_append (.tmp 100) (.tmp 106) 106 106 rfl (by rfl) (by rfl) hap12) ?_
          refine ⟨y12, ?_⟩
          clear hS
          have hS := y12
          simp only [List.setIfInBounds_toArray, List.set_cons_zero, List.set_cons_succ]
          refine nany_take 8 10 (.slice a12 n12 c12) rfl rfl (by kernel_rfl) (by kernel_rfl) (by kernel_rfl) (fun _ _ _ h => h) (Or.inl ⟨by rfl, ?_⟩) hS ?_
          · rintro w' x0
            go_simp
          simp only [List.setIfInBounds_toArray, List.set_cons_zero, List.set_cons_succ]
          refine wpAnyH_done (by kernel_rfl) ?_ _
          clear hS y12 hap12 ho11 hb11 hy11 hc11 HY6 HG10 HB10 HMR HC3
          have HE1 := hid (rEntry_any w12 ⟨#[46]⟩ [46] rfl (by simp [IsB]) rfl (by decide) (by decide))
          go_wp2_with fail
          refine HE1.out.mono ?_
          rintro e w13 ⟨a13, c13, rfl, ho13, hb13⟩
          have HE2 := hid (rEntry_any w13 ⟨#[46, 46]⟩ [46, 46] rfl (by simp [IsB]) rfl (by decide) (by decide))
          have HO13 := hid ho13
          have HB13 := hid hb13
          clear ho13 hb13 HE1
          go_wp2_with fail
          refine HE2.out.mono ?_
          rintro e w14 ⟨a14, c14, rfl, ho14, hb14⟩
          obtain ⟨a14', c14', e14, _, _, hy14⟩ := By.of_owns (S := New w13) ho14 ent2.2 (fun g hg => (owns_lt ho14 hg).2)
          simp only [Value.slice.injEq, true_and] at e14
          obtain ⟨rfl, rfl⟩ := e14
          obtain ⟨gb, go, rfl, _, _⟩ := hy14.addr (by rw [ent2.1]; decide)
          have hs14 : w12.heap.size ≤ w14.heap.size := Nat.le_trans HB13.out.size hb14.size
          obtain ⟨a15, c15, w15, hap15, hg15, _, hb15, _, _⟩ := ((Gr.own HO13.out ent1.1 ent1.2).later hb14).push hs14 (entL [46, 46]) ent2.2 (by rw [ent2.1]; decide) ⟨gb, go, none⟩ 32 c14 ent2.1 hy14.cells (by rw [ent1.1]; decide) 59
          rw [ent1.1] at hap15 hg15
          have HB15 : Hid (Below w12.heap.size w12 w15) := hid ((HB13.out.trans (hb14.mono HB13.out.size)).trans hb15)
          have HG15 := hid hg15
          clear ho14 hb14 hy14 hs14 hg15 hb15 HE2 HO13 HB13
          go_wp2_with (first | (at_builtin; refine wpList_append_run rfl _ _ 59 rfl rfl rfl hap15 ?_; clear hap15))
          have y7 : ∀ W, Below w12.heap.size w12 W → W.cell? ⟨sb, 7, none⟩ = some (n64 D) := fun W hb => by rw [(HM12.out.later hb).cells.2.2.2, HDD.out]
          have HY7 := hid y7
          clear y7
          have HC3 := hid (Noughts' w15.drew w12.heap.size _ _ HG15.out HB15.out.size 448 448 rfl (by decide) (by rw [List.length_append, ent1.1, ent2.1]; decide) 512 (by rw [List.length_append, ent1.1, ent2.1]) linesL rfl)
          refine wp_region_held_drew (S := fun w' => w'.cell? ⟨sb, 7, none⟩ = some (n64 D)) (by kernel_rfl) (HY7.out w15.drew HB15.out.drew) (fun hS => ?_)
          refine nany_take 0 111 (.slice a12 n12 c12) rfl rfl (by kernel_rfl) (by kernel_rfl) (by kernel_rfl) (fun _ _ _ h => h) (Or.inl ⟨by rfl, ?_⟩) hS ?_
          · rintro w' x0
            go_simp
          simp only [List.setIfInBounds_toArray, List.set_cons_zero, List.set_cons_succ]
          refine nany_take 1 112 (.pointer (some ⟨sb, 7, none⟩)) rfl rfl (by kernel_rfl) (by kernel_rfl) (by kernel_rfl) (fun _ _ _ h => h) (Or.inl ⟨by rfl, ?_⟩) hS ?_
          · rintro w' x0
            go_simp
          simp only [List.setIfInBounds_toArray, List.set_cons_zero, List.set_cons_succ]
          refine nany_take 2 113 (n64 D) rfl rfl (by kernel_rfl) (by kernel_rfl) (by kernel_rfl) (fun _ _ _ h => h) (Or.inl ⟨by rfl, ?_⟩) hS ?_
          · rintro w' x0
            go_simp
          simp only [List.setIfInBounds_toArray, List.set_cons_zero, List.set_cons_succ]
          refine nany_take 3 114 (.slice a15 64 c15) rfl rfl (by kernel_rfl) (by kernel_rfl) (by kernel_rfl) (fun _ _ _ h => h) (Or.inl ⟨by rfl, ?_⟩) hS ?_
          · rintro w' x0
            go_simp
          simp only [List.setIfInBounds_toArray, List.set_cons_zero, List.set_cons_succ]
          refine nany_one 4 (by kernel_rfl) ?_
          refine nop_callE 115 (f := 75) (args := #[.slice a15 64 c15, n64 448]) (R := fun v w' => ∃ a c, v = .slice a 512 c ∧ w'.ownsRow w12.heap.size 5 1 (.slice a 512 c) 512 (u8s linesL) ∧ Below w12.heap.size w12 w') rfl (by rfl) rfl (by go_simp) (HC3.out.mono (fun e w' h => by obtain ⟨a, c, h1, _, h2, h3⟩ := h; exact ⟨_, h1, a, c, rfl, h2, HB15.out.drew.trans h3⟩)) ?_
          rintro v16 w16 ⟨a16, c16, rfl, ho16, hb16⟩
          clear hS
          have hS := HY7.out w16 hb16
          refine ⟨hS, ?_⟩
          simp only [List.setIfInBounds_toArray, List.set_cons_zero, List.set_cons_succ]
          refine nany_take 5 116 (.agg #[n64 D, .slice a16 512 c16]) rfl rfl (by kernel_rfl) (by kernel_rfl) (by kernel_rfl) (fun _ _ _ h => h) (Or.inl ⟨by rfl, ?_⟩) hS ?_
          · rintro w' x0
            go_simp
          simp only [List.setIfInBounds_toArray, List.set_cons_zero, List.set_cons_succ]
          obtain ⟨a16', c16', e16, hc16, _, hy16⟩ := By.of_owns (S := New w) ho16 linesL_isB (fun g hg => Nat.le_trans HM12.out.bel.size (owns_lt ho16 hg).2)
          simp only [Value.slice.injEq, true_and] at e16
          obtain ⟨rfl, rfl⟩ := e16
          obtain ⟨a17, n17, c17, w17, hap17, hM17⟩ := (HM12.out.later hb16).push D linesL a16 512 c16 linesL_len hy16 hc16 (by
            have := bmRows_len b D r
            simp only [List.length_append, List.length_cons, List.length_nil]
            omega)
          have HM17 := hid hM17
          have y17 : w17.cell? ⟨sb, 7, none⟩ = some (n64 D) := by rw [hM17.cells.2.2.2, HDD.out]
          clear hM17
          refine nany_one 6 (by kernel_rfl) ?_
          refine nop_value' 117 (v := .slice (some ⟨w16.heap.size, 0, none⟩) 1 1) (w' := w16.alloc (.cells #[n64 D, .slice a16 512 c16] 113)) rfl (by rfl) rfl (by kernel_rfl) ?_
          refine ⟨HY7.out _ (hb16.alloc hb16.size _), ?_⟩
          simp only [List.setIfInBounds_toArray, List.set_cons_zero, List.set_cons_succ]
          refine nany_one 7 (by kernel_rfl) ?_
          refine nop_value' 118 (v := .slice a17 n17 c17) (w' := w17) rfl (by rfl) rfl (nop_append (.tmp 111) (.tmp 117) 106 106 rfl (by rfl) (by rfl) hap17) ?_
          refine ⟨y17, ?_⟩
          clear hS
          have hS := y17
          simp only [List.setIfInBounds_toArray, List.set_cons_zero, List.set_cons_succ]
          refine nany_take 8 6 (.slice a17 n17 c17) rfl rfl (by kernel_rfl) (by kernel_rfl) (by kernel_rfl) (fun _ _ _ h => h) (Or.inl ⟨by rfl, ?_⟩) hS ?_
          · rintro w' x0
            go_simp
          simp only [List.setIfInBounds_toArray, List.set_cons_zero, List.set_cons_succ]
          refine nany_take 9 7 (n64 0) rfl rfl (by kernel_rfl) (by kernel_rfl) (by kernel_rfl) (fun _ _ _ h => h) (Or.inl ⟨by rfl, ?_⟩) hS ?_
          · rintro w' x0
            go_simp
          simp only [List.setIfInBounds_toArray, List.set_cons_zero, List.set_cons_succ]
          refine wpAnyH_done (by kernel_rfl) ?_ _
          clear hS y17 hap17 ho16 hb16 hy16 hc16 HY7 HG15 HB15 HC3
          go_wp2
          go_ret2
          obtain ⟨M, h1, h2⟩ := HM17.out.po
          exact ⟨_, M, rfl, h1, by rw [h2, HMK.out, HDD.out]; simp, HM17.out.bel⟩
end Go.Proofs.YtaplmlldmhdhoaaGreatDoor
