/- DiskTorn: for every number of blocks, picks and 'flushed' it returns true: each block is the elder or the newer one, as it is picked. No condition. -/
import Derived.Test.YtdbpjdaaggenpaaTornM
import Derived.Test.YtdbpjdaaggenpaaKnown
namespace Go.Proofs.Ytdbpjdaaggenpaa.diskTorn
open Go.RowKit

set_option maxRecDepth 100000 in
set_option maxHeartbeats 1000000 in
theorem walkT (a0 : Int) (ap : Option Addr) (cp : Nat) (picks : List Int) (w : World) (hp : Ints w ap picks) :
    Calls Try.prog 4 #[.int .i64 a0, .slice ap picks.length cp, .bool true] w fun e w' => e = .returned (.bool true) ∧ Below w.heap.size w w' := by
  have hwi := wi_bd a0 16 (by omega)
  obtain ⟨m, hm⟩ : ∃ m : Nat, 1 + wi a0 16 = (m : Int) := ⟨(1 + wi a0 16).toNat, by omega⟩
  obtain ⟨x0, hx0⟩ : ∃ x0, wi a0 16 = x0 := ⟨_, rfl⟩
  have hwn := hid (within_any a0 16 (by omega) (by omega))
  rw [hx0] at hwn hm hwi
  have ewm : IntKind.i64.wrap (1 + x0) = (m : Int) := by rw [IntWalk.i64_in _ (by omega), hm]
  have hm1 : 1 ≤ m := by omega
  have hm2 : m ≤ 16 := by omega
  have HP := hid hp
  clear hp hx0
  go_enter Try.func4, Try.ntmps4
  go_wp2_with fail
  refine (known_any w).mono ?_
  rintro e w1 ⟨rfl, hb1⟩
  have HB1 := hid hb1
  clear hb1
  go_wp2_with fail
  refine (hwn.out w1).mono ?_
  rintro e w1' ⟨rfl, hw⟩
  rw [hw]
  clear hw w1' hwn
  go_wp2_with fail
  refine (New_any 20 (by omega) w1).mono ?_
  rintro e w2 ⟨pd, al, rfl, hb2, hd2, ha2⟩
  have H2 : Hid (St w.heap.size w w2 pd (noDisk 20) 0 al) := hid ⟨hd2, fun b hb => Nat.le_trans HB1.out.size (ha2 b hb), HB1.out.trans (hb2.mono HB1.out.size), Nat.le_trans HB1.out.size hb2.size⟩
  clear hd2 ha2 hb2 HB1
  go_wp2_with fail
  refine (row_any 1 m m (by omega) (by omega) w2).mono ?_
  rintro e w3 ⟨v3, rfl, ho3, hn3, hb3⟩
  have H3 := hid (H2.out.below hb3)
  have HO3 := hid ho3
  have HN3 : Hid (∀ g, v3.ownBlock = some g → ¬ al g) := hid fun g hg => St.new H2.out.disk (owns_lt ho3 hg).2
  clear hb3 ho3 H2 hn3
  go_wp2_with fail
  refine (WriteRow w3 pd _ _ al H3.out.disk 2 1 m _ v3 HO3.out HN3.out (by omega) (by simp [hasB, noDisk]; omega) (by omega)).mono ?_
  rintro e w4 ⟨rfl, hst⟩
  obtain ⟨al4, s4, _, _⟩ := H3.out.step hst
  have H4 : Hid (St w.heap.size w w4 pd (T1 m) (0 + m) al4) := hid s4
  clear s4 hst H3 HO3 HN3
  go_wp2_with fail
  refine (Flush_any w4 pd _ _ al4 H4.out.disk (by omega)).mono ?_
  rintro e w5 ⟨rfl, hst⟩
  obtain ⟨al5, s5, _, _⟩ := H4.out.step hst
  have H5 : Hid (St w.heap.size w w5 pd (T2 m) (0 + m + 65536) al5) := hid s5
  clear s5 hst H4
  go_wp2_with fail
  refine (row_any 101 m m (by omega) (by omega) w5).mono ?_
  rintro e w6 ⟨v6, rfl, ho6, hn6, hb6⟩
  have H6 := hid (H5.out.below hb6)
  have HO6 := hid ho6
  have HN6 : Hid (∀ g, v6.ownBlock = some g → ¬ al5 g) := hid fun g hg => St.new H5.out.disk (owns_lt ho6 hg).2
  clear hb6 ho6 H5 hn6
  go_wp2_with fail
  refine (WriteRow w6 pd _ _ al5 H6.out.disk 2 101 m _ v6 HO6.out HN6.out (by omega) (by simp [hasB, T2, T1, wrA, noDisk]; omega) (by omega)).mono ?_
  rintro e w7 ⟨rfl, hst⟩
  obtain ⟨al7, s7, _, _⟩ := H6.out.step hst
  have H7 : Hid (St w.heap.size w w7 pd (T3 m) (0 + m + 65536 + m) al7) := hid s7
  clear s7 hst H6 HO6 HN6
  go_wp2_with fail
  refine (Flush_any w7 pd _ _ al7 H7.out.disk (by omega)).mono ?_
  rintro e w8 ⟨rfl, hst⟩
  obtain ⟨al8, s8, _, _⟩ := H7.out.step hst
  have H8 : Hid (St w.heap.size w w8 pd (T5 true m picks) (0 + m + 65536 + m + 65536) al8) := hid s8
  clear s8 hst H7
  have HV8 : Hid (∀ k, (T5 true m picks).V k = []) := hid fun k => rfl
  go_wp2_with fail
  refine (Dirty_any w8 pd _ _ al8 H8.out.disk (by omega)).mono ?_
  rintro e w8' ⟨v8, L8, rfl, hL8, _, hnil8, hb8⟩
  have hL80 := dirty_none hL8 HV8.out
  rw [hnil8.2 hL80]
  have H8' := hid (H8.out.below hb8)
  have HP8 := hid (HP.out.below H8'.out.bel)
  have HOf := hid (HP.out.off (Nat.le_trans (Nat.le_refl _) H8'.out.size) H8'.out.own)
  clear hL8 hnil8 hb8 H8 hL80
  go_wp2_with fail
  refine (Crash_any w8' pd _ _ al8 H8'.out.disk (by omega) ap cp picks HP8.out HOf.out).mono ?_
  rintro e w9 ⟨L9, hL9, rfl, hst⟩
  have hL90 := dirty_none hL9 HV8.out
  subst hL90
  obtain ⟨al9, s9, _, _⟩ := H8'.out.step hst
  have H9 : Hid (St w.heap.size w w9 pd (T5 true m picks) (0 + m + 65536 + m + 65536 + 65536) al9) := hid s9
  clear s9 hst H8' hL9 HP8 HOf HV8
  have HN9 : Hid ((T5 true m picks).N = 20) := hid (T5_N _ _ _)
  go_wp2_with fail
  refine (read_f w9 pd _ _ al9 H9.out.disk 2 m (m * 512) rfl (by omega) (by rw [HN9.out]; simp [hasB]; omega)).mono ?_
  rintro e wR ⟨rfl, hbR, hfR, hlR⟩
  have HR := hid (H9.out.below hbR)
  have HFR := hid hfR
  have HLR := hid hlR
  have HBk : Hid (∀ i : Nat, i < m → ∀ j, j < 512 → (readTo (T5 true m picks) 2 m).getD (512 * i + j) 0 = (want true picks i).getD j 0) := hid fun i hi j hj => by
    rw [readTo_get _ _ m (fun i hi => by rw [T5_block _ _ _ _ hi]; exact want_len _ _ _) i j hi hj, T5_block _ _ _ _ hi]
  clear hbR hfR hlR H9 HN9
  go_wp2_with fail
  go_loopw [12] (fun i wq => ∃ k : Nat, k ≤ m ∧ i = .int .i64 k ∧ Below wR.heap.size wR wq) (fun i _ => m - (RowKit.intOf i).toNat)
  case atStart => exact ⟨0, Nat.zero_le _, rfl, Below.refl _ _⟩
  case round =>
    obtain ⟨k, hk, rfl, hbe⟩ := hrel
    have HBE := hid hbe
    clear hbe
    by_cases hlt : k < m
    · have hki : (k : Int) < (m : Int) := by omega
      have hsl := cut_run2 w9.heap.size (m * 512) (512 * k) (512 * k + 512) (by omega) (by omega)
      rw [show 512 * k + 512 - 512 * k = 512 by omega, show ((512 * k + 512 : Nat) : Int) = 512 * (k : Int) + 512 by omega, show ((512 * k : Nat) : Int) = 512 * (k : Int) by omega] at hsl
      have e1 : IntKind.i64.wrap (512 * (k : Int)) = 512 * (k : Int) := IntWalk.i64_in _ (by omega)
      have e2 : IntKind.i64.wrap (512 * (k : Int) + 512) = 512 * (k : Int) + 512 := IntWalk.i64_in _ (by omega)
      have hwant : want true picks k = blk (101 + (k : Int)) := by simp [want, newer]
      go_wp2_with fail
      refine (block_f _ wr).mono ?_
      rintro e wA ⟨rfl, hbA, hfA⟩
      have HBA := hid (HBE.out.trans (hbA.mono HBE.out.size))
      clear hbA hfA
      go_wp2_with fail
      refine (block_f _ wA).mono ?_
      rintro e wB ⟨rfl, hbB, hfB⟩
      have HFX := hid hfB
      have HBX := hid (HBA.out.trans (hbB.mono HBA.out.size))
      clear hbB hfB HBA
      have hcv1 : (convert 42 9 (.slice (some ⟨w9.heap.size, 512 * k, none⟩) 512 (m * 512 - 512 * k))).run Try.prog wB.drew = .ok (.string (strOfNums (blk (101 + (k : Int))))) wB.drew :=
        Fresh.convAt (w := wB.drew) (HFR.out.below HBX.out.drew) k _ (blk (101 + (k : Int))) (blk_len _) (by rw [HLR.out]; omega) (fun j hj => by rw [HBk.out k hlt j hj, hwant])
      have hcv2 : (convert 42 9 (.slice (some ⟨wA.heap.size, 0, none⟩) 512 512)).run Try.prog wB.drew = .ok (.string (strOfNums (blk (101 + (k : Int))))) wB.drew := Fresh.conv (w := wB.drew) HFX.out (blk_len _)
      clear hwant
      go_wp2_with fail
      go_region_held3 (fun w' => (convert 42 9 (.slice (some ⟨w9.heap.size, 512 * k, none⟩) 512 (m * 512 - 512 * k))).run Try.prog w' = .ok (.string (strOfNums (blk (101 + (k : Int))))) w' ∧ (convert 42 9 (.slice (some ⟨wA.heap.size, 0, none⟩) 512 512)).run Try.prog w' = .ok (.string (strOfNums (blk (101 + (k : Int))))) w') ((exact ⟨hcv1, hcv2⟩)) (fail)
      go_wp2
      go_roundw
      case rel => exact ⟨k + 1, by omega, by go_num, HBX.out.drew⟩
      case measure => simp [RowKit.intOf]; omega
    · have hki : ¬ ((k : Int) < (m : Int)) := by omega
      go_wp2
      go_ret
      exact ⟨rfl, (HR.out.below HBE.out).bel⟩

set_option maxRecDepth 100000 in
set_option maxHeartbeats 1000000 in
theorem walkF (a0 : Int) (ap : Option Addr) (cp : Nat) (picks : List Int) (w : World) (hp : Ints w ap picks) :
    Calls Try.prog 4 #[.int .i64 a0, .slice ap picks.length cp, .bool false] w fun e w' => e = .returned (.bool true) ∧ Below w.heap.size w w' := by
  have hwi := wi_bd a0 16 (by omega)
  obtain ⟨m, hm⟩ : ∃ m : Nat, 1 + wi a0 16 = (m : Int) := ⟨(1 + wi a0 16).toNat, by omega⟩
  obtain ⟨x0, hx0⟩ : ∃ x0, wi a0 16 = x0 := ⟨_, rfl⟩
  have hwn := hid (within_any a0 16 (by omega) (by omega))
  rw [hx0] at hwn hm hwi
  have ewm : IntKind.i64.wrap (1 + x0) = (m : Int) := by rw [IntWalk.i64_in _ (by omega), hm]
  have hm1 : 1 ≤ m := by omega
  have hm2 : m ≤ 16 := by omega
  have HP := hid hp
  clear hp hx0
  go_enter Try.func4, Try.ntmps4
  go_wp2_with fail
  refine (known_any w).mono ?_
  rintro e w1 ⟨rfl, hb1⟩
  have HB1 := hid hb1
  clear hb1
  go_wp2_with fail
  refine (hwn.out w1).mono ?_
  rintro e w1' ⟨rfl, hw⟩
  rw [hw]
  clear hw w1' hwn
  go_wp2_with fail
  refine (New_any 20 (by omega) w1).mono ?_
  rintro e w2 ⟨pd, al, rfl, hb2, hd2, ha2⟩
  have H2 : Hid (St w.heap.size w w2 pd (noDisk 20) 0 al) := hid ⟨hd2, fun b hb => Nat.le_trans HB1.out.size (ha2 b hb), HB1.out.trans (hb2.mono HB1.out.size), Nat.le_trans HB1.out.size hb2.size⟩
  clear hd2 ha2 hb2 HB1
  go_wp2_with fail
  refine (row_any 1 m m (by omega) (by omega) w2).mono ?_
  rintro e w3 ⟨v3, rfl, ho3, hn3, hb3⟩
  have H3 := hid (H2.out.below hb3)
  have HO3 := hid ho3
  have HN3 : Hid (∀ g, v3.ownBlock = some g → ¬ al g) := hid fun g hg => St.new H2.out.disk (owns_lt ho3 hg).2
  clear hb3 ho3 H2 hn3
  go_wp2_with fail
  refine (WriteRow w3 pd _ _ al H3.out.disk 2 1 m _ v3 HO3.out HN3.out (by omega) (by simp [hasB, noDisk]; omega) (by omega)).mono ?_
  rintro e w4 ⟨rfl, hst⟩
  obtain ⟨al4, s4, _, _⟩ := H3.out.step hst
  have H4 : Hid (St w.heap.size w w4 pd (T1 m) (0 + m) al4) := hid s4
  clear s4 hst H3 HO3 HN3
  go_wp2_with fail
  refine (Flush_any w4 pd _ _ al4 H4.out.disk (by omega)).mono ?_
  rintro e w5 ⟨rfl, hst⟩
  obtain ⟨al5, s5, _, _⟩ := H4.out.step hst
  have H5 : Hid (St w.heap.size w w5 pd (T2 m) (0 + m + 65536) al5) := hid s5
  clear s5 hst H4
  go_wp2_with fail
  refine (row_any 101 m m (by omega) (by omega) w5).mono ?_
  rintro e w6 ⟨v6, rfl, ho6, hn6, hb6⟩
  have H6 := hid (H5.out.below hb6)
  have HO6 := hid ho6
  have HN6 : Hid (∀ g, v6.ownBlock = some g → ¬ al5 g) := hid fun g hg => St.new H5.out.disk (owns_lt ho6 hg).2
  clear hb6 ho6 H5 hn6
  go_wp2_with fail
  refine (WriteRow w6 pd _ _ al5 H6.out.disk 2 101 m _ v6 HO6.out HN6.out (by omega) (by simp [hasB, T2, T1, wrA, noDisk]; omega) (by omega)).mono ?_
  rintro e w7 ⟨rfl, hst⟩
  obtain ⟨al7, s7, _, _⟩ := H6.out.step hst
  have H7 : Hid (St w.heap.size w w7 pd (T3 m) (0 + m + 65536 + m) al7) := hid s7
  clear s7 hst H6 HO6 HN6
  go_wp2_with fail
  refine (Dirty_any w7 pd _ _ al7 H7.out.disk (by omega)).mono ?_
  rintro e w8' ⟨v8, L8, rfl, hL8, hrow8, hnil8, hb8⟩
  have hL80 := L20_is m L8 hL8
  have hl20 : (L20 m).length = m := by simp [L20]
  subst hL80
  have hv8 : ∃ a8 c8, v8 = .slice a8 m c8 := by
    rcases hrow8.2 with ⟨_, h0⟩ | ⟨g, cap, cur, hv, _⟩
    · omega
    · exact ⟨_, cap, by rw [hv, hl20]⟩
  obtain ⟨a8, c8, hv8⟩ := hv8
  rw [hv8]
  have H8' := hid (H7.out.below hb8)
  have HP8 := hid (HP.out.below H8'.out.bel)
  have HOf := hid (HP.out.off (Nat.le_trans (Nat.le_refl _) H8'.out.size) H8'.out.own)
  clear hL8 hnil8 hb8 H7 hrow8 hv8
  go_wp2_with fail
  refine (Crash_any w8' pd _ _ al7 H8'.out.disk (by omega) ap cp picks HP8.out HOf.out).mono ?_
  rintro e w9 ⟨L9, hL9, rfl, hst⟩
  have hL90 := L20_is m L9 hL9
  subst hL90
  rw [hl20]
  obtain ⟨al9, s9, _, _⟩ := H8'.out.step hst
  have H9 : Hid (St w.heap.size w w9 pd (T5 false m picks) (0 + m + 65536 + m + 65536) al9) := hid s9
  clear s9 hst H8' hL9 HP8 HOf hl20
  have HN9 : Hid ((T5 false m picks).N = 20) := hid (T5_N _ _ _)
  go_wp2_with fail
  refine (read_f w9 pd _ _ al9 H9.out.disk 2 m (m * 512) rfl (by omega) (by rw [HN9.out]; simp [hasB]; omega)).mono ?_
  rintro e wR ⟨rfl, hbR, hfR, hlR⟩
  have HR := hid (H9.out.below hbR)
  have HFR := hid hfR
  have HLR := hid hlR
  have HBk : Hid (∀ i : Nat, i < m → ∀ j, j < 512 → (readTo (T5 false m picks) 2 m).getD (512 * i + j) 0 = (want false picks i).getD j 0) := hid fun i hi j hj => by
    rw [readTo_get _ _ m (fun i hi => by rw [T5_block _ _ _ _ hi]; exact want_len _ _ _) i j hi hj, T5_block _ _ _ _ hi]
  clear hbR hfR hlR H9 HN9
  go_wp2_with fail
  go_loopw [12] (fun i wq => ∃ k : Nat, k ≤ m ∧ i = .int .i64 k ∧ Below wR.heap.size wR wq) (fun i _ => m - (RowKit.intOf i).toNat)
  case atStart => exact ⟨0, Nat.zero_le _, rfl, Below.refl _ _⟩
  case round =>
    obtain ⟨k, hk, rfl, hbe⟩ := hrel
    have HBE := hid hbe
    clear hbe
    by_cases hlt : k < m
    · have hki : (k : Int) < (m : Int) := by omega
      have hsl := cut_run2 w9.heap.size (m * 512) (512 * k) (512 * k + 512) (by omega) (by omega)
      rw [show 512 * k + 512 - 512 * k = 512 by omega, show ((512 * k + 512 : Nat) : Int) = 512 * (k : Int) + 512 by omega, show ((512 * k : Nat) : Int) = 512 * (k : Int) by omega] at hsl
      have e1 : IntKind.i64.wrap (512 * (k : Int)) = 512 * (k : Int) := IntWalk.i64_in _ (by omega)
      have e2 : IntKind.i64.wrap (512 * (k : Int) + 512) = 512 * (k : Int) + 512 := IntWalk.i64_in _ (by omega)
      by_cases hpk : k < picks.length
      · have hpi : (k : Int) < (picks.length : Int) := by omega
        obtain ⟨bq, oq, haq, hcq0, hIq⟩ := HP.out.below (HR.out.below HBE.out).bel k hpk
        subst haq
        have hnw : newer false picks k = decide (wi (picks.getD k 0) 2 = 1) := by simp only [newer, Bool.false_or, hpk, decide_true, Bool.true_and]
        generalize picks.getD k 0 = q at hcq0 hIq hnw
        have hcq : wr.cell? ⟨bq, oq + k, none⟩ = some (.int .i64 q) := hcq0
        have hcon := hid (within_any q 2 (by omega) (by omega))
        by_cases hq1 : wi q 2 = 1
        · have hwant : want false picks k = blk (101 + (k : Int)) := by unfold want; rw [hnw, if_pos (by simp [hq1])]
          rw [hq1] at hcon
          clear hnw hq1 hcq0
          go_wp2_with fail
          refine (hcon.out wr).mono ?_
          rintro e wr' ⟨rfl, hw⟩
          rw [hw]
          clear hw wr'
          go_wp2_with fail
          refine (block_f _ wr).mono ?_
          rintro e wA ⟨rfl, hbA, hfA⟩
          have HBA := hid (HBE.out.trans (hbA.mono HBE.out.size))
          clear hbA hfA
          go_wp2_with fail
          refine (block_f _ wA).mono ?_
          rintro e wB ⟨rfl, hbB, hfB⟩
          have HFX := hid hfB
          have HBX := hid (HBA.out.trans (hbB.mono HBA.out.size))
          clear hbB hfB HBA
          have hcv1 : (convert 42 9 (.slice (some ⟨w9.heap.size, 512 * k, none⟩) 512 (m * 512 - 512 * k))).run Try.prog wB.drew = .ok (.string (strOfNums (blk (101 + (k : Int))))) wB.drew :=
            Fresh.convAt (w := wB.drew) (HFR.out.below HBX.out.drew) k _ (blk (101 + (k : Int))) (blk_len _) (by rw [HLR.out]; omega) (fun j hj => by rw [HBk.out k hlt j hj, hwant])
          have hcv2 : (convert 42 9 (.slice (some ⟨wA.heap.size, 0, none⟩) 512 512)).run Try.prog wB.drew = .ok (.string (strOfNums (blk (101 + (k : Int))))) wB.drew := Fresh.conv (w := wB.drew) HFX.out (blk_len _)
          clear hwant
          go_wp2_with fail
          go_region_held3 (fun w' => (convert 42 9 (.slice (some ⟨w9.heap.size, 512 * k, none⟩) 512 (m * 512 - 512 * k))).run Try.prog w' = .ok (.string (strOfNums (blk (101 + (k : Int))))) w' ∧ (convert 42 9 (.slice (some ⟨wA.heap.size, 0, none⟩) 512 512)).run Try.prog w' = .ok (.string (strOfNums (blk (101 + (k : Int))))) w') ((exact ⟨hcv1, hcv2⟩)) (fail)
          go_wp2
          go_roundw
          case rel => exact ⟨k + 1, by omega, by go_num, HBX.out.drew⟩
          case measure => simp [RowKit.intOf]; omega
        · have hwant : want false picks k = blk (1 + (k : Int)) := by unfold want; rw [hnw, if_neg (by simp [hq1])]
          have hq0 : wi q 2 = 0 := by have := wi_bd q 2 (by omega); omega
          rw [hq0] at hcon
          clear hnw hq1 hcq0 hq0
          go_wp2_with fail
          refine (hcon.out wr).mono ?_
          rintro e wr' ⟨rfl, hw⟩
          rw [hw]
          clear hw wr'
          go_wp2_with fail
          refine (block_f _ wr).mono ?_
          rintro e wA ⟨rfl, hbA, hfA⟩
          have HFX := hid hfA
          have HBX := hid (HBE.out.trans (hbA.mono HBE.out.size))
          clear hbA hfA
          have hcv1 : (convert 42 9 (.slice (some ⟨w9.heap.size, 512 * k, none⟩) 512 (m * 512 - 512 * k))).run Try.prog wA.drew = .ok (.string (strOfNums (blk (1 + (k : Int))))) wA.drew :=
            Fresh.convAt (w := wA.drew) (HFR.out.below HBX.out.drew) k _ (blk (1 + (k : Int))) (blk_len _) (by rw [HLR.out]; omega) (fun j hj => by rw [HBk.out k hlt j hj, hwant])
          have hcv2 : (convert 42 9 (.slice (some ⟨wr.heap.size, 0, none⟩) 512 512)).run Try.prog wA.drew = .ok (.string (strOfNums (blk (1 + (k : Int))))) wA.drew := Fresh.conv (w := wA.drew) HFX.out (blk_len _)
          clear hwant
          go_wp2_with fail
          go_region_held3 (fun w' => (convert 42 9 (.slice (some ⟨w9.heap.size, 512 * k, none⟩) 512 (m * 512 - 512 * k))).run Try.prog w' = .ok (.string (strOfNums (blk (1 + (k : Int))))) w' ∧ (convert 42 9 (.slice (some ⟨wr.heap.size, 0, none⟩) 512 512)).run Try.prog w' = .ok (.string (strOfNums (blk (1 + (k : Int))))) w') ((exact ⟨hcv1, hcv2⟩)) (fail)
          go_wp2
          go_roundw
          case rel => exact ⟨k + 1, by omega, by go_num, HBX.out.drew⟩
          case measure => simp [RowKit.intOf]; omega
      · have hpi : ¬ ((k : Int) < (picks.length : Int)) := by omega
        have hwant : want false picks k = blk (1 + (k : Int)) := by unfold want newer; rw [if_neg (by simp [hpk])]
        go_wp2_with fail
        refine (block_f _ wr).mono ?_
        rintro e wA ⟨rfl, hbA, hfA⟩
        have HFX := hid hfA
        have HBX := hid (HBE.out.trans (hbA.mono HBE.out.size))
        clear hbA hfA
        have hcv1 : (convert 42 9 (.slice (some ⟨w9.heap.size, 512 * k, none⟩) 512 (m * 512 - 512 * k))).run Try.prog wA.drew = .ok (.string (strOfNums (blk (1 + (k : Int))))) wA.drew :=
          Fresh.convAt (w := wA.drew) (HFR.out.below HBX.out.drew) k _ (blk (1 + (k : Int))) (blk_len _) (by rw [HLR.out]; omega) (fun j hj => by rw [HBk.out k hlt j hj, hwant])
        have hcv2 : (convert 42 9 (.slice (some ⟨wr.heap.size, 0, none⟩) 512 512)).run Try.prog wA.drew = .ok (.string (strOfNums (blk (1 + (k : Int))))) wA.drew := Fresh.conv (w := wA.drew) HFX.out (blk_len _)
        clear hwant
        go_wp2_with fail
        go_region_held3 (fun w' => (convert 42 9 (.slice (some ⟨w9.heap.size, 512 * k, none⟩) 512 (m * 512 - 512 * k))).run Try.prog w' = .ok (.string (strOfNums (blk (1 + (k : Int))))) w' ∧ (convert 42 9 (.slice (some ⟨wr.heap.size, 0, none⟩) 512 512)).run Try.prog w' = .ok (.string (strOfNums (blk (1 + (k : Int))))) w') ((exact ⟨hcv1, hcv2⟩)) (fail)
        go_wp2
        go_roundw
        case rel => exact ⟨k + 1, by omega, by go_num, HBX.out.drew⟩
        case measure => simp [RowKit.intOf]; omega
    · have hki : ¬ ((k : Int) < (m : Int)) := by omega
      go_wp2
      go_ret
      exact ⟨rfl, (HR.out.below HBE.out).bel⟩
theorem walkB (a0 : Int) (ap : Option Addr) (cp : Nat) (picks : List Int) (fl : Bool) (w : World) (hp : Ints w ap picks) :
    Calls Try.prog 4 #[.int .i64 a0, .slice ap picks.length cp, .bool fl] w fun e w' => e = .returned (.bool true) ∧ Below w.heap.size w w' := by
  cases fl with
  | true => exact walkT a0 ap cp picks w hp
  | false => exact walkF a0 ap cp picks w hp
end Go.Proofs.Ytdbpjdaaggenpaa.diskTorn
