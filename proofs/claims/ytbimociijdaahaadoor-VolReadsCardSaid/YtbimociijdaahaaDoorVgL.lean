/- VolReads: what stands in block 0, with some bytes turned, is read as the document says. Condition: num's table holds its sixteen words. -/
import Derived.Test.YtbimociijdaahaaDoorVgC
import Derived.Test.YtbimociijdaahaaDoorVfH
namespace Go.Proofs.YtbimociijdaahaaDoor
open Go.RowKit Go.Maps
set_option linter.unusedVariables false

def Ints (w : World) (a : Option Addr) (l : List Int) : Prop := ∀ i, i < l.length → ∃ b off, a = some ⟨b, off, none⟩ ∧ w.cell? ⟨b, off + i, none⟩ = some (.int .i64 (l.getD i 0)) ∧ IsI (l.getD i 0)
theorem Ints.later {w w' : World} {a : Option Addr} {l : List Int} (h : Ints w a l) (hb : Below w.heap.size w w') : Ints w' a l := fun i hi => by
  obtain ⟨b, off, h1, h2, h3⟩ := h i hi
  exact ⟨b, off, h1, cell_later hb h2, h3⟩
theorem decA_8 (l : List Int) : ∃ x0 x1 x2 x3 x4 x5 x6 x7 : Int, decA l = #[n64 x0, n64 x1, n64 x2, n64 x3, n64 x4, n64 x5, n64 x6, n64 x7] := by
  unfold decA
  split
  · exact ⟨_, _, _, _, _, _, _, _, rfl⟩
  · exact ⟨_, _, _, _, _, _, _, _, rfl⟩
set_option maxRecDepth 100000 in
set_option maxHeartbeats 1000000 in
theorem super_any (w : World) (x0 x1 x2 x3 x4 x5 x6 x7 : Int) : Calls Tryd.prog 10 #[.agg #[n64 x0, n64 x1, n64 x2, n64 x3, n64 x4, n64 x5, n64 x6, n64 x7]] w fun e w' => e = .returned (.agg #[n64 x0, n64 x1, n64 x2, n64 x3, n64 x4, n64 x5, n64 x6, n64 x7]) ∧ Below w.heap.size w w' := by
  obtain ⟨W0, hW0⟩ : ∃ W, W = w.alloc (.cells #[n64 x0, n64 x1, n64 x2, n64 x3, n64 x4, n64 x5, n64 x6, n64 x7] 30) := ⟨_, rfl⟩
  have hb0 : Below w.heap.size w W0 := by rw [hW0]; exact (Below.refl _ _).alloc (Nat.le_refl _) _
  have hh0 : W0.heap[w.heap.size]? = some (.cells #[n64 x0, n64 x1, n64 x2, n64 x3, n64 x4, n64 x5, n64 x6, n64 x7] 30 (0, 0)) := by rw [hW0]; exact alloc_new w _
  obtain ⟨_, hf, c0, c1, c2, c3, c4, c5, c6, c7⟩ := cells8a hh0
  have HN := hid (alloc_new W0)
  have HB0 := hid hb0
  clear hb0 hh0
  go_enter Tryd.func10, Tryd.ntmps10
  go_wp2_with (rw [← hW0]; clear hW0)
  refine bodyPost_ret (results_c rfl _ _ _ _ _ _ rfl (HN.out _) Tryd.underlying26 sizeRSup) rfl ⟨rfl, HB0.out.alloc HB0.out.size _⟩
set_option maxRecDepth 100000 in
set_option maxHeartbeats 4000000 in
theorem VolReads_walk (w : World) (bl ino : Int) (a2 a3 : Option Addr) (c2 c3 : Nat) (at_ by_ : List Int) (hA : Ints w a2 at_) (hAl : at_.length ≤ maxLen) (hY : Bytes w a3 by_) (hYl : by_.length ≤ maxLen) (hT : Tab w) :
    Calls Tryd.prog 3 #[n64 bl, n64 ino, .slice a2 at_.length c2, .slice a3 by_.length c3] w fun e w' => e = .returned (.bool true) ∧ Below w.heap.size w w' := by
  have HK := hid (known_any w)
  have HP := hid (rPlan_any bl ino)
  have HA := hid hA
  have HY := hid hY
  have HT := hid hT
  have HAl : Hid (at_.length ≤ maxLen ∧ by_.length ≤ maxLen) := hid ⟨hAl, hYl⟩
  obtain ⟨nA, hnA⟩ : ∃ nA, nA = at_.length := ⟨_, rfl⟩
  obtain ⟨nY, hnY⟩ : ∃ nY, nY = by_.length := ⟨_, rfl⟩
  rw [← hnA, ← hnY]
  have HNA := hid hnA
  have HNY := hid hnY
  clear hA hAl hY hYl hT hnA hnY
  go_enter Tryd.func3, Tryd.ntmps3
  go_wp2_with fail
  refine HK.out.mono ?_
  rintro e w1 ⟨rfl, hb1⟩
  have HB1 := hid hb1
  have HC := hid (HP.out w1)
  clear hb1 HK HP
  by_cases hP : planE bl ino = 0
  · rw [supA_ok hP, hP] at HC
    have HPO := hid (PlanOk.of hP)
    unfold supC at HC
    clear hP
    go_wp2_with fail
    refine HC.out.mono ?_
    rintro e w2 ⟨rfl, hb2⟩
    obtain ⟨W2, hW2⟩ : ∃ W, W = w2.alloc (.cells #[n64 bl, n64 ino, n64 1, n64 2, n64 68, n64 69, n64 (planT bl), n64 (planD bl ino)] 26) := ⟨_, rfl⟩
    have hbW : Below w2.heap.size w2 W2 := by rw [hW2]; exact (Below.refl _ _).alloc (Nat.le_refl _) _
    have HBW : Hid (Below w.heap.size w W2) := hid (HB1.out.trans ((hb2.trans (hbW.mono hb2.size)).mono HB1.out.size))
    have HE := hid (rEncode_any bl ino HPO.out W2)
    unfold supC at HE
    have hhW : W2.heap[w2.heap.size]? = some (.cells #[n64 bl, n64 ino, n64 1, n64 2, n64 68, n64 69, n64 (planT bl), n64 (planD bl ino)] 26 (0, 0)) := by rw [hW2]; exact alloc_new w2 _
    obtain ⟨d0, d1, d2, d3, d4, d5, d6, d7⟩ := cells8 hhW
    clear hb2 hbW HC HB1 hhW
    go_wp2_with (rw [← hW2]; clear hW2)
    refine HE.out.mono ?_
    rintro e w3 ⟨a, c, rfl, ho, hb3⟩
    obtain ⟨g, cap, e3, hcc, _, hg0, _, _, _⟩ := owns_cells ho (by decide)
    simp only [Value.slice.injEq, true_and] at e3
    obtain ⟨rfl, rfl⟩ := e3
    have HO := hid ho
    have HB3 : Hid (Below w.heap.size w w3) := hid (HBW.out.trans (hb3.mono HBW.out.size))
    have HG := hid hg0
    have HCC := hid hcc
    clear ho hb3 hg0 hcc HE d0 d1 d2 d3 d4 d5 d6 d7
    go_wp2
    go_loopw [12] (fun z wr => ∃ (j : Nat) (L : List Int), j ≤ 10 ∧ j ≤ nA ∧ j ≤ nY ∧ z = n64 j ∧ L.length = 512 ∧ (∀ x ∈ L, IsB x) ∧ wr.ownsRow W2.heap.size 5 1 (.slice (some ⟨g, 0, none⟩) 512 c) 512 (u8s L) ∧ Below w.heap.size w wr) (fun z _ => 10 - (RowKit.intOf z).toNat)
    case atStart => exact ⟨0, encL bl ino, by omega, by omega, by omega, rfl, encL_len _ _, encL_isB _ _, HO.out, HB3.out⟩
    case round =>
      obtain ⟨j, L, hj, hjA, hjY, rfl, hLl, hLI, hoL, hbL⟩ := hrel
      rename World => V
      have HOL := hid hoL
      have HBL := hid hbL
      have HLL := hid (And.intro hLl hLI)
      clear hoL hbL hLl hLI HO HB3
      by_cases hc : j < nA ∧ j < nY ∧ j < 10
      · obtain ⟨h1, h2, h3⟩ := hc
        have h1' : (j : Int) < nA := by omega
        have h2' : (j : Int) < nY := by omega
        have h3' : (j : Int) < 10 := by omega
        obtain ⟨ab, ao, rfl, hca, hIa⟩ := (HA.out.later HBL.out) j (by rw [← HNA.out]; exact h1)
        obtain ⟨yb, yo, rfl, hcy, hIy⟩ := (HY.out.later HBL.out) j (by rw [← HNY.out]; exact h2)
        obtain ⟨x, hx⟩ : ∃ x, x = at_.getD j 0 := ⟨_, rfl⟩
        obtain ⟨y, hy⟩ : ∃ y, y = by_.getD j 0 := ⟨_, rfl⟩
        rw [← hx] at hca
        rw [← hy] at hcy hIy
        have hm := Int.tmod_lt_of_pos x (show (0 : Int) < 512 by decide)
        have hm' : -512 < x.tmod 512 := by
          rcases Int.lt_or_le x 0 with h4 | h4
          · have h5 := Int.neg_tmod (-x) 512
            rw [Int.neg_neg] at h5
            rw [h5]
            have := Int.tmod_lt_of_pos (-x) (show (0 : Int) < 512 by decide)
            omega
          · have := Int.tmod_nonneg 512 h4
            omega
        obtain ⟨kk, hkk⟩ : ∃ kk : Nat, kk = (x.tmod 512).natAbs := ⟨_, rfl⟩
        have hk5 : kk < 512 := by omega
        obtain ⟨_, _, e4, _, _, _, _, hcell, hfr⟩ := owns_cells HOL.out (by decide)
        simp only [Value.slice.injEq, Option.some.injEq, Addr.mk.injEq, and_true, true_and] at e4
        obtain ⟨rfl, rfl⟩ := e4
        have g0 : V.cell? ⟨g, kk, none⟩ = some (.int .u8 (L.getD kk 0)) := hcell _ _ (by rw [u8s_get (by rw [HLL.out.1]; exact hk5)])
        have gf := hfr kk
        have g0d : V.drew.cell? ⟨g, kk, none⟩ = some (.int .u8 (L.getD kk 0)) := g0
        have gfd : V.drew.frozen? ⟨g, kk, none⟩ = false := gf
        have hcyd : V.drew.cell? ⟨yb, yo + j, none⟩ = some (.int .u8 y) := hcy
        have hkk' : (kk : Int) < 512 := by omega
        obtain ⟨u, hu⟩ : ∃ u, u = L.getD kk 0 := ⟨_, rfl⟩
        rw [← hu] at g0d g0
        have hw2 : IntKind.i64.wrap ((j : Int) + 1) = ((j + 1 : Nat) : Int) := by rw [IntWalk.i64_in _ (by omega)]; omega
        have HNX : Hid (∃ L', L'.length = 512 ∧ (∀ x ∈ L', IsB x) ∧ ((V.setCell ⟨g, kk, none⟩ (.int .u8 ((u + y) % 256))).drew).ownsRow W2.heap.size 5 1 (.slice (some ⟨g, 0, none⟩) 512 c) 512 (u8s L') ∧ Below w.heap.size w (V.setCell ⟨g, kk, none⟩ (.int .u8 ((u + y) % 256))).drew) := hid (by
          refine ⟨L.set kk ((u + y) % 256), by rw [List.length_set]; exact HLL.out.1, fun z hz => ?_, ?_, (HBL.out.setCell (Nat.le_trans HBW.out.size HG.out) _).drew⟩
          · rcases List.mem_or_eq_of_mem_set hz with h5 | h5
            · exact HLL.out.2 z h5
            · subst h5; unfold IsB; omega
          · have h5 := owns_set HOL.out (g := g) rfl kk (.int .u8 ((u + y) % 256))
            have e5 : (u8s L).set kk (.int .u8 ((u + y) % 256)) = u8s (L.set kk ((u + y) % 256)) := by simp
            rw [e5] at h5
            exact h5)
        clear hcell hfr hIa hIy hx hy hu HOL HLL
        by_cases hneg : x.tmod 512 < 0
        · have hxk : x.tmod 512 = -(kk : Int) := by omega
          have hkp : 0 < kk := by omega
          have hw3 : IntKind.i64.wrap (0 - -(kk : Int)) = (kk : Int) := by rw [IntWalk.i64_in _ (by omega)]; omega
          have hw4 : IntKind.i64.wrap (kk : Int) = (kk : Int) := IntWalk.i64_in _ (by omega)
          have hng : -(kk : Int) < 0 := by omega
          rw [hxk] at hneg
          clear hm hm' hkk hj hjA hjY
          go_wp2_with fail
          go_region
          all_goals
            go_wp2
            go_roundw
            case rel =>
              obtain ⟨L', k1, k2, k3, k4⟩ := HNX.out
              exact ⟨j + 1, L', by omega, by omega, by omega, by first | rfl | go_num, k1, k2, k3, k4⟩
            case measure => simp [RowKit.intOf]; omega
        · have hxk : x.tmod 512 = (kk : Int) := by omega
          have hng : ¬ (kk : Int) < 0 := by omega
          rw [hxk] at hneg
          clear hm hm' hkk hj hjA hjY
          go_wp2_with fail
          go_region
          all_goals
            go_wp2
            go_roundw
            case rel =>
              obtain ⟨L', k1, k2, k3, k4⟩ := HNX.out
              exact ⟨j + 1, L', by omega, by omega, by omega, by first | rfl | go_num, k1, k2, k3, k4⟩
            case measure => simp [RowKit.intOf]; omega
      · have hc3 : ¬ (j : Int) < nA ∨ ((j : Int) < nA ∧ ¬ (j : Int) < nY) ∨ ((j : Int) < nA ∧ (j : Int) < nY ∧ ¬ (j : Int) < 10) := by omega
        obtain ⟨a5, c5, e5, hc5, _, hy5⟩ := By.of_owns (S := fun _ => True) HOL.out HLL.out.2 (fun _ _ => trivial)
        simp only [Value.slice.injEq, true_and] at e5
        obtain ⟨rfl, rfl⟩ := e5
        have HC1 := Decode_512 V _ _ c L HLL.out.1 hc5 hy5 (HT.out.later HBL.out)
        have HC2 := hid (fun (W : World) (hb : Below V.heap.size V W) => rDecode_512 W _ _ c L HLL.out.1 hc5 (hy5.later hb))
        obtain ⟨x0, x1, x2, x3, x4, x5, x6, x7, hdA⟩ := decA_8 L
        rw [hdA] at HC1 HC2
        generalize decE L = E at *
        replace HC1 := hid HC1
        clear hc hy5 hc5 hdA HOL HLL hj hjA hjY
        rcases hc3 with h1 | ⟨h1, h2⟩ | ⟨h1, h2, h3⟩
        all_goals
          go_wp2_with fail
          refine HC1.out.mono ?_
          rintro e w5 ⟨rfl, hb5⟩
          obtain ⟨W6, hW6⟩ : ∃ W, W = w5.alloc (.cells #[n64 x0, n64 x1, n64 x2, n64 x3, n64 x4, n64 x5, n64 x6, n64 x7] 30) := ⟨_, rfl⟩
          have hb56 : Below w5.heap.size w5 W6 := by rw [hW6]; exact (Below.refl _ _).alloc (Nat.le_refl _) _
          have hb6 : Below V.heap.size V W6 := hb5.trans (hb56.mono hb5.size)
          have hh6 : W6.heap[w5.heap.size]? = some (.cells #[n64 x0, n64 x1, n64 x2, n64 x3, n64 x4, n64 x5, n64 x6, n64 x7] 30 (0, 0)) := by rw [hW6]; exact alloc_new w5 _
          have HB6 := hid hb6
          have HH6 := hid hh6
          have HCR := hid (HC2.out W6 hb6)
          clear hb5 hb56 hb6 hh6 HC1 HC2
          go_wp2_with (rw [← hW6]; clear hW6)
          refine HCR.out.mono ?_
          rintro e w7 ⟨rfl, hb7⟩
          obtain ⟨W8, hW8⟩ : ∃ W, W = w7.alloc (.cells #[n64 x0, n64 x1, n64 x2, n64 x3, n64 x4, n64 x5, n64 x6, n64 x7] 26) := ⟨_, rfl⟩
          have hb78 : Below w7.heap.size w7 W8 := by rw [hW8]; exact (Below.refl _ _).alloc (Nat.le_refl _) _
          have hb8 : Below W6.heap.size W6 W8 := hb7.trans (hb78.mono hb7.size)
          have hh8 : W8.heap[w7.heap.size]? = some (.cells #[n64 x0, n64 x1, n64 x2, n64 x3, n64 x4, n64 x5, n64 x6, n64 x7] 26 (0, 0)) := by rw [hW8]; exact alloc_new w7 _
          have hh6' := (hb8.block _ (Array.getElem?_eq_some_iff.1 HH6.out).1).trans HH6.out
          have HCS : Hid (∀ W, Below W8.heap.size W8 W → W.heap[w5.heap.size]? = some (.cells #[n64 x0, n64 x1, n64 x2, n64 x3, n64 x4, n64 x5, n64 x6, n64 x7] 30 (0, 0)) ∧ W.heap[w7.heap.size]? = some (.cells #[n64 x0, n64 x1, n64 x2, n64 x3, n64 x4, n64 x5, n64 x6, n64 x7] 26 (0, 0))) := hid (fun W hb => ⟨(hb.block _ (Array.getElem?_eq_some_iff.1 hh6').1).trans hh6', (hb.block _ (Array.getElem?_eq_some_iff.1 hh8).1).trans hh8⟩)
          have HB8 : Hid (Below w.heap.size w W8) := hid (HBL.out.trans ((HB6.out.trans (hb8.mono HB6.out.size)).mono HBL.out.size))
          clear hb7 hb78 hb8 hh8 hh6' HCR HH6
          go_wp2_with (rw [← hW8]; clear hW8)
          refine wp_region_held_drew (S := fun w' => w'.heap[w5.heap.size]? = some (.cells #[n64 x0, n64 x1, n64 x2, n64 x3, n64 x4, n64 x5, n64 x6, n64 x7] 30 (0, 0)) ∧ w'.heap[w7.heap.size]? = some (.cells #[n64 x0, n64 x1, n64 x2, n64 x3, n64 x4, n64 x5, n64 x6, n64 x7] 26 (0, 0))) (by kernel_rfl) (HCS.out W8.drew ((Below.refl _ W8).drew)) (fun hS => ?_)
          refine nany_take 0 77 (.agg #[n64 x0, n64 x1, n64 x2, n64 x3, n64 x4, n64 x5, n64 x6, n64 x7]) rfl rfl (by kernel_rfl) (by kernel_rfl) (by kernel_rfl) (fun _ _ _ h => h) (Or.inl ⟨by rfl, ?_⟩) hS ?_
          · rintro w' ⟨h5, h7⟩
            obtain ⟨r0, r1, r2, r3, r4, r5, r6, r7⟩ := cells8 h5
            obtain ⟨t0, t1, t2, t3, t4, t5, t6, t7⟩ := cells8 h7
            clear h5 h7
            go_simp
          simp only [List.setIfInBounds_toArray, List.set_cons_zero, List.set_cons_succ]
          refine nany_take 2 79 (.agg #[n64 x0, n64 x1, n64 x2, n64 x3, n64 x4, n64 x5, n64 x6, n64 x7]) rfl rfl (by kernel_rfl) (by kernel_rfl) (by kernel_rfl) (fun _ _ _ h => h) (Or.inl ⟨by rfl, ?_⟩) hS ?_
          · rintro w' ⟨h5, h7⟩
            obtain ⟨r0, r1, r2, r3, r4, r5, r6, r7⟩ := cells8 h5
            obtain ⟨t0, t1, t2, t3, t4, t5, t6, t7⟩ := cells8 h7
            clear h5 h7
            go_simp
          simp only [List.setIfInBounds_toArray, List.set_cons_zero, List.set_cons_succ]
          refine nany_one 1 (by kernel_rfl) ?_
          refine nop_callE 78 (f := 10) (args := #[.agg #[n64 x0, n64 x1, n64 x2, n64 x3, n64 x4, n64 x5, n64 x6, n64 x7]]) (R := fun v w' => v = .agg #[n64 x0, n64 x1, n64 x2, n64 x3, n64 x4, n64 x5, n64 x6, n64 x7] ∧ Below W8.heap.size W8 w') rfl (by rfl) rfl (by go_simp) ((super_any W8.drew x0 x1 x2 x3 x4 x5 x6 x7).mono (fun e w' h => ⟨_, h.1, rfl, ((Below.refl _ W8).drew).trans h.2⟩)) ?_
          rintro v9 w9 ⟨rfl, hb9⟩
          clear hS
          have hS := HCS.out w9 hb9
          refine ⟨hS, ?_⟩
          simp only [List.setIfInBounds_toArray, List.set_cons_zero, List.set_cons_succ]
          refine nany_take 3 80 (.bool true) rfl rfl (by kernel_rfl) (by kernel_rfl) (by kernel_rfl) (fun _ _ _ h => h) (Or.inl ⟨by rfl, ?_⟩) hS ?_
          · rintro w' ⟨h5, h7⟩
            obtain ⟨r0, r1, r2, r3, r4, r5, r6, r7⟩ := cells8 h5
            obtain ⟨t0, t1, t2, t3, t4, t5, t6, t7⟩ := cells8 h7
            clear h5 h7
            go_simp
          simp only [List.setIfInBounds_toArray, List.set_cons_zero, List.set_cons_succ]
          refine nany_take 4 81 (.bool true) rfl rfl (by kernel_rfl) (by kernel_rfl) (by kernel_rfl) (fun _ _ _ h => h) (Or.inl ⟨by rfl, ?_⟩) hS ?_
          · rintro w' ⟨h5, h7⟩
            obtain ⟨r0, r1, r2, r3, r4, r5, r6, r7⟩ := cells8 h5
            obtain ⟨t0, t1, t2, t3, t4, t5, t6, t7⟩ := cells8 h7
            clear h5 h7
            go_simp
          simp only [List.setIfInBounds_toArray, List.set_cons_zero, List.set_cons_succ]
          refine nany_take 5 82 (n64 E) rfl rfl (by kernel_rfl) (by kernel_rfl) (by kernel_rfl) (fun _ _ _ h => h) (Or.inl ⟨by rfl, ?_⟩) hS ?_
          · rintro w' ⟨h5, h7⟩
            obtain ⟨r0, r1, r2, r3, r4, r5, r6, r7⟩ := cells8 h5
            obtain ⟨t0, t1, t2, t3, t4, t5, t6, t7⟩ := cells8 h7
            clear h5 h7
            go_simp
          simp only [List.setIfInBounds_toArray, List.set_cons_zero, List.set_cons_succ]
          refine nany_take 6 83 (n64 E) rfl rfl (by kernel_rfl) (by kernel_rfl) (by kernel_rfl) (fun _ _ _ h => h) (Or.inl ⟨by rfl, ?_⟩) hS ?_
          · rintro w' ⟨h5, h7⟩
            obtain ⟨r0, r1, r2, r3, r4, r5, r6, r7⟩ := cells8 h5
            obtain ⟨t0, t1, t2, t3, t4, t5, t6, t7⟩ := cells8 h7
            clear h5 h7
            go_simp
          simp only [List.setIfInBounds_toArray, List.set_cons_zero, List.set_cons_succ]
          refine nany_take 7 84 (.bool true) rfl rfl (by kernel_rfl) (by kernel_rfl) (by kernel_rfl) (fun _ _ _ h => h) (Or.inl ⟨by rfl, ?_⟩) hS ?_
          · rintro w' ⟨h5, h7⟩
            obtain ⟨r0, r1, r2, r3, r4, r5, r6, r7⟩ := cells8 h5
            obtain ⟨t0, t1, t2, t3, t4, t5, t6, t7⟩ := cells8 h7
            clear h5 h7
            go_simp
          simp only [List.setIfInBounds_toArray, List.set_cons_zero, List.set_cons_succ]
          refine nany_take 8 85 (.bool true) rfl rfl (by kernel_rfl) (by kernel_rfl) (by kernel_rfl) (fun _ _ _ h => h) (Or.inl ⟨by rfl, ?_⟩) hS ?_
          · rintro w' ⟨h5, h7⟩
            obtain ⟨r0, r1, r2, r3, r4, r5, r6, r7⟩ := cells8 h5
            obtain ⟨t0, t1, t2, t3, t4, t5, t6, t7⟩ := cells8 h7
            clear h5 h7
            go_simp
          simp only [List.setIfInBounds_toArray, List.set_cons_zero, List.set_cons_succ]
          refine nany_take 9 8 (.bool true) rfl rfl (by kernel_rfl) (by kernel_rfl) (by kernel_rfl) (fun _ _ _ h => h) (Or.inl ⟨by rfl, ?_⟩) hS ?_
          · rintro w' ⟨h5, h7⟩
            obtain ⟨r0, r1, r2, r3, r4, r5, r6, r7⟩ := cells8 h5
            obtain ⟨t0, t1, t2, t3, t4, t5, t6, t7⟩ := cells8 h7
            clear h5 h7
            go_simp
          simp only [List.setIfInBounds_toArray, List.set_cons_zero, List.set_cons_succ]
          refine wpAnyH_done (by kernel_rfl) ?_ _
          have HB9 : Hid (Below w.heap.size w w9) := hid (HB8.out.trans (hb9.mono HB8.out.size))
          clear hS hb9
          go_wp2
          go_ret
          exact ⟨rfl, HB9.out⟩
  · rw [supA_no hP] at HC
    unfold sup0 at HC
    generalize planE bl ino = E at *
    have hE : (E != 0) = true := by simpa using hP
    clear hP
    go_wp2_with fail
    refine HC.out.mono ?_
    rintro e w2 ⟨rfl, hb2⟩
    have HB2 : Hid (Below w.heap.size w w2) := hid (HB1.out.trans (hb2.mono HB1.out.size))
    clear hb2 HC
    go_wp2
    go_ret
    exact ⟨rfl, HB2.out.alloc HB2.out.size _⟩
end Go.Proofs.YtbimociijdaahaaDoor
