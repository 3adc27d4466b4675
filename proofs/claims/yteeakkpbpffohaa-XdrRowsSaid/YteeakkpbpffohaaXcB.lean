/- Several elements in one call are written as one by one: the law's walk. -/
import Derived.Test.YteeakkpbpffohaaXcA
namespace Go.Proofs.Yteeakkpbpffohaa
open Go.RowKit Go.Maps
set_option linter.unusedVariables false

theorem TV.begin_ {w0 w1 W2 w3 : World} (hb1 : Below w0.heap.size w0 w1) (hW2 : W2 = w1.alloc (.cells #[.slice none 0 0] 42)) (hx : WX w3 73 W2.heap.size (fun b => b = W2.heap.size) []) (hb3 : Below W2.heap.size W2 w3) : TV w0 w3 W2.heap.size w1.heap.size [] [] := by
  have b2 : Below w1.heap.size w1 W2 := by rw [hW2]; exact below_alloc (Below.refl _ _) (Nat.le_refl _) _
  have hlt : w1.heap.size < W2.heap.size := by rw [hW2]; simp
  have hy : WX W2 42 w1.heap.size (fun b => b = w1.heap.size) [] := ⟨by decide, fun x hx => by simp at hx, ⟨.slice none 0 0, by rw [hW2]; exact alloc_new w1 _, RW.nil _ 5 1, fun b hb => by simp [blkV] at hb⟩, rfl, fun b hb => by rw [hb]; exact hlt⟩
  have h1 := hb1.size
  refine ⟨⟨_, _, hx, hy.later hb3, fun b hb e => ?_, fun b hb => by rw [hb]; omega, fun b hb => by rw [hb]; exact h1⟩, (hb1.trans (b2.mono hb1.size)).trans (hb3.mono (Nat.le_trans h1 b2.size))⟩
  have h2 : b = W2.heap.size := hb
  have h3 : b = w1.heap.size := e
  omega
set_option maxRecDepth 100000 in
set_option maxHeartbeats 16000000 in
theorem XdrRows_walk (w : World) (a b c d : Option Addr) (na ca nb cb nc cc nd cd : Nat) (la lb : List Int) (lc : List Bool) (ld : List (List Int)) (ha : la.length = na) (hb : lb.length = nb) (hc : lc.length = nc) (hd : ld.length = nd)
    (hma : na ≤ maxLen) (hmb : nb ≤ maxLen) (hmc : nc ≤ maxLen) (hmd : nd ≤ maxLen) (hA : U32s w a la) (hB : Words w b lb) (hC : Trus w c lc) (hD : RowsOf w d ld) (hml : ∀ x ∈ ld, x.length ≤ maxLen) :
    Calls Try.prog 5 #[.slice a na ca, .slice b nb cb, .slice c nc cc, .slice d nd cd] w fun e w' => e = .returned (.bool true) ∧ Below w.heap.size w w' := by
  have HK := hid (known_any w)
  have HA := hid hA
  have HB := hid hB
  have HC := hid hC
  have HD := hid hD
  have HLA := hid ha
  have HLB := hid hb
  have HLC := hid hc
  have HLD := hid hd
  have HML := hid hml
  unfold maxLen at hma hmb hmc hmd
  clear hA hB hC hD ha hb hc hd hml
  by_cases gna : na ≤ 100
  · have fna : ¬ ((100 : Int) < na) := by omega
    by_cases gnb : nb ≤ 100
    · have fnb : ¬ ((100 : Int) < nb) := by omega
      by_cases gnc : nc ≤ 100
      · have fnc : ¬ ((100 : Int) < nc) := by omega
        by_cases gnd : nd ≤ 30
        · have fnd : ¬ ((30 : Int) < nd) := by omega
          obtain ⟨F1, hF1⟩ : ∃ F : Nat → List Int, F = fun k => nuL 4 (la.take k) := ⟨_, rfl⟩
          obtain ⟨F2, hF2⟩ : ∃ F : Nat → List Int, F = fun k => nuL 8 (lb.take k) := ⟨_, rfl⟩
          obtain ⟨F3, hF3⟩ : ∃ F : Nat → List Int, F = fun k => nuL 4 (tnums (lc.take k)) := ⟨_, rfl⟩
          obtain ⟨F4, hF4⟩ : ∃ F : Nat → List Int, F = fun k => (ld.take k).flatMap fuL := ⟨_, rfl⟩
          obtain ⟨F5, hF5⟩ : ∃ F : Nat → List Int, F = fun k => (ld.take k).flatMap pdL := ⟨_, rfl⟩
          have Z1 : Hid (F1 0 = []) := hid (by rw [hF1]; simp)
          have Z2 : Hid (F2 0 = []) := hid (by rw [hF2]; simp)
          have Z3 : Hid (F3 0 = []) := hid (by rw [hF3]; simp)
          have Z4 : Hid (F4 0 = []) := hid (by rw [hF4]; simp)
          have Z5 : Hid (F5 0 = []) := hid (by rw [hF5]; simp)
          have S1 : Hid (∀ k, k < na → F1 (k + 1) = F1 k ++ bytesBe 4 (la.getD k 0)) := hid (fun k hk => by rw [hF1]; exact nuL_snoc 4 la k (by rw [HLA.out]; exact hk))
          have S2 : Hid (∀ k, k < nb → F2 (k + 1) = F2 k ++ bytesBe 8 (lb.getD k 0)) := hid (fun k hk => by rw [hF2]; exact nuL_snoc 8 lb k (by rw [HLB.out]; exact hk))
          have S3 : Hid (∀ k, k < nc → F3 (k + 1) = F3 k ++ bytesBe 4 (tnum (lc.getD k false))) := hid (fun k hk => by rw [hF3]; exact tnums_snoc lc k (by rw [HLC.out]; exact hk))
          have S4 : Hid (∀ k, k < nd → F4 (k + 1) = F4 k ++ fuL (ld.getD k [])) := hid (fun k hk => by rw [hF4]; exact flatMap_snoc fuL ld k (by rw [HLD.out]; exact hk))
          have S5 : Hid (∀ k, k < nd → F5 (k + 1) = F5 k ++ pdL (ld.getD k [])) := hid (fun k hk => by rw [hF5]; exact flatMap_snoc pdL ld k (by rw [HLD.out]; exact hk))
          have E1 : Hid (nuL 4 la = F1 na) := hid (by rw [hF1]; show _ = nuL 4 (la.take na); rw [List.take_of_length_le (by rw [HLA.out]; exact Nat.le_refl _)])
          have E2 : Hid (nuL 8 lb = F2 nb) := hid (by rw [hF2]; show _ = nuL 8 (lb.take nb); rw [List.take_of_length_le (by rw [HLB.out]; exact Nat.le_refl _)])
          have E3 : Hid (nuL 4 (tnums lc) = F3 nc) := hid (by rw [hF3]; show _ = nuL 4 (tnums (lc.take nc)); rw [List.take_of_length_le (by rw [HLC.out]; exact Nat.le_refl _)])
          have E4 : Hid (ld.flatMap fuL = F4 nd) := hid (by rw [hF4]; show _ = (ld.take nd).flatMap fuL; rw [List.take_of_length_le (by rw [HLD.out]; exact Nat.le_refl _)])
          have E5 : Hid (ld.flatMap pdL = F5 nd) := hid (by rw [hF5]; show _ = (ld.take nd).flatMap pdL; rw [List.take_of_length_le (by rw [HLD.out]; exact Nat.le_refl _)])
          have B1 : Hid (∀ k, (F1 k).length ≤ 400) := hid (fun k => by rw [hF1]; show (nuL 4 (la.take k)).length ≤ 400; rw [nuL_len, List.length_take, HLA.out]; have := Nat.min_le_right k na; omega)
          have B2 : Hid (∀ k, (F2 k).length ≤ 800) := hid (fun k => by rw [hF2]; show (nuL 8 (lb.take k)).length ≤ 800; rw [nuL_len, List.length_take, HLB.out]; have := Nat.min_le_right k nb; omega)
          have B3 : Hid (∀ k, (F3 k).length ≤ 400) := hid (fun k => by rw [hF3]; show (nuL 4 (tnums (lc.take k))).length ≤ 400; rw [nuL_len, List.length_map, List.length_take, HLC.out]; have := Nat.min_le_right k nc; omega)
          have B4 : Hid ((∀ x ∈ ld, x.length ≤ 2000) → ∀ k, (F4 k).length ≤ 70000) := hid (fun h k => by rw [hF4]; exact Nat.le_trans (flat_take_bd fuL ld 2007 k 30 (by rw [HLD.out]; exact gnd) (fun b hb => fuL_bd b 2000 (h b hb))) (by omega))
          have B5 : Hid ((∀ x ∈ ld, x.length ≤ 2000) → ∀ k, (F5 k).length ≤ 70000) := hid (fun h k => by rw [hF5]; exact Nat.le_trans (flat_take_bd pdL ld 2007 k 30 (by rw [HLD.out]; exact gnd) (fun b hb => pdL_bd b 2000 (h b hb))) (by omega))
          have D4 : Hid (∀ k, (ld.take k).flatMap fuL = F4 k) := hid (fun k => by rw [hF4])
          have D5 : Hid (∀ k, (ld.take k).flatMap pdL = F5 k) := hid (fun k => by rw [hF5])
          have G4 : Hid (∀ k, k ≤ nd → (∀ j, j < k → (ld.getD j []).length ≤ 2000) → (F4 k).length ≤ 70000) := hid (fun k hk h => by
            rw [hF4]
            refine Nat.le_trans (flat_bd fuL (ld.take k) 2007 (fun b hb => ?_)) ?_
            · obtain ⟨j, hj, rfl⟩ := List.getElem_of_mem hb
              rw [List.length_take] at hj
              have h1 : j < k := by omega
              have h2 : j < ld.length := by omega
              have h3 := h j h1
              have h4 : ld.getD j [] = ld[j] := by simp [List.getD, h2]
              rw [h4] at h3
              rw [List.getElem_take]
              exact fuL_bd _ 2000 h3
            · rw [List.length_take, HLD.out]
              have := Nat.min_le_right k nd
              have : min k nd ≤ 30 := by omega
              exact Nat.le_trans (Nat.mul_le_mul_left 2007 this) (by omega))
          have G9 : Hid ((∀ j, j < nd → (ld.getD j []).length ≤ 2000) → ∀ x ∈ ld, x.length ≤ 2000) := hid (fun h x hx => by
            obtain ⟨j, hj, rfl⟩ := List.getElem_of_mem hx
            have h3 := h j (by rw [← HLD.out]; exact hj)
            have h4 : ld.getD j [] = ld[j] := by simp [List.getD, hj]
            rw [h4] at h3
            exact h3)
          clear hF1 hF2 hF3 hF4 hF5
          go_enter Try.func5, Try.ntmps5
          go_wp2_with (first
            | (go_at_call 8
               refine HK.out.mono ?_
               rintro e w1 ⟨rfl, hb1⟩
               obtain ⟨W2, hW2⟩ : ∃ W, W = w1.alloc (.cells #[.slice none 0 0] 42) := ⟨_, rfl⟩
               have HB1 := hid hb1
               have HW2 := hid hW2
               have HNW := hid (NewWriter_any W2)
               have hW2' := hW2.symm
               clear hb1 hW2)
            | (go_at_call 15
               (try rw [hW2'])
               refine HNW.out.mono ?_
               rintro e w3 ⟨rfl, hx, hb3⟩
               have hT2 : ∃ p q, p = W2.heap.size ∧ q = w1.heap.size ∧ TV w w3 p q [] [] := ⟨_, _, rfl, rfl, TV.begin_ HB1.out HW2.out hx hb3⟩
               obtain ⟨p, q, hp, hq, hT3⟩ := hT2
               have HC1 := hid (hT3.pU32 na ca a la HLA.out gna HA.out (by simp))
               rw [← hp]
               have hp' := hp.symm
               have hq' := hq.symm
               clear hx hb3 hT3 hp hq)
            | (go_at_call 18
               refine HC1.out.mono ?_
               rintro e w4 ⟨rfl, hT⟩
               rw [List.nil_append, E1.out] at hT
               have HC2 := hid (hT.pU64 nb cb b lb HLB.out gnb HB.out (by have := B1.out na; omega))
               clear hT)
            | (go_at_call 19
               refine HC2.out.mono ?_
               rintro e w5 ⟨rfl, hT⟩
               rw [E2.out] at hT
               have HC3 := hid (hT.pBool nc cc c lc HLC.out gnc HC.out (by rw [List.length_append]; have := B1.out na; have := B2.out nb; omega))
               clear hT)
            | (go_at_call 20
               refine HC3.out.mono ?_
               rintro e w6 ⟨rfl, hT⟩
               rw [E3.out] at hT
               have HT := hid hT
               clear hT))
          obtain ⟨LA, hLA⟩ : ∃ LA, F1 na ++ F2 nb ++ F3 nc = LA := ⟨_, rfl⟩
          have BLA : Hid (LA.length ≤ 1600) := hid (by rw [← hLA, List.length_append, List.length_append]; have := B1.out na; have := B2.out nb; have := B3.out nc; omega)
          rw [hLA] at HT
          have HLM := hid hLA
          clear hLA
          go_loopw [11] (fun i wr => ∃ k : Nat, k ≤ na ∧ i = .int .i64 k ∧ TV w wr p q LA (F1 k)) (fun i _ => na - (intOf i).toNat)
          case atStart => exact ⟨0, Nat.zero_le _, rfl, by simpa [Z1.out] using HT.out⟩
          case round =>
            obtain ⟨k, hk, rfl, hT⟩ := hrel
            by_cases hlt : k < na
            · have hki : (k : Int) < na := by omega
              obtain ⟨b2, off2, rfl, hc, hu⟩ := HA.out.later hT.bl k (by rw [HLA.out]; exact hlt)
              have HO := hid (S1.out k hlt)
              generalize la.getD k 0 = x at *
              have HCC := hid (hT.rU32 x hu (by have := B1.out k; omega))
              have HT1 := hid hT
              clear hT
              go_wp2_with (go_at_call 21; refine HCC.out.mono ?_; rintro e w9 ⟨rfl, hT⟩; have HT9 := hid hT; clear hT)
              go_roundw
              case rel => exact ⟨k + 1, by omega, by go_num, by rw [HO.out]; exact HT9.out⟩
              case measure => simp [intOf]; omega
            · have hki : ¬ ((k : Int) < na) := by omega
              obtain rfl : na = k := by omega
              have HT2 := hid hT
              clear hT
              rename World => V11
              go_wp2
              go_loopw [12] (fun i wr => ∃ k : Nat, k ≤ nb ∧ i = .int .i64 k ∧ TV w wr p q LA (F1 na ++ F2 k)) (fun i _ => nb - (intOf i).toNat)
              case atStart => exact ⟨0, Nat.zero_le _, rfl, by simpa [Z2.out] using HT2.out⟩
              case round =>
                obtain ⟨k, hk, rfl, hT⟩ := hrel
                by_cases hlt : k < nb
                · have hki : (k : Int) < nb := by omega
                  obtain ⟨b2, off2, rfl, hc, hu⟩ := HB.out.later hT.bl k (by rw [HLB.out]; exact hlt)
                  have HO := hid (S2.out k hlt)
                  generalize lb.getD k 0 = x at *
                  have HCC := hid (hT.rU64 x hu (by rw [List.length_append]; have := B1.out na; have := B2.out k; omega))
                  have HT1 := hid hT
                  clear hT
                  go_wp2_with (go_at_call 22; refine HCC.out.mono ?_; rintro e w9 ⟨rfl, hT⟩; have HT9 := hid hT; clear hT)
                  go_roundw
                  case rel => exact ⟨k + 1, by omega, by go_num, by rw [HO.out, ← List.append_assoc]; exact HT9.out⟩
                  case measure => simp [intOf]; omega
                · have hki : ¬ ((k : Int) < nb) := by omega
                  obtain rfl : nb = k := by omega
                  have HT2 := hid hT
                  clear hT
                  rename World => V12
                  go_wp2
                  go_loopw [13] (fun i wr => ∃ k : Nat, k ≤ nc ∧ i = .int .i64 k ∧ TV w wr p q LA (F1 na ++ F2 nb ++ F3 k)) (fun i _ => nc - (intOf i).toNat)
                  case atStart => exact ⟨0, Nat.zero_le _, rfl, by simpa [Z3.out] using HT2.out⟩
                  case round =>
                    obtain ⟨k, hk, rfl, hT⟩ := hrel
                    by_cases hlt : k < nc
                    · have hki : (k : Int) < nc := by omega
                      obtain ⟨b2, off2, rfl, hc⟩ := HC.out.later hT.bl k (by rw [HLC.out]; exact hlt)
                      have HO := hid (S3.out k hlt)
                      generalize lc.getD k false = x at *
                      have HCC := hid (hT.rBool x (by rw [List.length_append, List.length_append]; have := B1.out na; have := B2.out nb; have := B3.out k; omega))
                      have HT1 := hid hT
                      clear hT
                      go_wp2_with (go_at_call 23; refine HCC.out.mono ?_; rintro e w9 ⟨rfl, hT⟩; have HT9 := hid hT; clear hT)
                      go_roundw
                      case rel => exact ⟨k + 1, by omega, by go_num, by rw [HO.out, ← List.append_assoc]; exact HT9.out⟩
                      case measure => simp [intOf]; omega
                    · have hki : ¬ ((k : Int) < nc) := by omega
                      obtain rfl : nc = k := by omega
                      have HT2 := hid hT
                      clear hT
                      rename World => V13
                      go_wp2
                      rw [HLM.out] at HT2
                      go_loopw [14] (fun i wr => ∃ k : Nat, k ≤ nd ∧ i = .int .i64 k ∧ TV w wr p q LA (LA ++ F4 k) ∧ ∀ j, j < k → (ld.getD j []).length ≤ 2000) (fun i _ => nd - (intOf i).toNat)
                      case atStart => exact ⟨0, Nat.zero_le _, rfl, by simpa [Z4.out] using HT2.out, fun j hj => by omega⟩
                      case round =>
                        obtain ⟨k, hk, rfl, hT, hle⟩ := hrel
                        by_cases hlt : k < nd
                        · have hki : (k : Int) < nd := by omega
                          obtain ⟨b2, off2, ai, ci, rfl, hc0, hu⟩ := HD.out k (by rw [HLD.out]; exact hlt)
                          have hc := cell_later hT.bl hc0
                          have HO := hid (S4.out k hlt)
                          have hmx := HML.out _ (getD_mem (by rw [HLD.out]; exact hlt : k < ld.length))
                          unfold maxLen at hmx
                          have HG := hid (G4.out k hk hle)
                          have HLE := hid hle
                          clear hle
                          obtain ⟨x, hx⟩ : ∃ x, ld.getD k [] = x := ⟨_, rfl⟩
                          rw [hx] at hc hc0 hu HO hmx
                          obtain ⟨xn, hxn⟩ : ∃ m, x.length = m := ⟨_, rfl⟩
                          rw [hxn] at hc hc0 hmx
                          by_cases hsm : xn ≤ 2000
                          · have hsi : ¬ ((2000 : Int) < xn) := by omega
                            have HCC := hid (hT.rBytes xn ci ai x hxn hu (by omega) (by rw [List.length_append]; have := BLA.out; have := HG.out; omega))
                            have HT1 := hid hT
                            have HX := hid hx
                            have HXN := hid hxn
                            clear hT hx hxn hu hc0
                            go_wp2_with (go_at_call 24; refine HCC.out.mono ?_; rintro e w9 ⟨rfl, hT⟩; have HT9 := hid hT; clear hT)
                            go_roundw
                            case rel => exact ⟨k + 1, by omega, by go_num, by rw [HO.out, ← List.append_assoc]; exact HT9.out, fun j hj => by
                                by_cases e : j < k
                                · exact HLE.out j e
                                · obtain rfl : j = k := by omega
                                  rw [HX.out, HXN.out]; exact hsm⟩
                            case measure => simp [intOf]; omega
                          · have hsi : (2000 : Int) < xn := by omega
                            have HBL := hid hT.bl
                            clear hT hx hxn hu hc0
                            go_wp2
                            go_ret
                            exact ⟨rfl, HBL.out⟩
                        · have hki : ¬ ((k : Int) < nd) := by omega
                          obtain rfl : nd = k := by omega
                          have HX2 := hid (G9.out hle)
                          clear hle
                          have HT3 := hid hT
                          clear hT
                          rename World => V14
                          have HC7 := hid (HT3.out.pBytes nd cd d ld HLD.out (by omega) HD.out (fun k => by rw [D4.out, List.length_append]; have := BLA.out; have := B4.out HX2.out k; omega) (fun b hb => Nat.le_trans (HX2.out b hb) (by omega)))
                          rw [E4.out] at HC7
                          clear HT3
                          go_wp2_with (go_at_call 25; refine HC7.out.mono ?_; rintro e w8 ⟨rfl, hT⟩; have HT4 := hid hT; clear hT)
                          go_loopw [15] (fun i wr => ∃ k : Nat, k ≤ nd ∧ i = .int .i64 k ∧ TV w wr p q (LA ++ F4 nd) (LA ++ F4 nd ++ F5 k)) (fun i _ => nd - (intOf i).toNat)
                          case atStart => exact ⟨0, Nat.zero_le _, rfl, by simpa [Z5.out] using HT4.out⟩
                          case round =>
                            obtain ⟨k, hk, rfl, hT⟩ := hrel
                            by_cases hlt : k < nd
                            · have hki : (k : Int) < nd := by omega
                              obtain ⟨b2, off2, ai, ci, rfl, hc0, hu⟩ := HD.out k (by rw [HLD.out]; exact hlt)
                              have hc := cell_later hT.bl hc0
                              have HO := hid (S5.out k hlt)
                              have hmx := HML.out _ (getD_mem (by rw [HLD.out]; exact hlt : k < ld.length))
                              unfold maxLen at hmx
                              have hx2 := HX2.out _ (getD_mem (by rw [HLD.out]; exact hlt : k < ld.length))
                              obtain ⟨x, hx⟩ : ∃ x, ld.getD k [] = x := ⟨_, rfl⟩
                              rw [hx] at hc hc0 hu HO hmx hx2
                              obtain ⟨xn, hxn⟩ : ∃ m, x.length = m := ⟨_, rfl⟩
                              rw [hxn] at hc hc0 hmx hx2
                              have HCC := hid (hT.rFixed xn ci ai x hxn hu (by omega) (by rw [List.length_append, List.length_append]; have := BLA.out; have := B4.out HX2.out nd; have := B5.out HX2.out k; omega))
                              have HT1 := hid hT
                              have HX := hid hx
                              have HXN := hid hxn
                              clear hT hx hxn hu hc0
                              go_wp2_with (go_at_call 26; refine HCC.out.mono ?_; rintro e w9 ⟨rfl, hT⟩; have HT9 := hid hT; clear hT)
                              go_roundw
                              case rel => exact ⟨k + 1, by omega, by go_num, by rw [HO.out, ← List.append_assoc]; exact HT9.out⟩
                              case measure => simp [intOf]; omega
                            · have hki : ¬ ((k : Int) < nd) := by omega
                              obtain rfl : nd = k := by omega
                              have HT3 := hid hT
                              clear hT
                              rename World => V15
                              have HC8 := hid (HT3.out.pFixed nd cd d ld HLD.out (by omega) HD.out (fun k => by rw [D5.out, List.length_append, List.length_append]; have := BLA.out; have := B4.out HX2.out nd; have := B5.out HX2.out k; omega) (fun b hb => Nat.le_trans (HX2.out b hb) (by omega)))
                              rw [E5.out] at HC8
                              clear HT3
                              go_upto_region 36 with (go_at_call 27; refine HC8.out.mono ?_; rintro e w7 ⟨rfl, hT⟩; have HT7 := hid hT; clear hT)
                              try simp only [Act.put]
                              obtain ⟨MM, hMM⟩ : ∃ M, LA ++ F4 nd ++ F5 nd = M := ⟨_, rfl⟩
                              have BMM : Hid (MM.length ≤ 900000) := hid (by rw [← hMM, List.length_append, List.length_append]; have := BLA.out; have := B4.out HX2.out nd; have := B5.out HX2.out nd; omega)
                              rw [hMM] at HT7
                              clear hMM
                              obtain ⟨⟨S1', S2', h1, h2, _, _, _⟩, hbl⟩ := HT7.out
                              obtain ⟨m, hm2⟩ : ∃ m, MM.length = m := ⟨_, rfl⟩
                              have hlm : m ≤ 900000 := by rw [← hm2]; exact BMM.out
                              obtain ⟨a5, c5, h3, h4⟩ := h2.row
                              rw [hm2] at h3
                              refine wp_region_held_drew (S := fun w' => Below w7.drew.heap.size w7.drew w') (by kernel_rfl) (Below.refl _ _) (fun hS => ?_)
                              obtain ⟨v0, hv0⟩ : ∃ W, W = w7.drew := ⟨_, rfl⟩
                              rw [← hv0] at hS ⊢
                              have b0 : Below w7.heap.size w7 v0 := by rw [hv0]; exact (Below.refl _ _).drew
                              have hcell := cell_of ((b0.block q (h2.slt q h2.sp)).trans h3) (i := 0) (v := .slice a5 m c5) rfl
                              have hby := h4.later b0
                              have hD := Done_any (h1.later b0) m hm2 hlm
                              have HB5 := hid (HT7.out.later b0).bl
                              clear h1 h2 h3 h4 hbl hv0 b0
                              refine nany_take 0 122 (.pointer (some ⟨p, 0, none⟩)) rfl rfl (by kernel_rfl) (by kernel_rfl) (by kernel_rfl) (fun _ _ _ h => h) (Or.inl ⟨by rfl, ?_⟩) hS ?_
                              · rintro w' hS'
                                go_simp
                              simp only [List.setIfInBounds_toArray, List.set_cons_zero, List.set_cons_succ]
                              refine nany_take 3 125 (.pointer (some ⟨q, 0, none⟩)) rfl rfl (by kernel_rfl) (by kernel_rfl) (by kernel_rfl) (fun _ _ _ h => h) (Or.inl ⟨by rfl, ?_⟩) hS ?_
                              · rintro w' hS'
                                go_simp
                              simp only [List.setIfInBounds_toArray, List.set_cons_zero, List.set_cons_succ]
                              refine nany_take 4 126 (.pointer (some ⟨q, 0, none⟩)) rfl rfl (by kernel_rfl) (by kernel_rfl) (by kernel_rfl) (fun _ _ _ h => h) (Or.inl ⟨by rfl, ?_⟩) hS ?_
                              · rintro w' hS'
                                go_simp
                              simp only [List.setIfInBounds_toArray, List.set_cons_zero, List.set_cons_succ]
                              refine nany_take 5 127 (.pointer (some ⟨q, 0, none⟩)) rfl rfl (by kernel_rfl) (by kernel_rfl) (by kernel_rfl) (fun _ _ _ h => h) (Or.inl ⟨by rfl, ?_⟩) hS ?_
                              · rintro w' hS'
                                go_simp
                              simp only [List.setIfInBounds_toArray, List.set_cons_zero, List.set_cons_succ]
                              refine nany_take 6 128 (.slice a5 m c5) rfl rfl (by kernel_rfl) (by kernel_rfl) (by kernel_rfl) (fun _ _ _ h => h) (Or.inl ⟨by rfl, ?_⟩) hS ?_
                              · rintro w' hS'
                                have hc9 := cell_later hS' hcell
                                go_simp
                              simp only [List.setIfInBounds_toArray, List.set_cons_zero, List.set_cons_succ]
                              refine nany_take 7 129 (.string (strOfNums MM)) rfl rfl (by kernel_rfl) (by kernel_rfl) (by kernel_rfl) (fun _ _ _ h => h) (Or.inl ⟨by rfl, ?_⟩) hS ?_
                              · rintro w' hS'
                                have hc9 := conv0 (hby.later hS') (cap := c5) hm2
                                go_simp
                              simp only [List.setIfInBounds_toArray, List.set_cons_zero, List.set_cons_succ]
                              refine nany_one 1 (by kernel_rfl) ?_
                              refine nop_callE 123 (f := 17) (args := #[.pointer (some ⟨p, 0, none⟩)]) (R := fun v w' => ∃ a2 c2, v = .slice a2 m c2 ∧ By w' (New v0) a2 MM ∧ m ≤ c2 ∧ Below v0.heap.size v0 w') rfl (by rfl) rfl (by go_simp) (hD.mono (fun e w' h => by obtain ⟨a2, c2, g1, g2⟩ := h; exact ⟨_, g1, a2, c2, rfl, g2⟩)) ?_
                              rintro v v6 ⟨a2, c2, rfl, hy6, hc6, hb6⟩
                              refine ⟨hb6, ?_⟩
                              simp only [List.setIfInBounds_toArray, List.set_cons_zero, List.set_cons_succ]
                              have hcv := conv0 hy6.bytes (cap := c2) hm2
                              have HB6 := hid (HB5.out.trans (hb6.mono HB5.out.size))
                              refine nany_one 2 (by kernel_rfl) ?_
                              refine nop_value' 124 (v := .string (strOfNums MM)) (w' := v6) rfl (by rfl) rfl (by go_simp) ?_
                              refine ⟨hb6, ?_⟩
                              simp only [List.setIfInBounds_toArray, List.set_cons_zero, List.set_cons_succ]
                              refine nany_one 8 (by kernel_rfl) ?_
                              refine nop_value' 130 (v := .bool true) (w' := v6) rfl (by rfl) rfl (by go_simp) ?_
                              refine ⟨hb6, ?_⟩
                              simp only [List.setIfInBounds_toArray, List.set_cons_zero, List.set_cons_succ]
                              refine nany_one 9 (by kernel_rfl) ?_
                              refine nop_value' 8 (v := .bool true) (w' := v6) rfl (by rfl) rfl (by go_simp) ?_
                              refine ⟨hb6, ?_⟩
                              simp only [List.setIfInBounds_toArray, List.set_cons_zero, List.set_cons_succ]
                              refine wpAnyH_done (by kernel_rfl) ?_ _
                              clear hcv hy6 hc6 hb6 hcell hby hD hS
                              go_wp2
                              go_ret
                              exact ⟨rfl, HB6.out⟩
        · have fnd : (30 : Int) < nd := by omega
          go_enter Try.func5, Try.ntmps5
          go_wp2_with (go_at_call 8; refine HK.out.mono ?_; rintro e w1 ⟨rfl, hb1⟩; have HB1 := hid hb1; clear hb1)
          go_ret
          exact ⟨rfl, HB1.out⟩
      · have fnc : (100 : Int) < nc := by omega
        go_enter Try.func5, Try.ntmps5
        go_wp2_with (go_at_call 8; refine HK.out.mono ?_; rintro e w1 ⟨rfl, hb1⟩; have HB1 := hid hb1; clear hb1)
        go_ret
        exact ⟨rfl, HB1.out⟩
    · have fnb : (100 : Int) < nb := by omega
      go_enter Try.func5, Try.ntmps5
      go_wp2_with (go_at_call 8; refine HK.out.mono ?_; rintro e w1 ⟨rfl, hb1⟩; have HB1 := hid hb1; clear hb1)
      go_ret
      exact ⟨rfl, HB1.out⟩
  · have fna : (100 : Int) < na := by omega
    go_enter Try.func5, Try.ntmps5
    go_wp2_with (go_at_call 8; refine HK.out.mono ?_; rintro e w1 ⟨rfl, hb1⟩; have HB1 := hid hb1; clear hb1)
    go_ret
    exact ⟨rfl, HB1.out⟩
end Go.Proofs.Yteeakkpbpffohaa
