/- known. -/
import Derived.Test.YtoifeioijoancaaDoorWcE
namespace Go.Proofs.YtoifeioijoancaaDoor
open Go.RowKit Go.Maps
set_option linter.unusedVariables false

theorem good1 (d : List Int) (hd : d.length = 512) : Good [⟨9, d⟩] := by
  refine ⟨by simp, by simp, fun p hp => ?_, by simp⟩
  have e : p = ⟨9, d⟩ := List.mem_singleton.1 hp
  rw [e]
  exact ⟨by show (0 : Int) ≤ 9; omega, by show (9 : Int) < 4294967296; omega, hd⟩
theorem z512_word : z512.take 8 ≠ endW := by
  intro h
  have := congrArg (fun l : List Int => l.getD 0 0) h
  simp only [endW] at this
  have e : (z512.take 8).getD 0 0 = 0 := by
    unfold z512
    rw [List.take_replicate]
    rfl
  rw [e] at this
  simp at this
set_option maxRecDepth 100000 in
set_option maxHeartbeats 2000000 in
theorem known_any (w : World) (hT : Tab w) :
    Calls Tryd.prog 9 #[] w fun e w' => e = .returned (.bool true) ∧ Below w.heap.size w w' := by
  have HT := hid hT
  obtain ⟨d, hd⟩ : ∃ d, d = putL 512 1 := ⟨_, rfl⟩
  have hdl : d.length = 512 := by rw [hd, putL_len]
  have HC1 : Hid (Calls Tryd.prog 38 #[.agg #[.int .i64 9, .int .i64 0, .int .u8 1]] w fun e w' => ∃ g, e = .returned (.agg #[.int .i64 9, .slice (some ⟨g, 0, none⟩) 512 512]) ∧ By w' (New w) (some ⟨g, 0, none⟩) d ∧ Below w.heap.size w w') := hid (by rw [hd]; exact put_any w 9 0 1 (by omega) (by omega))
  have HDL := hid hdl
  obtain ⟨l1, hl1⟩ : ∃ l1 : List Pt, l1 = [⟨9, d⟩] := ⟨_, rfl⟩
  have HG1 : Hid (Good l1) := hid (by rw [hl1]; exact good1 d hdl)
  have HL1 := hid hl1
  have hl1n : l1.length = 1 := by rw [hl1]; rfl
  obtain ⟨E, hE⟩ : ∃ E, E = endL 5 (sumL 5 l1) := ⟨_, rfl⟩
  have hEl : E.length = 512 := by rw [hE, endL_len]
  have HE := hid hE
  have HEL := hid hEl
  obtain ⟨R, hR⟩ : ∃ R, R = recL 5 l1 := ⟨_, rfl⟩
  have hRl : R.length = 2 := by rw [hR, recL, List.length_cons, rowsFrom_len, hl1n]
  have HR := hid hR
  have HRL := hid hRl
  clear hT hd hdl hl1 hl1n hE hEl hR hRl
  go_enter Tryd.func9, Tryd.ntmps9
  go_wp2_with fail
  refine HC1.out.mono ?_
  rintro e w1 ⟨g1, rfl, hy1, hb1⟩
  obtain ⟨W2, hW2⟩ : ∃ W2, W2 = w1.alloc (.cells #[.int .i64 9, .slice (some ⟨g1, 0, none⟩) 512 512] 29) := ⟨_, rfl⟩
  have hb2 : Below w1.heap.size w1 W2 := by rw [hW2]; exact (Below.refl _ _).alloc (Nat.le_refl _) _
  have hh2 : W2.heap[w1.heap.size]? = some (.cells #[.int .i64 9, .slice (some ⟨g1, 0, none⟩) 512 512] 29 (0, 0)) := by rw [hW2]; exact alloc_new w1 _
  have hbw2 : Below w.heap.size w W2 := hb1.trans (hb2.mono hb1.size)
  have HB2 := hid hbw2
  have hps2 : Ps W2 (New w) (some ⟨w1.heap.size, 0, none⟩) [⟨9, some ⟨g1, 0, none⟩, 512, d⟩] := by
    refine ⟨fun p hp => ?_, fun _ => ⟨w1.heap.size, 0, _, rfl, hb1.size, hh2, fun i hi => ?_⟩⟩
    · simp at hp; subst hp; exact ⟨hy1.later hb2, by rw [HDL.out]; exact Nat.le_refl _⟩
    · simp only [cellsP, List.flatMap_cons, List.flatMap_nil, List.append_nil, HDL.out]
      rw [Nat.zero_add, List.getElem?_toArray]
  have HPS2 := hid hps2
  have HC2 : Hid (Calls Tryd.prog 11 #[.int .u64 5, .slice (some ⟨w1.heap.size, 0, none⟩) 1 1] W2 fun e w' => ∃ v M a2, e = .returned (.tuple #[v, .agg #[.int .i64 2, .slice a2 512 512], .int .i64 0]) ∧ PO w' (New W2) v M ∧ M.map Pw.pt = R ∧ By w' (New W2) a2 E ∧ Below W2.heap.size W2 w') := hid (by rw [HR.out, HE.out, HL1.out]; exact Record_ok W2 (New w) (some ⟨w1.heap.size, 0, none⟩) 1 [⟨9, some ⟨g1, 0, none⟩, 512, d⟩] 5 (by omega) (by omega) hps2 (good1 d HDL.out) (HT.out.later hbw2))
  clear hy1 hb1 hb2 hh2 hbw2 hps2 HC1
  go_wp2_with fail
  rw [← hW2]
  clear hW2
  refine HC2.out.mono ?_
  rintro e w3 ⟨v3, M, a2, rfl, hpo3, hM, hy3, hb3⟩
  have hMl : M.length = 2 := by have := congrArg List.length hM; rw [List.length_map, HRL.out] at this; exact this
  obtain ⟨g3, c3, cur3, e3, hg3, hh3, hc3, hm3, hcs3, hps3⟩ := hpo3.heap (by omega)
  rw [hMl] at e3 hc3
  subst e3
  have hbw3 : Below w.heap.size w w3 := HB2.out.trans (hb3.mono HB2.out.size)
  obtain ⟨W4, hW4⟩ : ∃ W4, W4 = w3.alloc (.cells #[.int .i64 2, .slice a2 512 512] 29) := ⟨_, rfl⟩
  have hb4 : Below w3.heap.size w3 W4 := by rw [hW4]; exact (Below.refl _ _).alloc (Nat.le_refl _) _
  have hh4 : W4.heap[w3.heap.size]? = some (.cells #[.int .i64 2, .slice a2 512 512] 29 (0, 0)) := by rw [hW4]; exact alloc_new w3 _
  obtain ⟨W5, hW5⟩ : ∃ W5, W5 = W4.alloc (.cells #[.int .i64 2, .slice a2 512 512] 29) := ⟨_, rfl⟩
  have hb5 : Below W4.heap.size W4 W5 := by rw [hW5]; exact (Below.refl _ _).alloc (Nat.le_refl _) _
  have hh5 : W5.heap[W4.heap.size]? = some (.cells #[.int .i64 2, .slice a2 512 512] 29 (0, 0)) := by rw [hW5]; exact alloc_new W4 _
  have hb35 : Below w3.heap.size w3 W5 := hb4.trans (hb5.mono hb4.size)
  have hps5 := hps3.later hb35
  have hh35 : W5.heap[g3]? = some (.cells cur3 29 (0, 0)) := (hb35.block g3 (Array.getElem?_eq_some_iff.1 hh3).1).trans hh3
  have hcur : ∀ i, i < 2 * 2 → cur3[0 + i]? = (cellsP M)[i]? := fun i hi => by
    obtain ⟨b, off, cu, ea, _, hh, hc⟩ := hps3.2 (by omega)
    simp only [Option.some.injEq, Addr.mk.injEq, and_true] at ea
    obtain ⟨rfl, rfl⟩ := ea
    rw [hh3] at hh
    simp at hh
    subst hh
    exact hc i (by rw [hMl]; exact hi)
  obtain ⟨a6, n6, c6, w6, hap, hn6, hnc6, hps6, hps6', hmo6⟩ := app_put W5 (New W2) g3 0 2 c3 cur3 hh35 hc3 (by omega) hm3 M hMl hg3 hcur hps5.1 ⟨2, a2, 512, E⟩ (hy3.later hb35) (by simp only; rw [HEL.out]; exact Nat.le_refl _) W4.heap.size 0 1 (cell_of hh5 rfl) (by simp only; rw [HEL.out]; exact cell_of hh5 rfl) (by omega) 25
  subst hn6
  have hs4 : W4.heap.size = w3.heap.size + 1 := by rw [hW4]; simp
  rw [hs4] at hap
  have hWW : W5 = (w3.alloc (.cells #[.int .i64 2, .slice a2 512 512] 29)).alloc (.cells #[.int .i64 2, .slice a2 512 512] 29) := by rw [hW5, hW4]
  have hb25 : Below W2.heap.size W2 W5 := hb3.trans (hb35.mono hb3.size)
  have hb26 : Below W2.heap.size W2 w6 := hmo6.to_below hb25 hb25.size (fun x e => by rw [e]; exact hg3)
  have hbw6 : Below w.heap.size w w6 := HB2.out.trans (hb26.mono HB2.out.size)
  have HB6 := hid hbw6
  have HPS6' := hid hps6'
  have HB26 := hid hb26
  have hlog := log_any w6 _ a6 c6 _ hps6 (by simp [hMl])
  have hmap : (M ++ [(⟨2, a2, 512, E⟩ : Pw)]).map Pw.pt = R ++ [⟨2, E⟩] := by rw [List.map_append, hM]; rfl
  rw [hmap, show (M ++ [(⟨2, a2, 512, E⟩ : Pw)]).length = 2 + 1 by simp [hMl]] at hlog
  have HLOG := hid hlog
  have HM := hid hM
  have HML := hid hMl
  clear hM hpo3 hy3 hb3 hg3 hh3 hc3 hm3 hcs3 hps3 hbw3 hb4 hh4 hb5 hh5 hb35 hps5 hh35 hcur hnc6 hps6 hps6' hmo6 hb25 hb26 hbw6 hlog hmap hMl HC2 hW4 hW5 hs4
  go_wp2_with (at_builtin; rw [← hWW]; refine wpList_append_run rfl _ _ 25 rfl rfl rfl hap ?_)
  refine HLOG.out.mono ?_
  rintro e w7 ⟨g7, rfl, hy7, hb7⟩
  have hbw7 : Below w.heap.size w w7 := HB6.out.trans (hb7.mono HB6.out.size)
  have HB7 := hid hbw7
  have HB67 := hid hb7
  have hX : R ++ [(⟨2, E⟩ : Pt)] = recL 5 l1 ++ [endOf 5 l1] := by rw [HR.out, HE.out, HL1.out]; rfl
  rw [hX] at hy7
  have hst := stands_whole (seq := 5) HG1.out
  have hn1 : l1.length = 1 := by rw [HL1.out]; rfl
  have hok : RecOk (logL (recL 5 l1 ++ [endOf 5 l1])) := hst.1.ok HG1.out (logL_len _) (by omega) (by omega) hst.2
  have hsq : recSeq (logL (recL 5 l1 ++ [endOf 5 l1])) = 5 := Stands.seq hst.1.head (by omega) (by omega)
  have hout : recOut (logL (recL 5 l1 ++ [endOf 5 l1])) (recN (logL (recL 5 l1 ++ [endOf 5 l1]))) = l1 := by rw [Stands.n hst.1.head HG1.out]; exact hst.1.out HG1.out
  have HC8 := Recover_any w7 (New w6) (some ⟨g7, 0, none⟩) 33792 _ (logL_len _) (Nat.le_refl _) hy7 (HT.out.later hbw7)
  have HC8' : Hid (Calls Tryd.prog 15 #[.slice (some ⟨g7, 0, none⟩) 33792 33792] w7 fun e w' => ∃ v M8, e = .returned (.tuple #[.int .u64 5, v, .int .i64 0]) ∧ PO w' (New w7) v M8 ∧ M8.map Pw.pt = l1 ∧ Below w7.heap.size w7 w') := hid (HC8.mono (fun e w' hor => by
    obtain ⟨h1 | h1, h2⟩ := hor
    · obtain ⟨_, v, M8, h3, h4, h5⟩ := h1
      rw [hsq] at h3
      rw [hout] at h5
      exact ⟨v, M8, h3, h4, h5, h2⟩
    · exact absurd hok h1.1))
  clear hX hst hok hsq hout HC8 hy7 hb7 hbw7 HLOG
  go_wp2_with fail
  refine HC8'.out.mono ?_
  rintro e w8 ⟨v8, M8, rfl, hpo8, hM8, hb8⟩
  have hbw8 : Below w.heap.size w w8 := HB7.out.trans (hb8.mono HB7.out.size)
  have HB8 := hid hbw8
  have HB78 := hid hb8
  have hM8l : M8.length = 1 := by have := congrArg List.length hM8; rw [List.length_map, hn1] at this; exact this
  obtain ⟨a8, c8, e8, _, hps8⟩ := hpo8.ps
  rw [hM8l] at e8
  subst e8
  have HPS8 := hid hps8
  have HM8 := hid hM8
  have HM8L := hid hM8l
  have hb68 : Below w6.heap.size w6 w8 := HB67.out.trans (hb8.mono HB67.out.size)
  have hlog9 := log_any w8 _ (some ⟨g3, 0, none⟩) c3 M (HPS6'.out.later hb68) (by rw [HML.out]; omega)
  rw [HML.out, HM.out] at hlog9
  have HLOG9 := hid hlog9
  clear hb8 hbw8 hpo8 hps8 hM8 hM8l hb68 hlog9 HC8'
  go_wp2_with fail
  refine HLOG9.out.mono ?_
  rintro e w9 ⟨g9, rfl, hy9, hb9⟩
  have hbw9 : Below w.heap.size w w9 := HB8.out.trans (hb9.mono HB8.out.size)
  have HB9 := hid hbw9
  have HB89 := hid hb9
  rw [HR.out] at hy9
  have hst := stands_cut (seq := 5) HG1.out
  have hno : ¬ RecOk (logL (recL 5 l1)) := foot_none (t := z512) (by rw [Stands.n hst.1.head HG1.out]; exact hst.2) z512_word
  have HC10 := Recover_any w9 (New w8) (some ⟨g9, 0, none⟩) 33792 _ (logL_len _) (Nat.le_refl _) hy9 (HT.out.later hbw9)
  have HC10' : Hid (Calls Tryd.prog 15 #[.slice (some ⟨g9, 0, none⟩) 33792 33792] w9 fun e w' => e = .returned (.tuple #[.int .u64 0, .slice none 0 0, .int .i64 2]) ∧ Below w9.heap.size w9 w') := hid (HC10.mono (fun e w' hor => by
    obtain ⟨h1 | h1, h2⟩ := hor
    · exact absurd h1.1 hno
    · exact ⟨h1.2, h2⟩))
  clear hst hno HC10 hy9 hb9 hbw9 HLOG9
  go_wp2_with fail
  refine HC10'.out.mono ?_
  rintro e w10 ⟨rfl, hb10⟩
  have hb8x : Below w8.heap.size w8 w10 := HB89.out.trans (hb10.mono HB89.out.size)
  have hbw10 : Below w.heap.size w w10 := HB9.out.trans (hb10.mono HB9.out.size)
  have HB10 := hid hbw10
  have hb2x : Below W2.heap.size W2 w10 := by
    have h1 : Below W2.heap.size W2 w7 := HB26.out.trans (HB67.out.mono HB26.out.size)
    have h2 : Below w7.heap.size w7 w10 := by
      have h3 : Below w7.heap.size w7 w9 := HB78.out.trans (HB89.out.mono HB78.out.size)
      exact h3.trans (hb10.mono h3.size)
    exact h1.trans (h2.mono h1.size)
  have hsame := samePuts_any w10 _ _ a8 (some ⟨w1.heap.size, 0, none⟩) c8 1 M8 [⟨9, some ⟨g1, 0, none⟩, 512, d⟩] (HPS8.out.later hb8x) (HPS2.out.later hb2x) (by rw [HM8L.out]; omega)
  rw [HM8L.out, HM8.out, decide_eq_true (show l1 = [(⟨9, some ⟨g1, 0, none⟩, 512, d⟩ : Pw)].map Pw.pt from HL1.out)] at hsame
  have HSAME := hid hsame
  clear hb8x hbw10 hb2x hsame hb10 HC10'
  go_wp2_with (go_at_call 13; refine HSAME.out.mono ?_; rintro e w11 ⟨rfl, q11, hw11⟩; have HB11 : Hid (Below w.heap.size w w11) := hid (by rw [hw11]; exact below_drewN HB10.out _); clear hw11)
  go_ret
  exact ⟨rfl, HB11.out⟩
end Go.Proofs.YtoifeioijoancaaDoor
