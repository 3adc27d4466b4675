/- Decode of a block: the program's and the document's. -/
import Derived.Test.YtbimociijdaahaaDoorVgA
namespace Go.Proofs.YtbimociijdaahaaDoor
open Go.RowKit Go.Maps
set_option linter.unusedVariables false

theorem le4_rdN (l : List Int) (k : Nat) : rdN l k 4 = le4 l k := rfl
theorem le4_bd (l : List Int) (k : Nat) (h : ∀ x ∈ l, IsB x) : 0 ≤ le4 l k ∧ le4 l k < 4294967296 := rdN_bd l k 4 h (by decide)
theorem dec_15 {l : List Int} (hl : l.length = 512) (h : l.take 8 ≠ supW ∨ planE (le4 l 8) (le4 l 12) ≠ 0) : decE l = 15 ∧ decA l = sup0 := by
  have e : decE l = 15 := by unfold decE; rw [if_neg (by simp [hl]), if_pos h]
  exact ⟨e, by unfold decA; rw [e]; rfl⟩
theorem dec_13 {l : List Int} (hl : l.length = 512) (h : l.take 8 = supW) (h' : planE (le4 l 8) (le4 l 12) = 0) (h2 : le4 l 508 ≠ crcL (l.take 508)) : decE l = 13 ∧ decA l = sup0 := by
  have e : decE l = 13 := by unfold decE; rw [if_neg (by simp [hl]), if_neg (by simp [h, h']), if_pos h2]
  exact ⟨e, by unfold decA; rw [e]; rfl⟩
theorem dec_0 {l : List Int} (hl : l.length = 512) (h : l.take 8 = supW) (h' : planE (le4 l 8) (le4 l 12) = 0) (h2 : le4 l 508 = crcL (l.take 508)) : decE l = 0 ∧ decA l = supC (le4 l 8) (le4 l 12) := by
  have e : decE l = 0 := by unfold decE; rw [if_neg (by simp [hl]), if_neg (by simp [h, h']), if_neg (by simp [h2])]
  exact ⟨e, by unfold decA; rw [if_pos e]⟩
set_option maxRecDepth 100000 in
set_option maxHeartbeats 2000000 in
theorem rDecode_512 (w : World) (S : Nat → Prop) (a : Addr) (c : Nat) (l : List Int) (hl : l.length = 512) (hc : 512 ≤ c) (h : By w S (some a) l) :
    Calls Tryd.prog 9 #[.slice (some a) 512 c] w fun e w' => e = .returned (.tuple #[.agg (decA l), n64 (decE l)]) ∧ Below w.heap.size w w' := by
  obtain ⟨W, hW⟩ : ∃ W, W = w.alloc (.cells sup0 26) := ⟨_, rfl⟩
  have hb1 : Below w.heap.size w W := by rw [hW]; exact (Below.refl _ _).alloc (Nat.le_refl _) _
  have hh : W.heap[w.heap.size]? = some (.cells sup0 26 (0, 0)) := by rw [hW]; exact alloc_new w _
  have hI := h.isB
  have HY := hid (h.later hb1)
  have HC1 := refLe_any (some a) c l 8 4 W (by rw [hl]; decide) HY.out.bytes
  have HC2 := refLe_any (some a) c l 12 4 W (by rw [hl]; decide) HY.out.bytes
  have HC3 := refLe_any (some a) c l 508 4 W (by rw [hl]; decide) HY.out.bytes
  have e1 : rdLe l 8 4 = le4 l 8 ∧ rdErr l.length 8 4 = 0 := by unfold rdLe rdErr insB; rw [hl]; exact ⟨rfl, rfl⟩
  have e2 : rdLe l 12 4 = le4 l 12 ∧ rdErr l.length 12 4 = 0 := by unfold rdLe rdErr insB; rw [hl]; exact ⟨rfl, rfl⟩
  have e3 : rdLe l 508 4 = le4 l 508 ∧ rdErr l.length 508 4 = 0 := by unfold rdLe rdErr insB; rw [hl]; exact ⟨rfl, rfl⟩
  rw [e1.1, e1.2, hl] at HC1
  rw [e2.1, e2.2, hl] at HC2
  rw [e3.1, e3.2, hl] at HC3
  have d1 := le4_bd l 8 hI
  have d2 := le4_bd l 12 hI
  have d3 := le4_bd l 508 hI
  have HP := Plan_any (le4 l 8) (le4 l 12)
  have HPR := rPlan_any (le4 l 8) (le4 l 12) W
  have hcr : (l.take 508).length = 508 := by rw [List.length_take, hl]; rfl
  have HK := fun W' (hb : Below W.heap.size W W') => refCrc_any (some a) c (l.take 508) W' (by rw [hcr]; decide) ((HY.out.later hb).take 508).bytes
  rw [hcr] at HK
  have hqb := crcL_bd (l.take 508) (fun x hx => hI x (List.mem_of_mem_take hx))
  have HKq : Hid (4294967295 - crcOn 4294967295 (l.take 508) = crcL (l.take 508)) := hid rfl
  rw [HKq.out] at HK
  have hcut8 := fun W' => cutH_run (some a) 512 c 8 (by omega) W'
  have hcut := fun W' => cutH_run (some a) 512 c 508 (by omega) W'
  have hW8 := strW (X := l.take 8) (fun x hx => hI x (List.mem_of_mem_take hx)) supW_isB supW_str
  have h8l : (l.take 8).length = 8 := by rw [List.length_take, hl]; rfl
  have hcv := fun W' (hb : Below W.heap.size W W') => conv0 (cap := c) ((HY.out.later hb).take 8).bytes h8l
  have HD15 := fun h => dec_15 hl h
  have HD13 := fun h h' h2 => dec_13 hl h h' h2
  have HD0 := fun h h' h2 => dec_0 hl h h' h2
  generalize decE l = E at *
  generalize decA l = A at *
  generalize le4 l 8 = B at *
  generalize le4 l 12 = J at *
  generalize le4 l 508 = Q at *
  generalize crcL (l.take 508) = q at *
  generalize hX8 : l.take 8 = X8 at *
  have HB1 := hid hb1
  have HH := hid hh
  have HCV := hid hcv
  have HKK := hid HK
  replace HC1 := hid HC1
  replace HC2 := hid HC2
  replace HC3 := hid HC3
  have hu1 : IntKind.i64.wrap B = B := IntWalk.i64_in _ (by omega)
  have hu2 : IntKind.i64.wrap J = J := IntWalk.i64_in _ (by omega)
  have hu3 : IntKind.u32.wrap Q = Q := IntWalk.u32_in _ (by omega)
  have HQB := hid hqb
  clear hb1 hh hcv HK hI e1 e2 e3 HP d1 d2 d3 hqb HY h hcr HKq hX8 h8l
  unfold sup0 at hW
  have key : ∀ (SA : Array Value) (s0 s1 s2 s3 s4 s5 s6 s7 : Value), SA = #[s0, s1, s2, s3, s4, s5, s6, s7] → (∀ W4, Below W.heap.size W W4 → True) → True := fun _ _ _ _ _ _ _ _ _ _ _ => trivial
  clear key
  by_cases hPz : planE B J = 0
  · rw [supA_ok hPz, hPz] at HPR
    unfold supC at HPR
    have HPRR := hid HPR
    have HPZ := hid hPz
    clear HPR hPz
    go_enter Tryd.func9, Tryd.ntmps9
    go_wp2_with (rw [← hW]; clear hW)
    refine HC1.out.mono ?_
    rintro e w1 ⟨rfl, rfl⟩
    go_wp2_with fail
    refine HC2.out.mono ?_
    rintro e w2 ⟨rfl, rfl⟩
    go_wp2_with fail
    refine HC3.out.mono ?_
    rintro e w3 ⟨rfl, rfl⟩
    go_wp2_with fail
    refine HPRR.out.mono ?_
    rintro e w4 ⟨rfl, hb4⟩
    obtain ⟨W5, hW5⟩ : ∃ X, X = w4.alloc (.cells #[n64 B, n64 J, n64 1, n64 2, n64 68, n64 69, n64 (planT B), n64 (planD B J)] 26) := ⟨_, rfl⟩
    have hb5 : Below w3.heap.size w3 W5 := by rw [hW5]; exact hb4.alloc hb4.size _
    have hh5 : W5.heap[w.heap.size]? = some (.cells sup0 26 (0, 0)) := (hb5.block _ (Array.getElem?_eq_some_iff.1 HH.out).1).trans HH.out
    have hs5 : W5.heap[w4.heap.size]? = some (.cells #[n64 B, n64 J, n64 1, n64 2, n64 68, n64 69, n64 (planT B), n64 (planD B J)] 26 (0, 0)) := by rw [hW5]; exact alloc_new w4 _
    obtain ⟨s0, s1, s2, s3, s4, s5, s6, s7⟩ := cells8 hs5
    have HB5 : Hid (Below w.heap.size w W5) := hid (HB1.out.trans (hb5.mono HB1.out.size))
    have HH5 := hid hh5
    have hf5 := fun k => froz_of hh5 k
    unfold sup0 at hh5
    obtain ⟨z0, z1, z2, z3, z4, z5, z6, z7⟩ := cells8 hh5
    have cv := HCV.out W5 hb5
    have KK := hid (HKK.out W5 hb5)
    clear hb4 hb5 hh5 hs5 HPRR HC1 HC2 HC3 HCV HKK
    by_cases hS8 : X8 = supW
    · have hst : (strOfNums X8).toList = [85, 78, 68, 67, 82, 79, 70, 49] := hW8.2 hS8
      by_cases hQ : Q = q
      · obtain ⟨rfl, rfl⟩ := HD0 hS8 HPZ.out hQ
        subst hQ
        have hQ' : (Q != Q) = false := by simp
        clear HD0 HD13 HD15 hW8 hS8
        go_wp2_with (first | (rw [← hW5]; clear hW5) | (go_at_call 21; refine KK.out.mono ?_; rintro e w6 ⟨rfl, rfl⟩))
        exact bodyPost_ret (results_ct rfl _ _ _ _ _ _ rfl (set8_heap HH5.out _ _ _ _ _ _ _ _) Tryd.underlying26 sizeRSup) rfl ⟨rfl, set8_below HB5.out (Nat.le_refl _) _ _ _ _ _ _ _ _⟩
      · obtain ⟨rfl, rfl⟩ := HD13 hS8 HPZ.out hQ
        have hQ' : (Q != q) = true := by simpa using hQ
        clear HD0 HD13 HD15 hW8 hS8
        go_wp2_with (first | (rw [← hW5]; clear hW5) | (go_at_call 21; refine KK.out.mono ?_; rintro e w6 ⟨rfl, rfl⟩))
        exact bodyPost_ret (results_ct rfl _ _ _ _ _ _ rfl (set8_heap HH5.out _ _ _ _ _ _ _ _) Tryd.underlying26 sizeRSup) rfl ⟨rfl, set8_below HB5.out (Nat.le_refl _) _ _ _ _ _ _ _ _⟩
    · have hst : ¬ (strOfNums X8).toList = [85, 78, 68, 67, 82, 79, 70, 49] := fun e => hS8 (hW8.1 e)
      obtain ⟨rfl, rfl⟩ := HD15 (.inl hS8)
      clear HD0 HD13 HD15 hW8 hS8
      go_wp2_with (first | (rw [← hW5]; clear hW5))
      exact bodyPost_ret (results_ct rfl _ _ _ _ _ _ rfl (set8_heap HH5.out _ _ _ _ _ _ _ _) Tryd.underlying26 sizeRSup) rfl ⟨rfl, set8_below HB5.out (Nat.le_refl _) _ _ _ _ _ _ _ _⟩
  · rw [supA_no hPz] at HPR
    unfold sup0 at HPR
    obtain ⟨rfl, rfl⟩ := HD15 (.inr hPz)
    generalize planE B J = Ez at *
    have hEz : (Ez != 0) = true := by simpa using hPz
    have HPRR := hid HPR
    clear HPR hPz HD0 HD13 HD15
    go_enter Tryd.func9, Tryd.ntmps9
    go_wp2_with (rw [← hW]; clear hW)
    refine HC1.out.mono ?_
    rintro e w1 ⟨rfl, rfl⟩
    go_wp2_with fail
    refine HC2.out.mono ?_
    rintro e w2 ⟨rfl, rfl⟩
    go_wp2_with fail
    refine HC3.out.mono ?_
    rintro e w3 ⟨rfl, rfl⟩
    go_wp2_with fail
    refine HPRR.out.mono ?_
    rintro e w4 ⟨rfl, hb4⟩
    have hh4 : w4.heap[w.heap.size]? = some (.cells sup0 26 (0, 0)) := (hb4.block _ (Array.getElem?_eq_some_iff.1 HH.out).1).trans HH.out
    unfold sup0 at hh4
    obtain ⟨hha, hfa, y0, y1, y2, y3, y4, y5, y6, y7⟩ := cells8a hh4
    have HHA := hid hha
    have cv := fun o => HCV.out (w4.alloc o) (hb4.alloc hb4.size o)
    have HBA : Hid (∀ o, Below w.heap.size w (w4.alloc o)) := hid (fun o => HB1.out.trans ((hb4.alloc hb4.size o).mono HB1.out.size))
    clear hb4 hh4 hha HPRR HC1 HC2 HC3 HCV HKK
    by_cases hS8 : X8 = supW
    · have hst : (strOfNums X8).toList = [85, 78, 68, 67, 82, 79, 70, 49] := hW8.2 hS8
      clear hW8 hS8
      go_wp2
      exact bodyPost_ret (results_ct rfl _ _ _ _ _ _ rfl (set8_heap (HHA.out _) _ _ _ _ _ _ _ _) Tryd.underlying26 sizeRSup) rfl ⟨rfl, set8_below (HBA.out _) (Nat.le_refl _) _ _ _ _ _ _ _ _⟩
    · have hst : ¬ (strOfNums X8).toList = [85, 78, 68, 67, 82, 79, 70, 49] := fun e => hS8 (hW8.1 e)
      clear hW8 hS8
      go_wp2
      exact bodyPost_ret (results_ct rfl _ _ _ _ _ _ rfl (set8_heap (HHA.out _) _ _ _ _ _ _ _ _) Tryd.underlying26 sizeRSup) rfl ⟨rfl, set8_below (HBA.out _) (Nat.le_refl _) _ _ _ _ _ _ _ _⟩
end Go.Proofs.YtbimociijdaahaaDoor
