/- What is recorded, by the program and by the document; the law WalRecords. -/
import Derived.Test.YtoifeioijoancaaDoorWfB
namespace Go.Proofs.YtoifeioijoancaaDoor
open Go.RowKit Go.Maps
set_option linter.unusedVariables false

def oM (seq : Int) (l : List Pt) : List Pt := if badG l = 0 then recL seq l else []
def oB (l : List Pt) : Int := if badG l = 0 then (l.length : Int) + 1 else 0
def oD (seq : Int) (l : List Pt) : List Int := if badG l = 0 then endL seq (sumL seq l) else []
/-- What a Record tells. -/
def Told (w w' : World) (e : Ending) (seq : Int) (l : List Pt) : Prop :=
  (∃ v M a c, e = .returned (.tuple #[v, .agg #[.int .i64 (oB l), .slice a (oD seq l).length c], .int .i64 (badG l)]) ∧ PO w' (New w) v M ∧ M.map Pw.pt = oM seq l ∧ By w' (New w) a (oD seq l) ∧ (oD seq l).length ≤ c) ∧ Below w.heap.size w w'
theorem Record_told (w : World) (S : Nat → Prop) (a : Option Addr) (c : Nat) (L : List Pw) (seq : Int) (h0 : 0 ≤ seq) (h1 : seq < 18446744073709551616) (h : Ps w S a L) (hI : ∀ p ∈ L, p.blk < 9223372036854775808) (hl : L.length ≤ 1000000) (hT : Tab w) :
    Calls Tryd.prog 11 #[.int .u64 seq, .slice a L.length c] w fun e w' => Told w w' e seq (L.map Pw.pt) := by
  by_cases hb : badG (L.map Pw.pt) = 0
  · refine (Record_ok w S a c L seq h0 h1 h (Good.of hb) hT).mono ?_
    rintro e w' ⟨v, M, a2, rfl, h2, h3, h4, h5⟩
    refine ⟨⟨v, M, a2, 512, ?_, h2, ?_, ?_, by unfold oD; rw [if_pos hb, endL_len]; exact Nat.le_refl _⟩, h5⟩
    · unfold oB oD; rw [if_pos hb, if_pos hb, endL_len, hb, List.length_map]
    · unfold oM; rw [if_pos hb]; exact h3
    · unfold oD; rw [if_pos hb]; exact h4
  · refine (Record_no w S a c L seq h hI hl hb).mono ?_
    rintro e w' ⟨rfl, h5⟩
    refine ⟨⟨.slice none 0 0, [], none, 0, ?_, PO.nil _ _, ?_, ?_, by unfold oD; rw [if_neg hb]; exact Nat.le_refl _⟩, h5⟩
    · unfold oB oD; rw [if_neg hb, if_neg hb]; rfl
    · unfold oM; rw [if_neg hb]; rfl
    · unfold oD; rw [if_neg hb]; exact ⟨fun x hx => by simp at hx, fun hp => by simp at hp⟩
theorem refRecord_told (w : World) (S : Nat → Prop) (a : Option Addr) (c : Nat) (L : List Pw) (seq : Int) (h0 : 0 ≤ seq) (h1 : seq < 18446744073709551616) (h : Ps w S a L) (hl : L.length ≤ 1000000) :
    Calls Tryd.prog 12 #[.int .u64 seq, .slice a L.length c] w fun e w' => Told w w' e seq (L.map Pw.pt) := by
  refine (refRecord_any w S a c L seq h0 h1 h hl).mono ?_
  rintro e w' ⟨⟨hb, rfl⟩ | ⟨hg, v, M, a2, c2, rfl, h2, h3, h4, h6⟩, h5⟩
  · refine ⟨⟨.slice none 0 0, [], none, 0, ?_, PO.nil _ _, ?_, ?_, by unfold oD; rw [if_neg hb]; exact Nat.le_refl _⟩, h5⟩
    · unfold oB oD; rw [if_neg hb, if_neg hb]; rfl
    · unfold oM; rw [if_neg hb]; rfl
    · unfold oD; rw [if_neg hb]; exact ⟨fun x hx => by simp at hx, fun hp => by simp at hp⟩
  · have hb := hg.bad
    refine ⟨⟨v, M, a2, c2, ?_, h2, ?_, ?_, by unfold oD; rw [if_pos hb, endL_len]; exact h6⟩, h5⟩
    · unfold oB oD; rw [if_pos hb, if_pos hb, endL_len, hb, List.length_map]
    · unfold oM; rw [if_pos hb]; exact h3
    · unfold oD; rw [if_pos hb]; exact h4
theorem putsL_len (l : List Bk) : (putsL l).length = l.length := by simp [putsL]
theorem puts_in {w : World} {a : Option Addr} {l : List Bk} {M : List Pw} (h : Bks w a l) (hM : M.map Pw.pt = putsL l) : ∀ p ∈ M, p.blk < 9223372036854775808 := fun p hp => by
  have h1 : p.pt ∈ putsL l := by rw [← hM]; exact List.mem_map_of_mem hp
  obtain ⟨b, hb, e⟩ := List.mem_map.1 h1
  obtain ⟨i, hi, rfl⟩ := List.getElem_of_mem hb
  have := (h i hi).1.1
  simp only [List.getD, List.getElem?_eq_getElem hi, Option.getD_some] at this
  have e2 : (l[i]).at_ = p.blk := congrArg Pt.blk e
  omega
theorem oM_len (seq : Int) (l : List Pt) : (oM seq l).length ≤ l.length + 1 := by
  unfold oM
  split
  · simp [recL, rowsFrom_len]
  · simp
set_option maxRecDepth 100000 in
set_option maxHeartbeats 1000000 in
theorem WalRecords_walk (w : World) (seq : Int) (a : Option Addr) (c : Nat) (l : List Bk) (h0 : 0 ≤ seq) (h1 : seq < 18446744073709551616) (h : Bks w a l) (hl : l.length ≤ maxLen) (hT : Tab w) :
    Calls Tryd.prog 3 #[.int .u64 seq, .slice a l.length c] w fun e w' => e = .returned (.bool true) ∧ Below w.heap.size w w' := by
  have HK := hid (known_any w hT)
  obtain ⟨n, hn⟩ : ∃ n, n = l.length := ⟨_, rfl⟩
  have HN := hid hn
  have HT := hid hT
  have HBKS := hid h
  rw [← hn] at hl ⊢
  clear h hn hT
  by_cases hm : 100 < n
  · have hmi : (100 : Int) < n := by omega
    go_enter Tryd.func3, Tryd.ntmps3
    go_wp2_with fail
    refine HK.out.mono ?_
    rintro e w1 ⟨rfl, hb1⟩
    have HB1 := hid hb1
    clear hb1 HK
    go_wp2
    go_ret
    exact ⟨rfl, HB1.out⟩
  have hmi : ¬ (100 : Int) < n := by omega
  have hn100 : n ≤ 100 := by omega
  clear hl hm
  go_enter Tryd.func3, Tryd.ntmps3
  go_wp2_with fail
  refine HK.out.mono ?_
  rintro e w1 ⟨rfl, hb1⟩
  have HB1 := hid hb1
  have HP1 := hid (puts_any w1 a c l (HBKS.out.later hb1) (by rw [← HN.out]; omega))
  rw [← HN.out] at HP1
  clear hb1 HK
  go_wp2_with fail
  refine HP1.out.mono ?_
  rintro e w2 ⟨v2, M2, rfl, hpo2, hM2, hb2⟩
  have HB2 : Hid (Below w.heap.size w w2) := hid (HB1.out.trans (hb2.mono HB1.out.size))
  have hM2l : M2.length = n := by have := congrArg List.length hM2; rw [List.length_map, putsL_len, ← HN.out] at this; exact this
  obtain ⟨a2, c2, e2, _, hps2⟩ := hpo2.ps
  rw [hM2l] at e2
  subst e2
  have HPS2 := hid hps2
  have HM2 := hid hM2
  have HM2L := hid hM2l
  have hrec := Record_told w2 _ a2 c2 M2 seq h0 h1 hps2 (puts_in (HBKS.out.later HB1.out) hM2) (by rw [hM2l]; omega) (HT.out.later HB2.out)
  rw [hM2, hM2l] at hrec
  have HREC := hid hrec
  clear hb2 hpo2 hps2 hM2 hM2l hrec HP1
  go_wp2_with fail
  refine HREC.out.mono ?_
  rintro e w3 ⟨⟨v3, M3, a3, c3, rfl, hpo3, hM3, hy3, _⟩, hb3⟩
  obtain ⟨pl, hpl⟩ : ∃ pl, pl = putsL l := ⟨_, rfl⟩
  rw [← hpl] at hM3 hy3 HM2 ⊢
  have HPLl : Hid (pl.length = n) := hid (by rw [hpl, putsL_len, ← HN.out])
  have HPL := hid hpl
  obtain ⟨E, hE⟩ : ∃ E, E = badG pl := ⟨_, rfl⟩
  obtain ⟨B, hB⟩ : ∃ B, B = oB pl := ⟨_, rfl⟩
  obtain ⟨D, hD⟩ : ∃ D, D = oD seq pl := ⟨_, rfl⟩
  obtain ⟨d, hd⟩ : ∃ d, d = D.length := ⟨_, rfl⟩
  rw [← hD] at hy3
  rw [← hE, ← hB, ← hD, ← hd]
  have HE := hid hE
  have HBv := hid hB
  have HD := hid hD
  have Hd := hid hd
  have hM3l : M3.length ≤ 101 := by have := congrArg List.length hM3; rw [List.length_map] at this; have h2 := oM_len seq pl; have := HPLl.out; omega
  obtain ⟨a6, c6, e6, _, hps3⟩ := hpo3.ps
  obtain ⟨m3, hm3⟩ : ∃ m3, m3 = M3.length := ⟨_, rfl⟩
  rw [← hm3] at e6 hM3l
  subst e6
  have HM3n := hid hm3
  have HM3 := hid hM3
  have HPS3 := hid hps3
  have HY3 := hid hy3
  have HB3 : Hid (Below w.heap.size w w3) := hid (HB2.out.trans (hb3.mono HB2.out.size))
  have HB23 := hid hb3
  obtain ⟨W4, hW4⟩ : ∃ W4, W4 = w3.alloc (.cells #[.int .i64 0, .slice none 0 0] 29) := ⟨_, rfl⟩
  have hb4 : Below w3.heap.size w3 W4 := by rw [hW4]; exact (Below.refl _ _).alloc (Nat.le_refl _) _
  have hh4 : W4.heap[w3.heap.size]? = some (.cells #[.int .i64 0, .slice none 0 0] 29 (0, 0)) := by rw [hW4]; exact alloc_new w3 _
  have k0 := cell_of (i := 0) hh4 rfl
  have k1 := cell_of (i := 1) hh4 rfl
  have kf := fun i => froz_of hh4 i
  obtain ⟨W5, hW5⟩ : ∃ W5, W5 = (W4.setCell ⟨w3.heap.size, 0, none⟩ (.int .i64 B)).setCell ⟨w3.heap.size, 1, none⟩ (.slice a3 d c3) := ⟨_, rfl⟩
  have hh5 : W5.heap[w3.heap.size]? = some (.cells #[.int .i64 B, .slice a3 d c3] 29 (0, 0)) := by rw [hW5]; exact set2 hh4 _ _
  have HB35 : Hid (Below w3.heap.size w3 W5) := hid (by rw [hW5]; exact (hb4.setCell (Nat.le_refl _) _).setCell (Nat.le_refl _) _)
  have HH5 := hid hh5
  have HB5 : Hid (Below w.heap.size w W5) := hid (HB3.out.trans (HB35.out.mono HB3.out.size))
  have HP5 := hid (puts_any W5 a c l (HBKS.out.later HB5.out) (by rw [← HN.out]; omega))
  rw [← HN.out, ← HPL.out] at HP5
  clear hpl hE hB hD hd hpo3 hM3 hy3 hb3 hps3 hm3 hb4 hh4 hh5 HREC
  go_wp2_with (first | (rw [← hW4]; clear hW4) | (rw [← hW5]; clear hW5))
  refine HP5.out.mono ?_
  rintro e w6 ⟨v6, M6, rfl, hpo6, hM6, hb6⟩
  have HB56 := hid hb6
  have HB6 : Hid (Below w.heap.size w w6) := hid (HB5.out.trans (hb6.mono HB5.out.size))
  have hM6l : M6.length = n := by have := congrArg List.length hM6; rw [List.length_map, HPLl.out] at this; exact this
  obtain ⟨a7, c7, e7, _, hps6⟩ := hpo6.ps
  rw [hM6l] at e7
  subst e7
  have hrec := refRecord_told w6 _ a7 c7 M6 seq h0 h1 hps6 (by rw [hM6l]; omega)
  rw [hM6, hM6l] at hrec
  have HREC := hid hrec
  clear hb6 hpo6 hps6 hM6 hM6l hrec HP5 k0 k1 kf
  go_wp2_with fail
  refine HREC.out.mono ?_
  rintro e w7 ⟨⟨v7, M7, a8, c8, rfl, hpo7, hM7, hy7, _⟩, hb7⟩
  rw [← HD.out] at hy7
  rw [← HE.out, ← HBv.out, ← HD.out, ← Hd.out]
  have hM7l : m3 = M7.length := by
    have h2 := congrArg List.length hM7
    have h3 := congrArg List.length HM3.out
    rw [List.length_map] at h2 h3
    rw [HM3n.out, h2, h3]
  obtain ⟨a9, c9, e9, _, hps7⟩ := hpo7.ps
  rw [← hM7l] at e9
  subst e9
  obtain ⟨W8, hW8⟩ : ∃ W8, W8 = w7.alloc (.cells #[.int .i64 0, .slice none 0 0] 29) := ⟨_, rfl⟩
  have hb8 : Below w7.heap.size w7 W8 := by rw [hW8]; exact (Below.refl _ _).alloc (Nat.le_refl _) _
  have hh8 : W8.heap[w7.heap.size]? = some (.cells #[.int .i64 0, .slice none 0 0] 29 (0, 0)) := by rw [hW8]; exact alloc_new w7 _
  have k0 := cell_of (i := 0) hh8 rfl
  have k1 := cell_of (i := 1) hh8 rfl
  have kf := fun i => froz_of hh8 i
  obtain ⟨W9, hW9⟩ : ∃ W9, W9 = (W8.setCell ⟨w7.heap.size, 0, none⟩ (.int .i64 B)).setCell ⟨w7.heap.size, 1, none⟩ (.slice a8 d c8) := ⟨_, rfl⟩
  have hh9 : W9.heap[w7.heap.size]? = some (.cells #[.int .i64 B, .slice a8 d c8] 29 (0, 0)) := by rw [hW9]; exact set2 hh8 _ _
  have hb79 : Below w7.heap.size w7 W9 := by rw [hW9]; exact (hb8.setCell (Nat.le_refl _) _).setCell (Nat.le_refl _) _
  have hb59 : Below W5.heap.size W5 W9 := by
    have h1 : Below W5.heap.size W5 w7 := HB56.out.trans (hb7.mono HB56.out.size)
    exact h1.trans (hb79.mono h1.size)
  have hb39 : Below w3.heap.size w3 W9 := HB35.out.trans (hb59.mono HB35.out.size)
  have hb29 : Below w2.heap.size w2 W9 := HB23.out.trans (hb39.mono HB23.out.size)
  have hb09 : Below w.heap.size w W9 := HB5.out.trans (hb59.mono HB5.out.size)
  have HB9 := hid hb09
  have HB29 := hid hb29
  have hsame := samePuts_any W9 _ _ a6 a9 c6 c9 M3 M7 (HPS3.out.later hb39) (hps7.later hb79) (by rw [← HM3n.out]; omega)
  rw [← HM3n.out, ← hM7l, HM3.out, hM7, decide_eq_true rfl] at hsame
  have HSAME := hid hsame
  have hx5 : W9.heap[w3.heap.size]? = some (.cells #[.int .i64 B, .slice a3 d c3] 29 (0, 0)) := (hb59.block _ (Array.getElem?_eq_some_iff.1 HH5.out).1).trans HH5.out
  have HX5 := hid hx5
  have HX9 := hid hh9
  have HY3' := hid (HY3.out.later hb39)
  have HY7' := hid (hy7.later hb79)
  clear hM7 hy7 hb7 hM7l hps7 hpo7 hb8 hh8 hh9 hb79 hb59 hb39 hb29 hb09 hsame hx5 HREC
  go_wp2_with (first | (rw [← hW8]; clear hW8) | (rw [← hW9]; clear hW9))
  clear k0 k1 kf
  refine HSAME.out.mono ?_
  rintro e w10 ⟨rfl, q10, hw10⟩
  have hbx : Below W9.heap.size W9 w10 := by rw [hw10]; exact below_drewN (Below.refl _ _) _
  have hx3 : w10.heap[w3.heap.size]? = some (.cells #[.int .i64 B, .slice a3 d c3] 29 (0, 0)) := (hbx.block _ (Array.getElem?_eq_some_iff.1 HX5.out).1).trans HX5.out
  have hx7 : w10.heap[w7.heap.size]? = some (.cells #[.int .i64 B, .slice a8 d c8] 29 (0, 0)) := (hbx.block _ (Array.getElem?_eq_some_iff.1 HX9.out).1).trans HX9.out
  have c30 : w10.cell? ⟨w3.heap.size, 0, none⟩ = some (.int .i64 B) := cell_of hx3 rfl
  have c31 : w10.cell? ⟨w3.heap.size, 1, none⟩ = some (.slice a3 d c3) := cell_of hx3 rfl
  have c70 : w10.cell? ⟨w7.heap.size, 0, none⟩ = some (.int .i64 B) := cell_of hx7 rfl
  have c71 : w10.cell? ⟨w7.heap.size, 1, none⟩ = some (.slice a8 d c8) := cell_of hx7 rfl
  obtain ⟨str, hstr⟩ : ∃ str, str = strOfNums D := ⟨_, rfl⟩
  have v3 := conv0 (cap := c3) (HY3'.out.later hbx).bytes Hd.out.symm
  have v7 := conv0 (cap := c8) (HY7'.out.later hbx).bytes Hd.out.symm
  rw [← hstr] at v3 v7
  have HB10 : Hid (Below w.heap.size w w10) := hid (HB9.out.trans (hbx.mono HB9.out.size))
  have hb210 : Below w2.heap.size w2 w10 := HB29.out.trans (hbx.mono HB29.out.size)
  have HB210 := hid hb210
  have HP10 := hid (puts_any w10 a c l (HBKS.out.later HB10.out) (by rw [← HN.out]; omega))
  rw [← HN.out, ← HPL.out] at HP10
  clear hw10 hbx hx3 hx7 hstr hb210 HSAME
  go_wp2_with fail
  refine HP10.out.mono ?_
  rintro e w11 ⟨v11, M11, rfl, hpo11, hM11, hb11⟩
  have hM11l : M11.length = n := by have := congrArg List.length hM11; rw [List.length_map, HPLl.out] at this; exact this
  obtain ⟨a11, c11, e11, _, hps11⟩ := hpo11.ps
  rw [hM11l] at e11
  subst e11
  have HB11 : Hid (Below w.heap.size w w11) := hid (HB10.out.trans (hb11.mono HB10.out.size))
  have hsame := samePuts_any w11 _ _ a2 a11 c2 c11 M2 M11 (HPS2.out.later (HB210.out.trans (hb11.mono HB210.out.size))) hps11 (by rw [HM2L.out]; omega)
  rw [HM2L.out, hM11l, HM2.out, hM11, decide_eq_true rfl] at hsame
  have HSAME := hid hsame
  clear hpo11 hM11 hb11 hM11l hps11 hsame HP10
  go_wp2_with fail
  refine HSAME.out.mono ?_
  rintro e w12 ⟨rfl, q12, hw12⟩
  have HB12 : Hid (Below w.heap.size w w12) := hid (by rw [hw12]; exact below_drewN HB11.out _)
  clear hw12
  go_wp2
  go_ret
  exact ⟨rfl, HB12.out⟩
end Go.Proofs.YtoifeioijoancaaDoor
