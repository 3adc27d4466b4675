/- puts, samePuts. -/
import Derived.Test.YtoifeioijoancaaDoorWcA
namespace Go.Proofs.YtoifeioijoancaaDoor
open Go.RowKit Go.Maps
set_option linter.unusedVariables false

/-- A block as the statements have it. -/
structure Bk where
  at_ : Int
  size : Int
  b : Int
instance : Inhabited Bk := ⟨⟨0, 0, 0⟩⟩
def Bks (w : World) (a : Option Addr) (l : List Bk) : Prop :=
  ∀ i, i < l.length → ((l.getD i default).at_ < 9223372036854775808 ∧ -9223372036854775808 ≤ (l.getD i default).at_ ∧ IsB (l.getD i default).b) ∧ ∃ b off, a = some ⟨b, off, none⟩ ∧ w.cell? ⟨b, off + i * 3, none⟩ = some (.int .i64 (l.getD i default).at_) ∧ w.cell? ⟨b, off + i * 3 + 1, none⟩ = some (.int .i64 (l.getD i default).size) ∧ w.cell? ⟨b, off + i * 3 + 2, none⟩ = some (.int .u8 (l.getD i default).b)
theorem Bks.later {w w' : World} {a : Option Addr} {l : List Bk} (h : Bks w a l) (hb : Below w.heap.size w w') : Bks w' a l := fun i hi => by
  obtain ⟨h1, b, off, ha, c0, c1, c2⟩ := h i hi
  exact ⟨h1, b, off, ha, cell_later hb c0, cell_later hb c1, cell_later hb c2⟩
def Bk.pt (b : Bk) : Pt := ⟨b.at_, putL (putN b.size) b.b⟩
def putsL (l : List Bk) : List Pt := l.map Bk.pt
theorem putsL_snoc (l : List Bk) (k : Nat) (h : k < l.length) : putsL (l.take (k + 1)) = putsL (l.take k) ++ [(l.getD k default).pt] := by
  unfold putsL
  rw [List.take_succ_eq_append_getElem h, List.map_append]
  congr 1
  simp [List.getD, h]
set_option maxRecDepth 100000 in
set_option maxHeartbeats 1000000 in
theorem puts_any (w : World) (a : Option Addr) (c : Nat) (l : List Bk) (h : Bks w a l) (hl : l.length ≤ 1000) :
    Calls Tryd.prog 10 #[.slice a l.length c] w fun e w' => ∃ v M, e = .returned v ∧ PO w' (New w) v M ∧ M.map Pw.pt = putsL l ∧ Below w.heap.size w w' := by
  have HBK := hid h
  obtain ⟨n, hn⟩ : ∃ n, n = l.length := ⟨_, rfl⟩
  have HN := hid hn
  rw [← hn] at hl ⊢
  clear h hn
  go_enter Tryd.func10, Tryd.ntmps10
  go_wp2
  go_loopw [3, 4] (fun v z wr => ∃ (k : Nat) (M : List Pw), k ≤ n ∧ z = .int .i64 k ∧ PO wr (New w) v M ∧ M.map Pw.pt = putsL (l.take k) ∧ M.length = k ∧ Below w.heap.size w wr) (fun _ z _ => n - (RowKit.intOf z).toNat)
  case atStart => exact ⟨0, [], Nat.zero_le _, rfl, PO.nil _ _, rfl, rfl, Below.refl _ _⟩
  case round =>
    obtain ⟨k, M, hk, rfl, hpo, hM, hMl, hb⟩ := hrel
    have HPO := hid hpo
    have HM := hid hM
    have HML := hid hMl
    have HB := hid hb
    obtain ⟨a9, c9, e9, _, _⟩ := hpo.ps
    rw [hMl] at e9
    subst e9
    clear hpo hM hMl
    by_cases hlt : k < n
    · have hki : (k : Int) < n := by omega
      have hkl : k < l.length := by rw [← HN.out]; exact hlt
      obtain ⟨⟨_, _, hbb⟩, g, off, ha, c0, c1, c2⟩ := HBK.out k hkl
      subst ha
      replace c0 := cell_later hb c0
      replace c1 := cell_later hb c1
      replace c2 := cell_later hb c2
      have HSN := hid (putsL_snoc l k hkl)
      generalize l.getD k default = B at *
      unfold IsB at hbb
      have HC := hid (put_any wr B.at_ B.size B.b hbb.1 hbb.2)
      clear hb hbb
      go_wp2_with fail
      refine HC.out.mono ?_
      rintro e w8 ⟨g8, rfl, hy8, hb8⟩
      obtain ⟨W9, hW9⟩ : ∃ W9, W9 = w8.alloc (.cells #[.int .i64 B.at_, .slice (some ⟨g8, 0, none⟩) (putN B.size) (putN B.size)] 29) := ⟨_, rfl⟩
      have hb9 : Below w8.heap.size w8 W9 := by rw [hW9]; exact (Below.refl _ _).alloc (Nat.le_refl _) _
      have hh9 : W9.heap[w8.heap.size]? = some (.cells #[.int .i64 B.at_, .slice (some ⟨g8, 0, none⟩) (putN B.size) (putN B.size)] 29 (0, 0)) := by rw [hW9]; exact alloc_new w8 _
      have hb09 : Below wr.heap.size wr W9 := hb8.trans (hb9.mono hb8.size)
      have hbw9 : Below w.heap.size w W9 := HB.out.trans (hb09.mono HB.out.size)
      have hy9 : By W9 (New w) (some ⟨g8, 0, none⟩) (putL (putN B.size) B.b) := (hy8.later hb9).weak (fun b hb _ => Nat.le_trans HB.out.size hb)
      obtain ⟨a10, n10, c10, w10, hap, hn10, hpo10, hm10, _⟩ := PO.push (HPO.out.later hb09) ⟨B.at_, some ⟨g8, 0, none⟩, putN B.size, putL (putN B.size) B.b⟩ hy9 (by simp only; rw [putL_len]; exact Nat.le_refl _) w8.heap.size 0 (cell_of hh9 rfl) (by simp only; rw [putL_len]; exact cell_of hh9 rfl) 1 (by rw [HML.out]; omega) 25
      have HN10 := hid hn10
      have HB10 : Hid (Below w.heap.size w w10) := hid (hm10.to_below hbw9 hbw9.size (fun b hb => HPO.out.2.1 b hb))
      have HPO10 : Hid (PO w10 (New w) (.slice a10 n10 c10) (M ++ [⟨B.at_, some ⟨g8, 0, none⟩, putN B.size, putL (putN B.size) B.b⟩])) := hid (hpo10.weak (fun b hb _ => by rcases hb with h1 | h1; exact h1; unfold New; have := hbw9.size; omega))
      clear hy8 hb8 hb9 hh9 hb09 hbw9 hy9 hpo10 hm10 hn10 HC
      go_wp2_with (first | rw [← hW9] | (at_builtin; refine wpList_append_run rfl _ _ 25 rfl rfl rfl hap ?_))
      go_roundw
      case rel => exact ⟨k + 1, _, by omega, by go_num, HPO10.out, by rw [List.map_append, HM.out, HSN.out]; rfl, by simp [HML.out], HB10.out⟩
      case measure => simp [RowKit.intOf]; omega
    · have hki : ¬ ((k : Int) < n) := by omega
      obtain rfl : k = n := by omega
      clear hb
      go_wp2
      go_ret
      refine ⟨_, rfl, M, HPO.out, ?_, HB.out⟩
      have := HM.out
      rwa [List.take_of_length_le (by rw [← HN.out]; exact Nat.le_refl _)] at this

/-! ### samePuts -/
theorem pt_ext {p q : Pt} (h1 : p.blk = q.blk) (h2 : p.dat = q.dat) : p = q := by cases p; cases q; simp_all
instance : DecidableEq Pt := fun p q => if h : p.blk = q.blk ∧ p.dat = q.dat then isTrue (pt_ext h.1 h.2) else isFalse (fun e => h ⟨congrArg Pt.blk e, congrArg Pt.dat e⟩)
theorem map_take_snoc {L : List Pw} {k : Nat} (h : k < L.length) : (L.map Pw.pt).take (k + 1) = (L.map Pw.pt).take k ++ [(L.getD k default).pt] := by
  rw [List.take_succ_eq_append_getElem (by simpa using h)]; simp [List.getD, h]
theorem getD_eq_of {L M : List Pw} (h : L.map Pw.pt = M.map Pw.pt) {k : Nat} (hk : k < L.length) : (L.getD k default).pt = (M.getD k default).pt := by
  have hM : k < M.length := by have := congrArg List.length h; simp at this; omega
  rw [← map_getD L k hk, ← map_getD M k hM, h]
set_option maxRecDepth 100000 in
set_option maxHeartbeats 2000000 in
theorem samePuts_any (w : World) (S T : Nat → Prop) (a b : Option Addr) (ca cb : Nat) (L M : List Pw) (hL : Ps w S a L) (hM : Ps w T b M) (hl : L.length ≤ 1000000) :
    Calls Tryd.prog 13 #[.slice a L.length ca, .slice b M.length cb] w fun e w' => e = .returned (.bool (decide (L.map Pw.pt = M.map Pw.pt))) ∧ ∃ q, w' = w.drewN q := by
  by_cases hne : L.length = M.length
  · rw [← hne]
    have HL := hid hL
    have HM := hid hM
    have HE := hid hne
    obtain ⟨n, hn⟩ : ∃ n, n = L.length := ⟨_, rfl⟩
    have HN := hid hn
    rw [← hn] at hl ⊢
    obtain ⟨R, hR⟩ : ∃ R, R = decide (L.map Pw.pt = M.map Pw.pt) := ⟨_, rfl⟩
    rw [← hR]
    have HR := hid hR
    clear hL hM hne hn hR
    go_enter Tryd.func13, Tryd.ntmps13
    go_wp2
    go_loopw [5] (fun z wr => ∃ k q : Nat, k ≤ n ∧ z = .int .i64 k ∧ (L.map Pw.pt).take k = (M.map Pw.pt).take k ∧ wr = w.drewN q) (fun z _ => n - (RowKit.intOf z).toNat)
    case atStart => exact ⟨0, 0, Nat.zero_le _, rfl, rfl, rfl⟩
    case round =>
      obtain ⟨k, q, hk, rfl, hsame, hwr⟩ := hrel
      have HS := hid hsame
      clear hsame
      by_cases hlt : k < n
      · have hki : (k : Int) < n := by omega
        have hkL : k < L.length := by rw [← HN.out]; exact hlt
        have hkM : k < M.length := by rw [← HE.out, ← HN.out]; exact hlt
        obtain ⟨g1, o1, h1, _, c0, c1⟩ := HL.out.at_ hkL
        obtain ⟨g2, o2, h2, _, d0, d1⟩ := HM.out.at_ hkM
        subst h1 h2
        have c0' : ∀ j, (wr.drewN j).cell? ⟨g1, o1 + k * 2, none⟩ = some (.int .i64 (L.getD k default).blk) := fun j => by rw [hwr]; exact c0
        have d0' : ∀ j, (wr.drewN j).cell? ⟨g2, o2 + k * 2, none⟩ = some (.int .i64 (M.getD k default).blk) := fun j => by rw [hwr]; exact d0
        have c1' : ∀ j, (wr.drewN j).cell? ⟨g1, o1 + k * 2 + 1, none⟩ = some (.slice (L.getD k default).a (L.getD k default).dat.length (L.getD k default).c) := fun j => by rw [hwr]; exact c1
        have d1' : ∀ j, (wr.drewN j).cell? ⟨g2, o2 + k * 2 + 1, none⟩ = some (.slice (M.getD k default).a (M.getD k default).dat.length (M.getD k default).c) := fun j => by rw [hwr]; exact d1
        have v1 : ∀ j, (convert 27 9 (.slice (L.getD k default).a (L.getD k default).dat.length (L.getD k default).c)).run Tryd.prog (wr.drewN j) = .ok (.string (strOfNums (L.getD k default).dat)) (wr.drewN j) := fun j => by rw [hwr]; exact conv0 (w := (w.drewN q).drewN j) (HL.out.dat hkL).1.bytes rfl
        have v2 : ∀ j, (convert 27 9 (.slice (M.getD k default).a (M.getD k default).dat.length (M.getD k default).c)).run Tryd.prog (wr.drewN j) = .ok (.string (strOfNums (M.getD k default).dat)) (wr.drewN j) := fun j => by rw [hwr]; exact conv0 (w := (w.drewN q).drewN j) (HM.out.dat hkM).1.bytes rfl
        have HSE := str_eq (HL.out.dat hkL).1.isB (HM.out.dat hkM).1.isB
        have HT1 := hid (map_take_snoc hkL)
        have HT2 := hid (map_take_snoc hkM)
        have HGE := hid (fun h => getD_eq_of (L := L) (M := M) h hkL)
        have HWR := hid hwr
        clear hwr c0 d0 c1 d1
        generalize L.getD k default = P at *
        generalize M.getD k default = Q at *
        generalize strOfNums P.dat = s1 at *
        generalize strOfNums Q.dat = s2 at *
        by_cases hblk : P.blk = Q.blk
        · have g1' : (P.blk != Q.blk) = false := by simp [hblk]
          have HBLK := hid hblk
          clear hblk
          by_cases hdat : P.dat = Q.dat
          · rw [decide_eq_true hdat] at HSE
            have g2' : (s1.toList != s2.toList) = false := by simp [bne, HSE]
            have g3' : s1.toList = s2.toList := by simpa using HSE
            have HDAT := hid hdat
            clear hdat
            go_wp2
            go_quiet (fail)
            go_wp2
            go_roundw
            case rel =>
              refine ⟨k + 1, _, by omega, by go_num, ?_, by rw [HWR.out, World.drewN_drewN]⟩
              rw [HT1.out, HT2.out, HS.out, show P.pt = Q.pt from pt_ext HBLK.out HDAT.out]
            case measure => simp [RowKit.intOf]; omega
          · rw [decide_eq_false hdat] at HSE
            have g2' : (s1.toList != s2.toList) = true := by simp [bne, HSE]
            have g3' : ¬ s1.toList = s2.toList := by simpa using HSE
            have HDAT := hid hdat
            clear hdat
            go_wp2
            go_quiet (fail)
            go_wp2
            go_ret
            refine ⟨ret_bool ?_, _, by rw [HWR.out, World.drewN_drewN]⟩
            rw [HR.out]
            exact (decide_eq_false (fun e => HDAT.out (congrArg Pt.dat (HGE.out e)))).symm
        · have g1' : (P.blk != Q.blk) = true := by simpa using hblk
          have HBLK := hid hblk
          clear hblk HSE
          go_wp2
          go_quiet (fail)
          go_wp2
          go_ret
          refine ⟨ret_bool ?_, _, by rw [HWR.out, World.drewN_drewN]⟩
          rw [HR.out]
          exact (decide_eq_false (fun e => HBLK.out (congrArg Pt.blk (HGE.out e)))).symm
      · have hki : ¬ ((k : Int) < n) := by omega
        obtain rfl : k = n := by omega
        have HWR := hid hwr
        clear hwr
        go_wp2
        go_ret
        refine ⟨ret_bool ?_, q, HWR.out⟩
        rw [HR.out]
        refine (decide_eq_true ?_).symm
        have := HS.out
        rwa [List.take_of_length_le (by rw [List.length_map, ← HN.out]; exact Nat.le_refl _), List.take_of_length_le (by rw [List.length_map, ← HE.out, ← HN.out]; exact Nat.le_refl _)] at this
  · have hd : decide (L.map Pw.pt = M.map Pw.pt) = false := decide_eq_false (fun e => hne (by have := congrArg List.length e; simpa using this))
    rw [hd]
    have g : ((L.length : Int) != (M.length : Int)) = true := by simp; omega
    clear hL hM hd
    generalize L.length = n1 at *
    generalize M.length = n2 at *
    go_enter Tryd.func13, Tryd.ntmps13
    go_wp2
    go_ret
    exact ⟨rfl, 0, rfl⟩
end Go.Proofs.YtoifeioijoancaaDoor
