/- The log's groups: a block's place. -/
import Derived.Test.YtoifeioijoancaaDoorWcF
namespace Go.Proofs.YtoifeioijoancaaDoor
open Go.RowKit Go.Maps
set_option linter.unusedVariables false

def posP (l : List Pt) (b : Int) : Nat := l.findIdx (fun p => p.blk == b)
def idxP (l : List Pt) (b : Int) : Int := if posP l b < l.length then (posP l b : Nat) else -1
set_option maxRecDepth 100000 in
theorem at1_any (w : World) (blk b : Int) (a : Option Addr) (n c g : Nat) (hc : w.cell? ⟨g, 0, none⟩ = some (.int .i64 b)) :
    Calls Tryd.prog 96 #[.agg #[.int .i64 blk, .slice a n c], .pointer (some ⟨g, 0, none⟩)] w fun e w' => e = .returned (.bool (blk == b)) ∧ Below w.heap.size w w' := by
  have hbel : Hid (Below w.heap.size w (w.alloc (.cells #[.int .i64 blk, .slice a n c] 29))) := hid ((Below.refl _ _).alloc (Nat.le_refl _) _)
  have hc' := cell_later hbel.out hc
  clear hc
  go_enter Tryd.func96, Tryd.ntmps96
  go_wp2
  go_ret
  exact ⟨rfl, hbel.out⟩
theorem posP_le (l : List Pt) (b : Int) : posP l b ≤ l.length := List.findIdx_le_length
theorem posP_hit {l : List Pt} {b : Int} {k : Nat} (hk : k < l.length) (h1 : k ≤ posP l b) (h2 : (l.getD k default).blk = b) : posP l b = k := by
  rcases Nat.lt_or_ge k (posP l b) with h | h
  · have := List.not_of_lt_findIdx h
    simp only [List.getD, List.getElem?_eq_getElem hk, Option.getD_some] at h2
    simp [h2] at this
  · omega
theorem posP_at {l : List Pt} {b : Int} (h : posP l b < l.length) : (l.getD (posP l b) default).blk = b := by
  unfold posP at h ⊢
  have := List.findIdx_getElem (w := h)
  simp only [List.getD, List.getElem?_eq_getElem h, Option.getD_some]
  simpa using this
theorem posP_miss {l : List Pt} {b : Int} {k : Nat} (hk : k < l.length) (h1 : k ≤ posP l b) (h2 : (l.getD k default).blk ≠ b) : k + 1 ≤ posP l b := by
  rcases Nat.lt_or_ge k (posP l b) with h | h
  · omega
  · have e : posP l b = k := by omega
    have h3 := posP_at (l := l) (b := b) (by omega)
    rw [e] at h3
    exact absurd h3 h2
theorem posP_mem (l : List Pt) (b : Int) : posP l b < l.length ↔ b ∈ l.map Pt.blk := by
  unfold posP
  rw [List.findIdx_lt_length]
  constructor
  · rintro ⟨p, hp, h⟩
    simp at h
    exact List.mem_map.2 ⟨p, hp, h⟩
  · intro h
    obtain ⟨p, hp, h⟩ := List.mem_map.1 h
    exact ⟨p, hp, by simpa using h⟩
set_option maxRecDepth 100000 in
set_option maxHeartbeats 1000000 in
theorem IndexFuncP_any (w : World) (S : Nat → Prop) (a : Option Addr) (c g : Nat) (L : List Pw) (b : Int) (h : Ps w S a L) (hl : L.length ≤ 1000000) (hc : w.cell? ⟨g, 0, none⟩ = some (.int .i64 b)) :
    Calls Tryd.prog 95 #[.slice a L.length c, .func (.func 96) #[] #[.pointer (some ⟨g, 0, none⟩)]] w fun e w' => e = .returned (.int .i64 (idxP (L.map Pw.pt) b)) ∧ Below w.heap.size w w' := by
  have HP := hid h
  have HC := hid hc
  obtain ⟨n, hn⟩ : ∃ n, n = L.length := ⟨_, rfl⟩
  have HN := hid hn
  rw [← hn] at hl ⊢
  clear h hc hn
  go_enter Tryd.func95, Tryd.ntmps95
  go_wp2
  go_loopw [8] (fun z wr => ∃ k : Nat, k ≤ n ∧ z = .int .i64 k ∧ k ≤ posP (L.map Pw.pt) b ∧ Below w.heap.size w wr) (fun z _ => n - (RowKit.intOf z).toNat)
  case atStart => exact ⟨0, Nat.zero_le _, rfl, Nat.zero_le _, Below.refl _ _⟩
  case round =>
    obtain ⟨k, hk, rfl, hpos, hb⟩ := hrel
    by_cases hlt : k < n
    · have hki : (k : Int) < n := by omega
      have hkL : k < L.length := by rw [← HN.out]; exact hlt
      obtain ⟨gl, off, ha, _, hc0, hc1⟩ := HP.out.at_ hkL
      subst ha
      replace hc0 := cell_later hb hc0
      replace hc1 := cell_later hb hc1
      generalize hP : L.getD k default = P at *
      have HA1 := hid (at1_any wr P.blk b P.a P.dat.length P.c g (cell_later hb HC.out))
      have HB := hid hb
      have HPM := hid (@posP_hit (L.map Pw.pt) b k (by simpa using hkL) hpos)
      have HPM2 := hid (@posP_miss (L.map Pw.pt) b k (by simpa using hkL) hpos)
      rw [map_getD L k hkL, hP] at HPM HPM2
      clear hP hb hpos
      by_cases he : P.blk = b
      · have HE := hid (HPM.out he)
        have g1 : (P.blk == b) = true := by simp [he]
        rw [g1] at HA1
        clear he HPM HPM2
        go_wp2_with (go_at_call 96; refine HA1.out.mono ?_; rintro e w2 ⟨rfl, hb2⟩; have HB2 : Hid (Below w.heap.size w w2) := hid (HB.out.trans (hb2.mono HB.out.size)); clear hb2)
        go_ret
        refine ⟨ret_int ?_, HB2.out⟩
        unfold idxP
        rw [HE.out, if_pos (by simpa using hkL)]
      · have HE := hid (HPM2.out he)
        have g1 : (P.blk == b) = false := by simpa using he
        rw [g1] at HA1
        clear he HPM HPM2
        go_wp2_with (go_at_call 96; refine HA1.out.mono ?_; rintro e w2 ⟨rfl, hb2⟩; have HB2 : Hid (Below w.heap.size w w2) := hid (HB.out.trans (hb2.mono HB.out.size)); clear hb2)
        go_roundw
        case rel => exact ⟨k + 1, by omega, by go_num, HE.out, HB2.out⟩
        case measure => simp [RowKit.intOf]; omega
    · have hki : ¬ ((k : Int) < n) := by omega
      obtain rfl : k = n := by omega
      have HB := hid hb
      have HPOS := hid hpos
      clear hb hpos
      go_wp2
      go_ret
      refine ⟨ret_int ?_, HB.out⟩
      unfold idxP
      rw [if_neg (by have := HPOS.out; have := HN.out; simp; omega)]
set_option maxRecDepth 100000 in
set_option maxHeartbeats 1000000 in
theorem at_any (w : World) (S : Nat → Prop) (p off : Nat) (a : Option Addr) (c : Nat) (L : List Pw) (b : Int) (hc : w.cell? ⟨p, off + 1, none⟩ = some (.slice a L.length c)) (h : Ps w S a L) (hl : L.length ≤ 1000000) :
    Calls Tryd.prog 79 #[.pointer (some ⟨p, off, none⟩), .int .i64 b] w fun e w' => e = .returned (.int .i64 (idxP (L.map Pw.pt) b)) ∧ Below w.heap.size w w' := by
  obtain ⟨W1, hW1⟩ : ∃ W1, W1 = w.alloc (.cells #[.int .i64 b] 3) := ⟨_, rfl⟩
  have hb1 : Below w.heap.size w W1 := by rw [hW1]; exact (Below.refl _ _).alloc (Nat.le_refl _) _
  have hc1 : W1.cell? ⟨w.heap.size, 0, none⟩ = some (.int .i64 b) := by rw [hW1, new_cell _ _ _ _ 0 (by simp)]; rfl
  have hc2 := cell_later hb1 hc
  have HC := hid (IndexFuncP_any W1 S a c w.heap.size L b (h.later hb1) hl hc1)
  have HB1 := hid hb1
  generalize idxP (L.map Pw.pt) b = r at *
  generalize L.length = n at *
  clear h hc hb1 hc1
  go_enter Tryd.func79, Tryd.ntmps79
  go_wp2_with (rw [← hW1]; clear hW1)
  refine HC.out.mono ?_
  rintro e w2 ⟨rfl, hb2⟩
  have HB2 : Hid (Below w.heap.size w w2) := hid (HB1.out.trans (hb2.mono HB1.out.size))
  clear hb2
  go_wp2
  go_ret
  exact ⟨rfl, HB2.out⟩
def findP (l : List Pt) (b : Int) : Option (List Int) := if posP l b < l.length then some (l.getD (posP l b) default).dat else none
set_option maxRecDepth 100000 in
set_option maxHeartbeats 1000000 in
theorem find_any (w : World) (S : Nat → Prop) (p off : Nat) (a : Option Addr) (c : Nat) (L : List Pw) (b : Int) (hc : w.cell? ⟨p, off + 1, none⟩ = some (.slice a L.length c)) (h : Ps w S a L) (hl : L.length ≤ 1000000) (h512 : ∀ q ∈ L, q.dat.length = 512) :
    Calls Tryd.prog 57 #[.pointer (some ⟨p, off, none⟩), .int .i64 b] w fun e w' => ((findP (L.map Pw.pt) b = none ∧ e = .returned (.tuple #[.slice none 0 0, .bool false])) ∨ ∃ d a' c', findP (L.map Pw.pt) b = some d ∧ e = .returned (.tuple #[.slice a' 512 c', .bool true]) ∧ d.length = 512 ∧ By w' (New w) a' d ∧ 512 ≤ c' ∧ w'.ownsRow w.heap.size 5 1 (.slice a' 512 c') 512 (u8s d)) ∧ Below w.heap.size w w' := by
  have HA := hid (at_any w S p off a c L b hc h hl)
  have HP := hid h
  have HCC := hid hc
  unfold findP
  unfold idxP at HA
  by_cases hpos : posP (L.map Pw.pt) b < (L.map Pw.pt).length
  · rw [if_pos hpos] at HA
    rw [if_pos hpos]
    have hpL : posP (L.map Pw.pt) b < L.length := by simpa using hpos
    rw [map_getD L _ hpL]
    generalize posP (L.map Pw.pt) b = k at *
    clear hpos
    obtain ⟨gl, o2, ha, _, hc0, hc1⟩ := h.at_ hpL
    subst ha
    have hdl := h512 _ (getD_memP hpL)
    have HD := hid (h.dat hpL)
    rw [hdl] at hc1
    have HC1 := hid hc1
    have HDL := hid hdl
    obtain ⟨d, hd⟩ : ∃ d, d = (L.getD k default).pt.dat := ⟨_, rfl⟩
    rw [← hd]
    have HDD : Hid (d = (L.getD k default).dat) := hid hd
    generalize L.getD k default = P at *
    obtain ⟨n, hn⟩ : ∃ n, n = L.length := ⟨_, rfl⟩
    have HN := hid hn
    have hkn : (k : Int) < n := by omega
    rw [← hn] at HCC
    clear hd h hc hc0 hc1 hdl h512 hn
    go_enter Tryd.func57, Tryd.ntmps57
    go_wp2_with fail
    refine HA.out.mono ?_
    rintro e w1 ⟨rfl, hb1⟩
    have HB1 := hid hb1
    have hc1 := cell_later hb1 HC1.out
    have hcc := cell_later hb1 HCC.out
    have HCL := hid (Clone_any w1 S P.a 512 P.c P.dat HDL.out (by omega) (by omega) (HD.out.1.later hb1))
    clear hb1 HA
    go_wp2_with fail
    refine HCL.out.mono ?_
    rintro e w2 ⟨a2, c2, rfl, hc2, hy2, hb2, ho2⟩
    have HB2 : Hid (Below w.heap.size w w2) := hid (HB1.out.trans (hb2.mono HB1.out.size))
    have HY2 := hid (hy2.weak (S' := New w) (fun x hx _ => Nat.le_trans HB1.out.size hx))
    have HO2 := hid (owns_base (base' := w.heap.size) ho2 (fun g hg => Nat.le_trans HB1.out.size (owns_lt ho2 hg).2))
    have HC2 := hid hc2
    clear hc2 hy2 hb2 ho2 HCL
    go_wp2
    go_ret2
    exact ⟨.inr ⟨d, a2, c2, rfl, rfl, by rw [HDD.out]; exact HDL.out, by rw [HDD.out]; exact HY2.out, HC2.out, by rw [HDD.out]; exact HO2.out⟩, HB2.out⟩
  · rw [if_neg hpos] at HA
    rw [if_neg hpos]
    clear hpos h hc
    go_enter Tryd.func57, Tryd.ntmps57
    go_wp2_with fail
    refine HA.out.mono ?_
    rintro e w1 ⟨rfl, hb1⟩
    have HB1 := hid hb1
    clear hb1 HA
    go_wp2
    go_ret2
    exact ⟨.inl ⟨by first | trivial | rfl, rfl⟩, HB1.out⟩
end Go.Proofs.YtoifeioijoancaaDoor
