/- A connection that is open, with nothing early and nothing to be sent. -/
import Derived.Test.YtmmijbiapflneaaThB
namespace Go.Proofs.Ytmmijbiapflneaa
open Go.RowKit Go.Maps
set_option linter.unusedVariables false
/-- It awaits R, sends N next, l came; the other's window is W. -/
def sC (R N : Int) (l : List Int) (W : Int) (ok : Bool) : Cn := ⟨R, l, fun _ => none, 0, true, false, 0, N, N, [], W, 1000, 0, 0, false, false, 2049, 7, 2, false, ok, false⟩
theorem s32_self (a : Int) : s32 a a = 0 := by unfold s32; omega
theorem a32_0 {a : Int} (h : IsU a) : a32 a 0 = a := by unfold a32 IsU at *; omega
theorem has16 : hasB 16 1 = false := by kernel_rfl
theorem noteS_ord (c : Cn) (q : Int) (d : List Int) (hq : q = c.R) (hen : c.en = false) (hec : c.ec = 0) (hl : c.came.length ≤ 16384) : noteS c q d = { c with came := c.came ++ d.take (16384 - c.came.length), R := a32 c.R (d.take (16384 - c.came.length)).length } := by
  subst hq
  have hr : roomC c = 16384 - c.came.length := by unfold roomC ownW; rw [hen]; rfl
  have e1 : ntAt c c.R = 0 := by unfold ntAt; rw [s32_self]; split <;> rfl
  have e2 : ntDat c c.R d = d.take (16384 - c.came.length) := by
    unfold ntDat
    rw [e1, hr, s32_self]
    have h3 : ((16384 : Int) - c.came.length - 0).toNat = 16384 - c.came.length := by omega
    rw [h3]
    split
    · simp
    · rfl
  unfold noteS noteQ
  rw [e1, e2, if_pos ⟨rfl, hec⟩]
theorem noteS_far (c : Cn) (q : Int) (d : List Int) (hR : IsU c.R) (hen : c.en = false) (hec : c.ec = 0) (hl : c.came.length ≤ 16384) (h1 : 16384 - c.came.length ≤ s32 q c.R) (h2 : (d.length : Int) ≤ s32 c.R q ∨ c.came.length = 16384) : noteS c q d = { c with came := c.came ++ [], R := a32 c.R (0 : Nat) } := by
  have hr : roomC c = 16384 - c.came.length := by unfold roomC ownW; rw [hen]; rfl
  have e1 : ntAt c q = 0 := by unfold ntAt; rw [if_pos (by rw [hr]; exact h1)]
  have e2 : ntDat c q d = [] := by
    unfold ntDat
    rw [if_pos (by rw [hr]; exact h1)]
    rcases h2 with h2 | h2
    · rw [Nat.min_eq_right (by omega)]
      simp
    · rw [e1, hr, show ((16384 : Int) - c.came.length - 0).toNat = 0 by omega]
      rfl
  unfold noteS noteQ
  rw [e1, e2, if_pos ⟨rfl, hec⟩]
  rfl
theorem hear_same (c : Cn) (a w : Int) (h : c.U = a) : hearS c a w = { c with W := w } := by
  subst h
  unfold hearS
  simp only [lessB_self, Bool.false_eq_true, if_false]
theorem hear_next (c : Cn) (a w : Int) (h : lessB c.U a = true) (hw : c.waits = []) : hearS c a w = { c with W := w, U := a, ck := 0, tr := 0, ag := false } := by
  unfold hearS
  simp only [h, if_true, lessB_self, Bool.false_eq_true, if_false, hw]
  obtain ⟨_, _, _, _, _, _, _, _, _, wt, _, _, _, _, _, _, _, _, _, _, _, _⟩ := c
  simp only at hw
  subst hw
  simp
theorem ansOp_of (R N : Int) (l : List Int) (W : Int) (ok : Bool) (f t q wi mss : Int) (d l2 : List Int) (R2 : Int) (h : noteS (sC R N l W ok) q d = sC R2 N l2 W ok) :
    ansOpS { sC R N l W ok with st := 2 } ⟨f, t, q, N, 16, wi, mss, d⟩ = sC R2 N l2 wi (ok || !d.isEmpty) := by
  have h0 : ({ sC R N l W ok with st := 2 } : Cn) = sC R N l W ok := rfl
  have h1 : takeInC (sC R N l W ok) ⟨f, t, q, N, 16, wi, mss, d⟩ = sC R2 N l2 W ok := by
    unfold takeInC
    simp only [has16, Bool.false_eq_true, if_false]
    exact h
  have h2 : takeInS (sC R N l W ok) ⟨f, t, q, N, 16, wi, mss, d⟩ = (sC R2 N l2 W ok, false) := by
    unfold takeInS goOnS
    rw [h1]
    rfl
  have h3 : takeOpS (sC R N l W ok) ⟨f, t, q, N, 16, wi, mss, d⟩ = sC R2 N l2 W ok := by
    unfold takeOpS
    rw [h2]
    rfl
  rw [h0]
  unfold ansOpS
  rw [h3]
  simp only
  rw [hear_same (sC R2 N l2 W ok) N wi rfl]
  unfold oweS
  simp only [has16, Bool.false_or]
  cases hd : d.isEmpty with
  | true => simp [sC]
  | false => simp [sC]
theorem sC_ord (R N : Int) (l : List Int) (W : Int) (ok : Bool) (f t wi mss : Int) (d : List Int) (hl : l.length ≤ 16384) : ansOpS { sC R N l W ok with st := 2 } ⟨f, t, R, N, 16, wi, mss, d⟩ = sC (a32 R (d.take (16384 - l.length)).length) N (l ++ d.take (16384 - l.length)) wi (ok || !d.isEmpty) :=
  ansOp_of R N l W ok f t R wi mss d _ _ (noteS_ord (sC R N l W ok) R d rfl rfl rfl hl)
theorem sC_far (R N : Int) (l : List Int) (W : Int) (ok : Bool) (f t q wi mss : Int) (d : List Int) (hR : IsU R) (hl : l.length ≤ 16384) (h1 : 16384 - l.length ≤ s32 q R) (h2 : (d.length : Int) ≤ s32 R q ∨ l.length = 16384) : ansOpS { sC R N l W ok with st := 2 } ⟨f, t, q, N, 16, wi, mss, d⟩ = sC R N l wi (ok || !d.isEmpty) := by
  have := ansOp_of R N l W ok f t q wi mss d _ _ (noteS_far (sC R N l W ok) q d hR rfl rfl hl h1 h2)
  rw [this]
  show sC (a32 R (0 : Nat)) N (l ++ []) wi _ = _
  rw [List.append_nil, show ((0 : Nat) : Int) = 0 from rfl, a32_0 hR]
theorem less_step {a : Int} (ha : IsU a) : lessB a (a32 a 1) = true := by
  unfold IsU at *
  have e : (a == a32 a 1) = false := by
    simp only [beq_eq_false_iff_ne, ne_eq]
    unfold a32
    omega
  unfold lessB
  rw [e]
  simp only [Bool.not_false, Bool.true_and]
  unfold s32 a32
  simp
  omega
theorem mostI_1000 : mostI 1000 = 1000 := by decide
/-- What opening comes to. -/
theorem open_is (seq first win : Int) (hf : IsU first) (hs : IsU (a32 seq 1)) : ansOpS { quietS (newC ⟨7, 2049, seq, 0, 2, win, 1000, []⟩ first) with st := 2 } ⟨7, 2049, a32 seq 1, a32 first 1, 16, win, 0, []⟩ = sC (a32 seq 1) (a32 first 1) [] win false := by
  obtain ⟨R, hR⟩ : ∃ x, a32 seq 1 = x := ⟨_, rfl⟩
  have hl := less_step hf
  obtain ⟨N, hN⟩ : ∃ x, a32 first 1 = x := ⟨_, rfl⟩
  have e0 : ({ quietS (newC ⟨7, 2049, seq, 0, 2, win, 1000, []⟩ first) with st := 2 } : Cn) = ⟨R, [], fun _ => none, 0, true, false, 0, first, N, [], win, 1000, 0, 0, false, false, 2049, 7, 2, false, false, false⟩ := by
    unfold quietS newC
    simp only [mostI_1000, hR, hN]
  rw [e0, hR, hN]
  rw [hN] at hl
  rw [hR] at hs
  obtain ⟨C, hC⟩ : ∃ x : Cn, x = ⟨R, [], fun _ => none, 0, true, false, 0, first, N, [], win, 1000, 0, 0, false, false, 2049, 7, 2, false, false, false⟩ := ⟨_, rfl⟩
  rw [← hC]
  have hn : noteS C R [] = C := by
    rw [noteS_ord C R [] (by rw [hC]) (by rw [hC]) (by rw [hC]) (by rw [hC]; simp)]
    rw [hC]
    simp [a32_0 hs]
  have h3 : takeOpS C ⟨7, 2049, R, N, 16, win, 0, []⟩ = C := by
    unfold takeOpS takeInS takeInC
    simp only [has16, Bool.false_eq_true, if_false, hn]
    unfold goOnS
    rw [hC]
    rfl
  unfold ansOpS
  rw [h3]
  have h4 : hearS C N win = sC R N [] win false := by
    rw [hear_next C N win (by rw [hC]; exact hl) (by rw [hC]), hC]
    rfl
  show oweS (hearS C N win) _ = _
  rw [h4]
  unfold oweS
  simp [has16]
end Go.Proofs.Ytmmijbiapflneaa
