/- What came in, opened: slices of calls. -/
import Derived.Test.YtoplbmbeadpilaaRows
import Derived.Test.YtoplbmbeadpilaaVhA
import Derived.WalkKit
import Derived.ProofKit
import Derived.OpenShut
import Derived.ChangeOld
import Derived.Below
import Derived.Deep.Slices
namespace Go.Proofs.Ytoplbmbeadpilaa
open Go.ChangeShapes Go.WideShapes Go.ChangeAt Go.RowKit Go.Deep
set_option linter.unusedVariables false

theorem ownK : ownKnob Try.prog.godebug = none := by kernel_rfl
theorem laidOut : laidOutB Try.prog = true := by kernel_rfl
theorem cells3 : Try.prog.cellsOf 3 = 1 := by kernel_rfl
theorem cells5 : Try.prog.cellsOf 5 = 1 := by kernel_rfl
theorem cellsBk : Try.prog.cellsOf 34 = 3 := by kernel_rfl
theorem drop_take1 {cs : List Value} {k : Nat} (hk : k < cs.length) : (cs.drop k).take 1 = [cs[k]] := by
  rw [List.drop_eq_getElem_cons hk]
  rfl
set_option maxRecDepth 100000 in
theorem open_calls9 {H : Type} {enc : TypeId × Value → H} {W : World} {base : Nat} {v : Value} {d : DataW H} {p : List MemPlace} (hval : Value.okWide Try.prog W .any base 22 v) (h : DataW.Trod enc Try.prog W 0 (fun _ => true) true 22 v d p) :
    ∃ a cap cs, v = .slice a cs.length cap ∧ Bks W a cs ∧ cs.length ≤ maxLen := by
  obtain ⟨a0, len0, cap0, rfl⟩ := okWide_slice Try.underlying22 hval
  obtain ⟨fuel, hf⟩ := h
  rcases open_slice Try.underlying22 hf with ⟨hcs, _⟩ | ⟨a, len, cap, m, n, D, Pl, hcs, _, hl, hm, hmm, _, hel⟩
  · simp [Value.cells] at hcs
    obtain ⟨rfl, rfl, rfl⟩ := hcs
    exact ⟨none, 0, [], rfl, fun i hi => by simp at hi, by simp⟩
  · simp [Value.cells] at hcs
    obtain ⟨rfl, rfl, rfl⟩ := hcs
    rw [cellsBk] at hel
    have hlm : len0 ≤ m := by rw [hmm]; split <;> omega
    have hq0 : ∀ i, i < len0 → ∃ cs' : List Value, cs'.length = 3 ∧ (∀ j, j < 3 → W.cell? ((a.add (i * 3)).add j) = cs'[j]?) ∧ ∃ nf, ∃ xs : List (DataW H × List MemPlace), xs.length = 3 ∧ D i = .agg (xs.map (·.1)) ∧ ∀ (j : Nat) (t : TypeId), [3, 3, 5][j]? = some t → DataW.trod enc Try.prog W 0 (fun _ => true) true nf t ((cs'.drop j).take 1) = xs[j]? := fun i hi => by
      obtain ⟨cs', h1, h2⟩ := hel i (by omega)
      obtain ⟨_, hlen, hc⟩ := World.cells?_some h1
      obtain ⟨xs, nf, _, hxe, _, hxl, hfl⟩ := DataW.trod_struct Try.underlying34 h2
      refine ⟨cs', hlen, hc, nf, xs, by simpa using hxl, congrArg Prod.fst hxe, fun j t ht => ?_⟩
      match j, ht with
      | 0, ht => cases ht; have h3 : DataW.trod enc Try.prog W 0 (fun _ => true) true nf 3 ((cs'.drop 0).take (Try.prog.cellsOf 3)) = xs[0]? := hfl 0 _ rfl; rw [cells3] at h3; exact h3
      | 1, ht => cases ht; have h3 : DataW.trod enc Try.prog W 0 (fun _ => true) true nf 3 ((cs'.drop 1).take (Try.prog.cellsOf 3)) = xs[1]? := hfl 1 _ rfl; rw [cells3] at h3; exact h3
      | 2, ht => cases ht; have h3 : DataW.trod enc Try.prog W 0 (fun _ => true) true nf 5 ((cs'.drop 2).take (Try.prog.cellsOf 5)) = xs[2]? := hfl 2 _ rfl; rw [cells5] at h3; exact h3
    have hsp : 0 < len0 → a.spot = none := fun h0 => by
      obtain ⟨cs', hlen, hc, _⟩ := hq0 0 h0
      have := hc 0 (by omega)
      rw [List.getElem?_eq_getElem (by omega)] at this
      simpa [Addr.add] using World.cell?_spot this
    have hq : ∀ i, i < len0 → ∃ c : Bk, (c.at_ < 9223372036854775808 ∧ -9223372036854775808 ≤ c.at_ ∧ IsB c.b) ∧ ∃ b off, some a = some ⟨b, off, none⟩ ∧ W.cell? ⟨b, off + i * 3, none⟩ = some (.int .i64 c.at_) ∧ W.cell? ⟨b, off + i * 3 + 1, none⟩ = some (.int .i64 c.size) ∧ W.cell? ⟨b, off + i * 3 + 2, none⟩ = some (.int .u8 c.b) := fun i hi => by
      obtain ⟨cs', hlen, hc, nf, xs, hxl, hDi, hfl⟩ := hq0 i hi
      have hs := hsp (by omega)
      obtain ⟨b, off, sp⟩ := a
      simp only at hs
      subst hs
      simp only [add_addr] at hc
      have get : ∀ j t, (ht : [3, 3, 5][j]? = some t) → (hj : j < 3) → DataW.trod enc Try.prog W 0 (fun _ => true) true nf t [cs'[j]'(by omega)] = some (xs[j]'(by omega)) := fun j t ht hj => by
        have := hfl j t ht
        rw [drop_take1 (by omega), List.getElem?_eq_getElem (by omega)] at this
        exact this
      obtain ⟨k0, e0, _, i0⟩ := DataW.trod_int Try.underlying3 (get 0 3 rfl (by omega))
      obtain ⟨k1, e1, _, i1⟩ := DataW.trod_int Try.underlying3 (get 1 3 rfl (by omega))
      obtain ⟨k2, e2, _, i2⟩ := DataW.trod_int Try.underlying5 (get 2 5 rfl (by omega))
      have hb0 := bounds_i64 i0
      have hb2 := bounds_u8 i2
      simp only [List.cons.injEq, and_true] at e0 e1 e2
      have cell : ∀ j, (hj : j < 3) → W.cell? ⟨b, off + i * 3 + j, none⟩ = some (cs'[j]'(by omega)) := fun j hj => by rw [hc j hj, List.getElem?_eq_getElem (by omega)]
      refine ⟨⟨k0, k1, k2⟩, ⟨by show k0 < 9223372036854775808; omega, by show -9223372036854775808 ≤ k0; omega, by show 0 ≤ k2 ∧ k2 < 256; omega⟩, b, off, rfl, ?_, ?_, ?_⟩
      · have := cell 0 (by omega); rw [Nat.add_zero] at this; rw [this, e0]
      · rw [cell 1 (by omega), e1]
      · rw [cell 2 (by omega), e2]
    obtain ⟨f, hf2⟩ := choose_lt hq
    refine ⟨some a, cap0, (List.range len0).map f, by simp, fun i hi => ?_, by simp; omega⟩
    have hi' : i < len0 := by simpa using hi
    have e : ((List.range len0).map f).getD i default = f i := by simp [List.getD, hi']
    rw [e]
    exact hf2 i hi'
end Go.Proofs.Ytoplbmbeadpilaa
