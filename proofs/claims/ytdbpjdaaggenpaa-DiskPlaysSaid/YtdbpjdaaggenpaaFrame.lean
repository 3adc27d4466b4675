/- What came in, opened: a slice of calls; a slice of picks. -/
import Derived.Test.YtdbpjdaaggenpaaOwn
import Derived.WalkKit
import Derived.ProofKit
import Derived.OpenShut
import Derived.ChangeOld
import Derived.Below
import Derived.Deep.Slices
namespace Go.Proofs.Ytdbpjdaaggenpaa
open Go.ChangeShapes Go.WideShapes Go.ChangeAt Go.RowKit Go.Deep

theorem ownK : ownKnob Try.prog.godebug = none := by kernel_rfl
theorem laidOut : laidOutB Try.prog = true := by kernel_rfl
theorem cells34 : Try.prog.cellsOf 34 = 5 := by kernel_rfl
theorem cells3 : Try.prog.cellsOf 3 = 1 := by kernel_rfl
theorem cells5 : Try.prog.cellsOf 5 = 1 := by kernel_rfl
theorem cells32 : Try.prog.cellsOf 32 = 1 := by kernel_rfl

theorem trod_ints {H : Type} {enc : TypeId × Value → H} {W : World} {base fuel : Nat} {sp : Nat → Bool} {held : Bool} {cs : List Value} {x : DataW H × List MemPlace}
    (h : DataW.trod enc Try.prog W base sp held fuel 32 cs = some x) : ∃ a cap l, cs = [.slice a l.length cap] ∧ Ints W a l ∧ l.length ≤ maxLen := by
  rcases open_slice Try.underlying32 h with ⟨hcs, _⟩ | ⟨a, len, cap, m, n, D, Pl, hcs, _, hl, hm, hmm, _, hel⟩
  · exact ⟨none, 0, [], hcs, fun i hi => by simp at hi, by simp⟩
  · rw [cells3] at hel
    have hlm : len ≤ m := by rw [hmm]; split <;> omega
    have hq : ∀ i, i < len → ∃ q : Int, W.cell? (a.add i) = some (.int .i64 q) ∧ IsI q := fun i hi => by
      obtain ⟨cs', h1, h2⟩ := hel i (by omega)
      obtain ⟨q, rfl, _, hw⟩ := DataW.trod_int Try.underlying3 h2
      rw [Nat.mul_one] at h1
      exact ⟨q, cell_of_cells?_one h1, hw⟩
    obtain ⟨f, hf⟩ := choose_lt (α := Int) hq
    refine ⟨some a, cap, (List.range len).map f, by simpa using hcs, fun i hi => ?_, by simp; omega⟩
    have hi' : i < len := by simpa using hi
    obtain ⟨h1, h2⟩ := hf i hi'
    have hsp : a.spot = none := by simpa [Addr.add] using World.cell?_spot (hf 0 (by omega)).1
    obtain ⟨b, off, sp⟩ := a
    simp only at hsp
    subst hsp
    have e : ((List.range len).map f).getD i 0 = f i := by simp [List.getD, hi']
    rw [e]
    rw [add_addr] at h1
    exact ⟨b, off, rfl, h1, h2⟩

set_option maxRecDepth 100000 in
theorem open_picks {H : Type} {enc : TypeId × Value → H} {W : World} {base : Nat} {v : Value} {d : DataW H} {p : List MemPlace} (hval : Value.okWide Try.prog W .any base 32 v) (h : DataW.Trod enc Try.prog W 0 (fun _ => true) true 32 v d p) :
    ∃ a cap l, v = .slice a l.length cap ∧ Ints W a l ∧ l.length ≤ maxLen := by
  obtain ⟨a0, len0, cap0, rfl⟩ := okWide_slice Try.underlying32 hval
  obtain ⟨fuel, hf⟩ := h
  obtain ⟨a, cap, l, h1, h2, h3⟩ := trod_ints hf
  exact ⟨a, cap, l, by simpa [Value.cells] using h1, h2, h3⟩

theorem drop_take {cs : List Value} {k : Nat} (hk : k < cs.length) : (cs.drop k).take 1 = [cs[k]] := by
  rw [List.drop_eq_getElem_cons hk]
  rfl

set_option maxRecDepth 100000 in
theorem open_calls {H : Type} {enc : TypeId × Value → H} {W : World} {base : Nat} {v : Value} {d : DataW H} {p : List MemPlace} (hval : Value.okWide Try.prog W .any base 22 v) (h : DataW.Trod enc Try.prog W 0 (fun _ => true) true 22 v d p) :
    ∃ a cap cs, v = .slice a cs.length cap ∧ ClAt W a cs ∧ cs.length ≤ maxLen := by
  obtain ⟨a0, len0, cap0, rfl⟩ := okWide_slice Try.underlying22 hval
  obtain ⟨fuel, hf⟩ := h
  rcases open_slice Try.underlying22 hf with ⟨hcs, _⟩ | ⟨a, len, cap, m, n, D, Pl, hcs, _, hl, hm, hmm, _, hel⟩
  · simp [Value.cells] at hcs
    obtain ⟨rfl, rfl, rfl⟩ := hcs
    exact ⟨none, 0, [], rfl, fun i hi => by simp at hi, by simp⟩
  · simp [Value.cells] at hcs
    obtain ⟨rfl, rfl, rfl⟩ := hcs
    rw [cells34] at hel
    have hlm : len0 ≤ m := by rw [hmm]; split <;> omega
    have hq0 : ∀ i, i < len0 → ∃ cs' : List Value, cs'.length = 5 ∧ (∀ j, j < 5 → W.cell? ((a.add (i * 5)).add j) = cs'[j]?) ∧ ∃ nf, ∃ xs : List (DataW H × List MemPlace), xs.length = 5 ∧ ∀ (j : Nat) (t : TypeId), [3, 3, 3, 5, 32][j]? = some t → DataW.trod enc Try.prog W 0 (fun _ => true) true nf t ((cs'.drop j).take 1) = xs[j]? := fun i hi => by
      obtain ⟨cs', h1, h2⟩ := hel i (by omega)
      obtain ⟨_, hlen, hc⟩ := World.cells?_some h1
      obtain ⟨xs, nf, _, _, _, hxl, hfl⟩ := DataW.trod_struct Try.underlying34 h2
      refine ⟨cs', hlen, hc, nf, xs, by simpa using hxl, fun j t ht => ?_⟩
      match j, ht with
      | 0, ht => cases ht; have h3 : DataW.trod enc Try.prog W 0 (fun _ => true) true nf 3 ((cs'.drop 0).take (Try.prog.cellsOf 3)) = xs[0]? := hfl 0 _ rfl; rw [cells3] at h3; exact h3
      | 1, ht => cases ht; have h3 : DataW.trod enc Try.prog W 0 (fun _ => true) true nf 3 ((cs'.drop 1).take (Try.prog.cellsOf 3)) = xs[1]? := hfl 1 _ rfl; rw [cells3] at h3; exact h3
      | 2, ht => cases ht; have h3 : DataW.trod enc Try.prog W 0 (fun _ => true) true nf 3 ((cs'.drop 2).take (Try.prog.cellsOf 3)) = xs[2]? := hfl 2 _ rfl; rw [cells3] at h3; exact h3
      | 3, ht => cases ht; have h3 : DataW.trod enc Try.prog W 0 (fun _ => true) true nf 5 ((cs'.drop 3).take (Try.prog.cellsOf 5)) = xs[3]? := hfl 3 _ rfl; rw [cells5] at h3; exact h3
      | 4, ht => cases ht; have h3 : DataW.trod enc Try.prog W 0 (fun _ => true) true nf 32 ((cs'.drop 4).take (Try.prog.cellsOf 32)) = xs[4]? := hfl 4 _ rfl; rw [cells32] at h3; exact h3
    have hsp : 0 < len0 → a.spot = none := fun h0 => by
      obtain ⟨cs', hlen, hc, _⟩ := hq0 0 h0
      have := hc 0 (by omega)
      rw [List.getElem?_eq_getElem (by omega)] at this
      simpa [Addr.add] using World.cell?_spot this
    have hq : ∀ i, i < len0 → ∃ c : Cl, ∃ b off, some a = some ⟨b, off, none⟩ ∧ W.cell? ⟨b, off + i * 5 + 0, none⟩ = some (.int .i64 c.kind) ∧ W.cell? ⟨b, off + i * 5 + 1, none⟩ = some (.int .i64 c.at_) ∧
        W.cell? ⟨b, off + i * 5 + 2, none⟩ = some (.int .i64 c.n) ∧ W.cell? ⟨b, off + i * 5 + 3, none⟩ = some (.int .u8 c.b) ∧
        W.cell? ⟨b, off + i * 5 + 4, none⟩ = some (.slice c.pa c.pl.length c.pc) ∧ IsI c.kind ∧ IsI c.at_ ∧ IsI c.n ∧ IsB c.b ∧ Ints W c.pa c.pl := fun i hi => by
      obtain ⟨cs', hlen, hc, nf, xs, hxl, hfl⟩ := hq0 i hi
      have hs := hsp (by omega)
      obtain ⟨b, off, sp⟩ := a
      simp only at hs
      subst hs
      simp only [add_addr] at hc
      have get : ∀ j t, (ht : [3, 3, 3, 5, 32][j]? = some t) → (hj : j < 5) → DataW.trod enc Try.prog W 0 (fun _ => true) true nf t [cs'[j]'(by omega)] = some (xs[j]'(by omega)) := fun j t ht hj => by
        have := hfl j t ht
        rw [drop_take (by omega), List.getElem?_eq_getElem (by omega)] at this
        exact this
      obtain ⟨k0, e0, _, w0⟩ := DataW.trod_int Try.underlying3 (get 0 3 rfl (by omega))
      obtain ⟨k1, e1, _, w1⟩ := DataW.trod_int Try.underlying3 (get 1 3 rfl (by omega))
      obtain ⟨k2, e2, _, w2⟩ := DataW.trod_int Try.underlying3 (get 2 3 rfl (by omega))
      obtain ⟨k3, e3, _, w3⟩ := DataW.trod_int Try.underlying5 (get 3 5 rfl (by omega))
      obtain ⟨pa, pc, pl, e4, hpl, _⟩ := trod_ints (get 4 32 rfl (by omega))
      simp only [List.cons.injEq, and_true] at e0 e1 e2 e3 e4
      have cell : ∀ j, (hj : j < 5) → W.cell? ⟨b, off + i * 5 + j, none⟩ = some (cs'[j]'(by omega)) := fun j hj => by rw [hc j hj, List.getElem?_eq_getElem (by omega)]
      refine ⟨⟨k0, k1, k2, k3, pa, pc, pl⟩, b, off, rfl, ?_, ?_, ?_, ?_, ?_, w0, w1, w2, ?_, hpl⟩
      · rw [cell 0 (by omega), e0]
      · rw [cell 1 (by omega), e1]
      · rw [cell 2 (by omega), e2]
      · rw [cell 3 (by omega), e3]
      · rw [cell 4 (by omega), e4]
      · have := bounds_u8 w3
        unfold IsB
        simp only
        omega
    obtain ⟨f, hf2⟩ := choose_lt hq
    refine ⟨some a, cap0, (List.range len0).map f, by simp, fun i hi => ?_, by simp; omega⟩
    have hi' : i < len0 := by simpa using hi
    have e : ((List.range len0).map f).getD i default = f i := by simp [List.getD, hi']
    rw [e]
    exact hf2 i hi'
end Go.Proofs.Ytdbpjdaaggenpaa
