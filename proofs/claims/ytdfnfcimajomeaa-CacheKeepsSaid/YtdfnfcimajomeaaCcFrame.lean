/- What came in, opened: slices of numbers, of bools, of calls. -/
import Derived.Test.YtdfnfcimajomeaaCcK
import Derived.WalkKit
import Derived.ProofKit
import Derived.OpenShut
import Derived.ChangeOld
import Derived.Below
import Derived.Deep.Slices
namespace Go.Proofs.Ytdfnfcimajomeaa
open Go.ChangeShapes Go.WideShapes Go.ChangeAt Go.RowKit Go.Deep

theorem ownK : ownKnob Try.prog.godebug = none := by kernel_rfl
theorem laidOut : laidOutB Try.prog = true := by kernel_rfl
theorem cells3 : Try.prog.cellsOf 3 = 1 := by kernel_rfl
theorem cells4 : Try.prog.cellsOf 4 = 1 := by kernel_rfl
theorem cells5 : Try.prog.cellsOf 5 = 1 := by kernel_rfl
theorem cellsCl : Try.prog.cellsOf 33 = 4 := by kernel_rfl
theorem drop_take1 {cs : List Value} {k : Nat} (hk : k < cs.length) : (cs.drop k).take 1 = [cs[k]] := by
  rw [List.drop_eq_getElem_cons hk]
  rfl
/-- A row of numbers that came in. -/
def Ints (w : World) (a : Option Addr) (l : List Int) : Prop := ∀ i, i < l.length → ∃ b off, a = some ⟨b, off, none⟩ ∧ w.cell? ⟨b, off + i, none⟩ = some (.int .i64 (l.getD i 0)) ∧ IsI (l.getD i 0)
theorem Ints.below {w w' : World} {a : Option Addr} {l : List Int} (h : Ints w a l) (hb : Below w.heap.size w w') : Ints w' a l := fun i hi => by
  obtain ⟨b, off, h1, h2, h3⟩ := h i hi
  exact ⟨b, off, h1, cell_later hb h2, h3⟩

theorem trod_ints {H : Type} {enc : TypeId × Value → H} {W : World} {base fuel : Nat} {sp : Nat → Bool} {held : Bool} {cs : List Value} {x : DataW H × List MemPlace}
    (h : DataW.trod enc Try.prog W base sp held fuel 35 cs = some x) : ∃ a cap l, cs = [.slice a l.length cap] ∧ Ints W a l ∧ l.length ≤ maxLen := by
  rcases open_slice Try.underlying35 h with ⟨hcs, _⟩ | ⟨a, len, cap, m, n, D, Pl, hcs, _, hl, hm, hmm, _, hel⟩
  · exact ⟨none, 0, [], hcs, fun i hi => by simp at hi, by simp⟩
  · rw [cells3] at hel
    have hlm : len ≤ m := by rw [hmm]; split <;> omega
    have hq : ∀ i, i < len → ∃ q : Int, W.cell? (a.add i) = some (.int .i64 q) ∧ IsI q := fun i hi => by
      obtain ⟨cs', h1, h2⟩ := hel i (by omega)
      obtain ⟨q, rfl, _, hw⟩ := DataW.trod_int Try.underlying3 h2
      rw [Nat.mul_one] at h1
      exact ⟨q, cell_of_cells?_one h1, hw⟩
    obtain ⟨f, hf⟩ := choose_lt (α := Int) hq
    refine ⟨some a, cap, (List.range len).map f, by simpa using hcs, fun i hi => ?_, by simp; omega⟩
    have hi' : i < len := by simpa using hi
    obtain ⟨h1, h2⟩ := hf i hi'
    have hsp : a.spot = none := by simpa [Addr.add] using World.cell?_spot (hf 0 (by omega)).1
    obtain ⟨b, off, sp⟩ := a
    simp only at hsp
    subst hsp
    have e : ((List.range len).map f).getD i 0 = f i := by simp [List.getD, hi']
    rw [e]
    rw [add_addr] at h1
    exact ⟨b, off, rfl, h1, h2⟩
set_option maxRecDepth 100000 in
theorem open_picks {H : Type} {enc : TypeId × Value → H} {W : World} {base : Nat} {v : Value} {d : DataW H} {p : List MemPlace} (hval : Value.okWide Try.prog W .any base 35 v) (h : DataW.Trod enc Try.prog W 0 (fun _ => true) true 35 v d p) :
    ∃ a cap l, v = .slice a l.length cap ∧ Ints W a l ∧ l.length ≤ maxLen := by
  obtain ⟨a0, len0, cap0, rfl⟩ := okWide_slice Try.underlying35 hval
  obtain ⟨fuel, hf⟩ := h
  obtain ⟨a, cap, l, h1, h2, h3⟩ := trod_ints hf
  exact ⟨a, cap, l, by simpa [Value.cells] using h1, h2, h3⟩
/-- A row of bools that came in. -/
def Bools (w : World) (a : Option Addr) (l : List Bool) : Prop := ∀ i, i < l.length → ∃ b off, a = some ⟨b, off, none⟩ ∧ w.cell? ⟨b, off + i, none⟩ = some (.bool (l.getD i false))
theorem Bools.below {w w' : World} {a : Option Addr} {l : List Bool} (h : Bools w a l) (hb : Below w.heap.size w w') : Bools w' a l := fun i hi => by
  obtain ⟨b, off, h1, h2⟩ := h i hi
  exact ⟨b, off, h1, cell_later hb h2⟩

theorem trod_bools {H : Type} {enc : TypeId × Value → H} {W : World} {base fuel : Nat} {sp : Nat → Bool} {held : Bool} {cs : List Value} {x : DataW H × List MemPlace}
    (h : DataW.trod enc Try.prog W base sp held fuel 38 cs = some x) : ∃ a cap l, cs = [.slice a l.length cap] ∧ Bools W a l ∧ l.length ≤ maxLen := by
  rcases open_slice Try.underlying38 h with ⟨hcs, _⟩ | ⟨a, len, cap, m, n, D, Pl, hcs, _, hl, hm, hmm, _, hel⟩
  · exact ⟨none, 0, [], hcs, fun i hi => by simp at hi, by simp⟩
  · rw [cells4] at hel
    have hlm : len ≤ m := by rw [hmm]; split <;> omega
    have hq : ∀ i, i < len → ∃ q : Bool, W.cell? (a.add i) = some (.bool q) := fun i hi => by
      obtain ⟨cs', h1, h2⟩ := hel i (by omega)
      obtain ⟨q, rfl, _⟩ := DataW.trod_bool Try.underlying4 h2
      rw [Nat.mul_one] at h1
      exact ⟨q, cell_of_cells?_one h1⟩
    obtain ⟨f, hf⟩ := choose_lt (α := Bool) hq
    refine ⟨some a, cap, (List.range len).map f, by simpa using hcs, fun i hi => ?_, by simp; omega⟩
    have hi' : i < len := by simpa using hi
    have h1 := hf i hi'
    have hsp : a.spot = none := by simpa [Addr.add] using World.cell?_spot (hf 0 (by omega))
    obtain ⟨b, off, sp⟩ := a
    simp only at hsp
    subst hsp
    have e : ((List.range len).map f).getD i false = f i := by simp [List.getD, hi']
    rw [e]
    rw [add_addr] at h1
    exact ⟨b, off, rfl, h1⟩
set_option maxRecDepth 100000 in
theorem open_bools {H : Type} {enc : TypeId × Value → H} {W : World} {base : Nat} {v : Value} {d : DataW H} {p : List MemPlace} (hval : Value.okWide Try.prog W .any base 38 v) (h : DataW.Trod enc Try.prog W 0 (fun _ => true) true 38 v d p) :
    ∃ a cap l, v = .slice a l.length cap ∧ Bools W a l ∧ l.length ≤ maxLen := by
  obtain ⟨a0, len0, cap0, rfl⟩ := okWide_slice Try.underlying38 hval
  obtain ⟨fuel, hf⟩ := h
  obtain ⟨a, cap, l, h1, h2, h3⟩ := trod_bools hf
  exact ⟨a, cap, l, by simpa [Value.cells] using h1, h2, h3⟩
/-- A call that came in. -/
structure C7 where
  k : Int
  n : Int
  s : Int
  b : Int
instance : Inhabited C7 := ⟨⟨0, 0, 0, 0⟩⟩
def C7At (W : World) (a : Option Addr) (cs : List C7) : Prop := ∀ i, i < cs.length → ∃ b off, a = some ⟨b, off, none⟩ ∧ W.cell? ⟨b, off + i * 4, none⟩ = some (.int .i64 (cs.getD i default).k) ∧ W.cell? ⟨b, off + i * 4 + 1, none⟩ = some (.int .i64 (cs.getD i default).n) ∧
    W.cell? ⟨b, off + i * 4 + 2, none⟩ = some (.int .i64 (cs.getD i default).s) ∧ W.cell? ⟨b, off + i * 4 + 3, none⟩ = some (.int .u8 (cs.getD i default).b) ∧ IsI (cs.getD i default).k ∧ IsI (cs.getD i default).n ∧ IsI (cs.getD i default).s ∧ 0 ≤ (cs.getD i default).b ∧ (cs.getD i default).b < 256
set_option maxRecDepth 100000 in
theorem open_calls7 {H : Type} {enc : TypeId × Value → H} {W : World} {base : Nat} {v : Value} {d : DataW H} {p : List MemPlace} (hval : Value.okWide Try.prog W .any base 22 v) (h : DataW.Trod enc Try.prog W 0 (fun _ => true) true 22 v d p) :
    ∃ a cap cs, v = .slice a cs.length cap ∧ C7At W a cs ∧ cs.length ≤ maxLen := by
  obtain ⟨a0, len0, cap0, rfl⟩ := okWide_slice Try.underlying22 hval
  obtain ⟨fuel, hf⟩ := h
  rcases open_slice Try.underlying22 hf with ⟨hcs, _⟩ | ⟨a, len, cap, m, n, D, Pl, hcs, _, hl, hm, hmm, _, hel⟩
  · simp [Value.cells] at hcs
    obtain ⟨rfl, rfl, rfl⟩ := hcs
    exact ⟨none, 0, [], rfl, fun i hi => by simp at hi, by simp⟩
  · simp [Value.cells] at hcs
    obtain ⟨rfl, rfl, rfl⟩ := hcs
    rw [cellsCl] at hel
    have hlm : len0 ≤ m := by rw [hmm]; split <;> omega
    have hq0 : ∀ i, i < len0 → ∃ cs' : List Value, cs'.length = 4 ∧ (∀ j, j < 4 → W.cell? ((a.add (i * 4)).add j) = cs'[j]?) ∧ ∃ nf, ∃ xs : List (DataW H × List MemPlace), xs.length = 4 ∧ D i = .agg (xs.map (·.1)) ∧ ∀ (j : Nat) (t : TypeId), [3, 3, 3, 5][j]? = some t → DataW.trod enc Try.prog W 0 (fun _ => true) true nf t ((cs'.drop j).take 1) = xs[j]? := fun i hi => by
      obtain ⟨cs', h1, h2⟩ := hel i (by omega)
      obtain ⟨_, hlen, hc⟩ := World.cells?_some h1
      obtain ⟨xs, nf, _, hxe, _, hxl, hfl⟩ := DataW.trod_struct Try.underlying33 h2
      refine ⟨cs', hlen, hc, nf, xs, by simpa using hxl, congrArg Prod.fst hxe, fun j t ht => ?_⟩
      match j, ht with
      | 0, ht => cases ht; have h3 : DataW.trod enc Try.prog W 0 (fun _ => true) true nf 3 ((cs'.drop 0).take (Try.prog.cellsOf 3)) = xs[0]? := hfl 0 _ rfl; rw [cells3] at h3; exact h3
      | 1, ht => cases ht; have h3 : DataW.trod enc Try.prog W 0 (fun _ => true) true nf 3 ((cs'.drop 1).take (Try.prog.cellsOf 3)) = xs[1]? := hfl 1 _ rfl; rw [cells3] at h3; exact h3
      | 2, ht => cases ht; have h3 : DataW.trod enc Try.prog W 0 (fun _ => true) true nf 3 ((cs'.drop 2).take (Try.prog.cellsOf 3)) = xs[2]? := hfl 2 _ rfl; rw [cells3] at h3; exact h3
      | 3, ht => cases ht; have h3 : DataW.trod enc Try.prog W 0 (fun _ => true) true nf 5 ((cs'.drop 3).take (Try.prog.cellsOf 5)) = xs[3]? := hfl 3 _ rfl; rw [cells5] at h3; exact h3
    have hsp : 0 < len0 → a.spot = none := fun h0 => by
      obtain ⟨cs', hlen, hc, _⟩ := hq0 0 h0
      have := hc 0 (by omega)
      rw [List.getElem?_eq_getElem (by omega)] at this
      simpa [Addr.add] using World.cell?_spot this
    have hq : ∀ i, i < len0 → ∃ c : C7, ∃ b off, some a = some ⟨b, off, none⟩ ∧ W.cell? ⟨b, off + i * 4, none⟩ = some (.int .i64 c.k) ∧ W.cell? ⟨b, off + i * 4 + 1, none⟩ = some (.int .i64 c.n) ∧
        W.cell? ⟨b, off + i * 4 + 2, none⟩ = some (.int .i64 c.s) ∧ W.cell? ⟨b, off + i * 4 + 3, none⟩ = some (.int .u8 c.b) ∧ IsI c.k ∧ IsI c.n ∧ IsI c.s ∧ 0 ≤ c.b ∧ c.b < 256 := fun i hi => by
      obtain ⟨cs', hlen, hc, nf, xs, hxl, hDi, hfl⟩ := hq0 i hi
      have hs := hsp (by omega)
      obtain ⟨b, off, sp⟩ := a
      simp only at hs
      subst hs
      simp only [add_addr] at hc
      have get : ∀ j t, (ht : [3, 3, 3, 5][j]? = some t) → (hj : j < 4) → DataW.trod enc Try.prog W 0 (fun _ => true) true nf t [cs'[j]'(by omega)] = some (xs[j]'(by omega)) := fun j t ht hj => by
        have := hfl j t ht
        rw [drop_take1 (by omega), List.getElem?_eq_getElem (by omega)] at this
        exact this
      obtain ⟨k0, e0, _, i0⟩ := DataW.trod_int Try.underlying3 (get 0 3 rfl (by omega))
      obtain ⟨k1, e1, _, i1⟩ := DataW.trod_int Try.underlying3 (get 1 3 rfl (by omega))
      obtain ⟨k2, e2, _, i2⟩ := DataW.trod_int Try.underlying3 (get 2 3 rfl (by omega))
      obtain ⟨k3, e3, _, i3⟩ := DataW.trod_int Try.underlying5 (get 3 5 rfl (by omega))
      have hb3 := bounds_u8 i3
      simp only [List.cons.injEq, and_true] at e0 e1 e2 e3
      have cell : ∀ j, (hj : j < 4) → W.cell? ⟨b, off + i * 4 + j, none⟩ = some (cs'[j]'(by omega)) := fun j hj => by rw [hc j hj, List.getElem?_eq_getElem (by omega)]
      refine ⟨⟨k0, k1, k2, k3⟩, b, off, rfl, ?_, ?_, ?_, ?_, i0, i1, i2, by show 0 ≤ k3; omega, by show k3 < 256; omega⟩
      · have := cell 0 (by omega); rw [Nat.add_zero] at this; rw [this, e0]
      · rw [cell 1 (by omega), e1]
      · rw [cell 2 (by omega), e2]
      · rw [cell 3 (by omega), e3]
    obtain ⟨f, hf2⟩ := choose_lt hq
    refine ⟨some a, cap0, (List.range len0).map f, by simp, fun i hi => ?_, by simp; omega⟩
    have hi' : i < len0 := by simpa using hi
    have e : ((List.range len0).map f).getD i default = f i := by simp [List.getD, hi']
    rw [e]
    exact hf2 i hi'
end Go.Proofs.Ytdfnfcimajomeaa
