/- What came in, opened: bytes, steps. -/
import Derived.Test.YthgmghfegaemkaaRows
import Derived.Test.YthgmghfegaemkaaQfB
import Derived.WalkKit
import Derived.ProofKit
import Derived.OpenShut
import Derived.ChangeOld
import Derived.ChangeArms
import Derived.WideShapes
import Derived.Below
import Derived.Deep.Slices
namespace Go.Proofs.Ythgmghfegaemkaa
open Go.ChangeShapes Go.WideShapes Go.ChangeAt Go.RowKit Go.Deep
set_option linter.unusedVariables false

theorem ownK : ownKnob Try.prog.godebug = none := by kernel_rfl
theorem laidOut : laidOutB Try.prog = true := by kernel_rfl
theorem cells5 : Try.prog.cellsOf 5 = 1 := by kernel_rfl
theorem cells22 : Try.prog.cellsOf 34 = 1 := by kernel_rfl
theorem cellsKy : Try.prog.cellsOf 33 = 5 := by kernel_rfl
theorem cellsSt : Try.prog.cellsOf 36 = 7 := by kernel_rfl
theorem trod_bytes {H : Type} {enc : TypeId × Value → H} {W : World} {base fuel : Nat} {sp : Nat → Bool} {held : Bool} {cs : List Value} {x : DataW H × List MemPlace}
    (h : DataW.trod enc Try.prog W base sp held fuel 34 cs = some x) : ∃ a cap l, cs = [.slice a l.length cap] ∧ Bytes W a l ∧ l.length ≤ maxLen ∧ l.length ≤ cap ∧ (a = none → cap = 0) := by
  rcases open_slice Try.underlying34 h with ⟨hcs, _⟩ | ⟨a, len, cap, m, n, D, Pl, hcs, _, hl, hm, hmm, _, hel⟩
  · exact ⟨none, 0, [], hcs, fun i hi => by simp at hi, by simp, by simp, fun _ => rfl⟩
  · rw [cells5] at hel
    have hlm : len ≤ m := by rw [hmm]; split <;> omega
    have hq : ∀ i, i < len → ∃ q : Int, W.cell? (a.add i) = some (.int .u8 q) ∧ IsB q := fun i hi => by
      obtain ⟨cs', h1, h2⟩ := hel i (by omega)
      obtain ⟨q, rfl, _, hw⟩ := DataW.trod_int Try.underlying5 h2
      rw [Nat.mul_one] at h1
      have := bounds_u8 hw
      exact ⟨q, cell_of_cells?_one h1, by unfold IsB; omega⟩
    obtain ⟨f, hf⟩ := choose_lt (α := Int) hq
    refine ⟨some a, cap, (List.range len).map f, by simpa using hcs, fun i hi => ?_, by simp; omega, by simp; omega, fun e => by cases e⟩
    have hi' : i < len := by simpa using hi
    obtain ⟨h1, h2⟩ := hf i hi'
    have hsp : a.spot = none := by simpa [Addr.add] using World.cell?_spot (hf 0 (by omega)).1
    obtain ⟨b, off, sp⟩ := a
    simp only at hsp
    subst hsp
    have e : ((List.range len).map f).getD i 0 = f i := by simp [List.getD, hi']
    rw [e]
    rw [add_addr] at h1
    exact ⟨b, off, rfl, h1, h2⟩
theorem take1 {α : Type} (l : List α) (off : Nat) (h : off < l.length) : (l.drop off).take 1 = [l[off]] := by
  rw [List.drop_eq_getElem_cons h]
  rfl
theorem pick_lt {α : Type} [Inhabited α] {n : Nat} {p : Nat → α → Prop} (h : ∀ i, i < n → ∃ x, p i x) : ∃ f : Nat → α, ∀ i, i < n → p i (f i) :=
  ⟨fun i => if hi : i < n then (h i hi).choose else default, fun i hi => by simp only [hi, dif_pos]; exact (h i hi).choose_spec⟩
section
variable {H : Type} {enc : TypeId × Value → H} {W : World}
theorem int_at {fuel : Nat} {t : TypeId} {k : IntKind} {l : List Value} {x : DataW H × List MemPlace} (off : Nat) (hu : Try.prog.underlying t = some (.int k)) (hc : Try.prog.cellsOf t = 1) (hl : off < l.length)
    (h : DataW.trod enc Try.prog W 0 (fun _ => true) true fuel t ((l.drop off).take (Try.prog.cellsOf t)) = some x) : ∃ n, l[off]? = some (.int k n) ∧ (Lit.int k n).wf = true := by
  rw [hc, take1 l off hl] at h
  obtain ⟨n, e, _, hw⟩ := DataW.trod_int hu h
  injection e with e1 _
  exact ⟨n, by rw [List.getElem?_eq_getElem hl, e1], hw⟩
theorem bytes_at {fuel : Nat} {l : List Value} {x : DataW H × List MemPlace} (off : Nat) (hl : off < l.length)
    (h : DataW.trod enc Try.prog W 0 (fun _ => true) true fuel 34 ((l.drop off).take (Try.prog.cellsOf 34)) = some x) : ∃ a n c body, l[off]? = some (.slice a n c) ∧ body.length = n ∧ Bytes W a body ∧ n ≤ maxLen ∧ n ≤ c := by
  rw [cells22, take1 l off hl] at h
  obtain ⟨a, cap, body, e, h1, h2, h3, _⟩ := trod_bytes h
  injection e with e1 _
  exact ⟨a, body.length, cap, body, by rw [List.getElem?_eq_getElem hl, e1], rfl, h1, h2, h3⟩
set_option maxRecDepth 100000 in
theorem key_at {fuel : Nat} {l : List Value} {x : DataW H × List MemPlace} (off : Nat) (hl : off + 5 ≤ l.length)
    (h : DataW.trod enc Try.prog W 0 (fun _ => true) true fuel 33 ((l.drop off).take (Try.prog.cellsOf 33)) = some x) : ∃ K : Ky, K.Ok ∧ ∀ j, j < 5 → l[off + j]? = (kL K)[j]? := by
  rw [cellsKy] at h
  have hll : ((l.drop off).take 5).length = 5 := by rw [List.length_take, List.length_drop]; omega
  have hget : ∀ j, j < 5 → ((l.drop off).take 5)[j]? = l[off + j]? := fun j hj => by rw [List.getElem?_take, if_pos hj, List.getElem?_drop]
  obtain ⟨xs, nf, _, _, _, hxl, hfl⟩ := DataW.trod_struct Try.underlying33 h
  have hx : xs.length = 5 := hxl
  have get : ∀ j, j < 5 → ∃ y, xs[j]? = some y := fun j hj => ⟨_, List.getElem?_eq_getElem (by omega)⟩
  obtain ⟨y0, g0⟩ := get 0 (by omega)
  obtain ⟨y1, g1⟩ := get 1 (by omega)
  obtain ⟨y2, g2⟩ := get 2 (by omega)
  obtain ⟨y3, g3⟩ := get 3 (by omega)
  obtain ⟨y4, g4⟩ := get 4 (by omega)
  obtain ⟨k0, e0, w0⟩ := int_at (k := .u32) 0 (by kernel_rfl) (by kernel_rfl) (by omega) ((hfl 0 _ rfl).trans g0)
  obtain ⟨k1, e1, w1⟩ := int_at (k := .i64) 1 (by kernel_rfl) (by kernel_rfl) (by omega) ((hfl 1 _ rfl).trans g1)
  obtain ⟨k2, e2, w2⟩ := int_at (k := .u32) 2 (by kernel_rfl) (by kernel_rfl) (by omega) ((hfl 2 _ rfl).trans g2)
  obtain ⟨k3, e3, w3⟩ := int_at (k := .u32) 3 (by kernel_rfl) (by kernel_rfl) (by omega) ((hfl 3 _ rfl).trans g3)
  obtain ⟨k4, e4, w4⟩ := int_at (k := .u32) 4 (by kernel_rfl) (by kernel_rfl) (by omega) ((hfl 4 _ rfl).trans g4)
  have b0 := bounds_u32 w0
  have b2 := bounds_u32 w2
  have b3 := bounds_u32 w3
  have b4 := bounds_u32 w4
  refine ⟨⟨k0, k1, k2, k3, k4⟩, ⟨by show InU k0; unfold InU; omega, w1, by show InU k2; unfold InU; omega, by show InU k3; unfold InU; omega, by show InU k4; unfold InU; omega⟩, fun j hj => ?_⟩
  rw [← hget j hj]
  rcases (show j = 0 ∨ j = 1 ∨ j = 2 ∨ j = 3 ∨ j = 4 by omega) with rfl | rfl | rfl | rfl | rfl
  · exact e0
  · exact e1
  · exact e2
  · exact e3
  · exact e4
set_option maxRecDepth 100000 in
theorem step_at {fuel : Nat} {l : List Value} {x : DataW H × List MemPlace} (hl : l.length = 7)
    (h : DataW.trod enc Try.prog W 0 (fun _ => true) true fuel 36 l = some x) : ∃ s : Stp, s.ok W ∧ ∀ j, j < 7 → l[j]? = (stC s)[j]? := by
  obtain ⟨xs, nf, _, _, _, hxl, hfl⟩ := DataW.trod_struct Try.underlying36 h
  have hx : xs.length = 3 := hxl
  have get : ∀ j, j < 3 → ∃ y, xs[j]? = some y := fun j hj => ⟨_, List.getElem?_eq_getElem (by omega)⟩
  obtain ⟨y0, g0⟩ := get 0 (by omega)
  obtain ⟨y1, g1⟩ := get 1 (by omega)
  obtain ⟨y2, g2⟩ := get 2 (by omega)
  obtain ⟨kd, e0, w0⟩ := int_at (k := .i64) 0 (by kernel_rfl) (by kernel_rfl) (by omega) ((hfl 0 _ rfl).trans g0)
  obtain ⟨K, hK, e1⟩ := key_at 1 (by omega) ((hfl 1 _ rfl).trans g1)
  obtain ⟨a, n, c, body, e6, hbl, hbb, hbm⟩ := bytes_at 6 (by omega) ((hfl 2 _ rfl).trans g2)
  refine ⟨⟨kd, K, a, n, c, body⟩, ⟨w0, hK, hbl, hbb⟩, fun j hj => ?_⟩
  have f1 := e1 0 (by omega)
  have f2 := e1 1 (by omega)
  have f3 := e1 2 (by omega)
  have f4 := e1 3 (by omega)
  have f5 := e1 4 (by omega)
  rcases (show j = 0 ∨ j = 1 ∨ j = 2 ∨ j = 3 ∨ j = 4 ∨ j = 5 ∨ j = 6 by omega) with rfl | rfl | rfl | rfl | rfl | rfl | rfl
  · exact e0
  · exact f1
  · exact f2
  · exact f3
  · exact f4
  · exact f5
  · exact e6
set_option maxRecDepth 100000 in
theorem open_steps18 {base : Nat} {v : Value} {d : DataW H} {p : List MemPlace} (hval : Value.okWide Try.prog W .any base 22 v) (h : DataW.Trod enc Try.prog W 0 (fun _ => true) true 22 v d p) :
    ∃ a cap l, v = .slice a l.length cap ∧ StR W a l ∧ l.length ≤ maxLen ∧ l.length ≤ cap := by
  obtain ⟨a0, len0, cap0, rfl⟩ := okWide_slice Try.underlying22 hval
  obtain ⟨fuel, hf⟩ := h
  rcases open_slice Try.underlying22 hf with ⟨hcs, _⟩ | ⟨a, len, cap, m, n, D, Pl, hcs, _, hl, hm, hmm, _, hel⟩
  · simp [Value.cells] at hcs
    obtain ⟨rfl, rfl, rfl⟩ := hcs
    exact ⟨none, 0, [], rfl, fun i hi => by simp at hi, by simp, by simp⟩
  · simp [Value.cells] at hcs
    obtain ⟨rfl, rfl, rfl⟩ := hcs
    rw [cellsSt] at hel
    have hlm : len0 ≤ m := by rw [hmm]; split <;> omega
    have hq0 : ∀ i, i < len0 → ∃ s : Stp, s.ok W ∧ ∀ j, j < 7 → W.cell? ((a.add (i * 7)).add j) = (stC s)[j]? := fun i hi => by
      obtain ⟨cs', h1, h2⟩ := hel i (by omega)
      obtain ⟨_, hlen, hc⟩ := World.cells?_some h1
      obtain ⟨s, hs, he⟩ := step_at hlen h2
      exact ⟨s, hs, fun j hj => by rw [hc j hj, he j hj]⟩
    have hsp : 0 < len0 → a.spot = none := fun h0 => by
      obtain ⟨s, _, hc⟩ := hq0 0 h0
      have := hc 0 (by omega)
      simpa [Addr.add] using World.cell?_spot (this.trans (show (stC s)[0]? = some (.int .i64 s.kd) from rfl))
    obtain ⟨f, hf2⟩ := pick_lt hq0
    refine ⟨some a, cap0, (List.range len0).map f, by simp, fun i hi => ?_, by simp; omega, by simp; omega⟩
    have hi' : i < len0 := by simpa using hi
    have e : ((List.range len0).map f).getD i default = f i := by simp [List.getD, hi']
    rw [e]
    obtain ⟨h1, h2⟩ := hf2 i hi'
    have hs := hsp (by omega)
    obtain ⟨b, off, sp⟩ := a
    simp only at hs
    subst hs
    simp only [add_addr] at h2
    exact ⟨h1, b, off, rfl, h2⟩
end
end Go.Proofs.Ythgmghfegaemkaa
