/- What came in, opened: bytes, frames, addresses. -/
import Derived.Test.YtlflbpemjlgdiaaRows
import Derived.Test.YtlflbpemjlgdiaaEcH
import Derived.WalkKit
import Derived.ProofKit
import Derived.OpenShut
import Derived.ChangeOld
import Derived.ChangeArms
import Derived.WideShapes
import Derived.Below
import Derived.Deep.Slices
namespace Go.Proofs.Ytlflbpemjlgdiaa
open Go.ChangeShapes Go.WideShapes Go.ChangeAt Go.RowKit Go.Deep
set_option linter.unusedVariables false

theorem ownK : ownKnob Try.prog.godebug = none := by kernel_rfl
theorem laidOut : laidOutB Try.prog = true := by kernel_rfl
theorem cells3 : Try.prog.cellsOf 3 = 1 := by kernel_rfl
theorem cells5 : Try.prog.cellsOf 5 = 1 := by kernel_rfl
theorem cells32 : Try.prog.cellsOf 40 = 1 := by kernel_rfl
theorem cells22 : Try.prog.cellsOf 22 = 1 := by kernel_rfl
theorem cells6 : Try.prog.cellsOf 23 = 6 := by kernel_rfl
theorem cells14 : Try.prog.cellsOf 25 = 14 := by kernel_rfl
theorem trod_bytes {H : Type} {enc : TypeId × Value → H} {W : World} {base fuel : Nat} {sp : Nat → Bool} {held : Bool} {cs : List Value} {x : DataW H × List MemPlace}
    (h : DataW.trod enc Try.prog W base sp held fuel 22 cs = some x) : ∃ a cap l, cs = [.slice a l.length cap] ∧ Bytes W a l ∧ l.length ≤ maxLen ∧ l.length ≤ cap ∧ (a = none → cap = 0) := by
  rcases open_slice Try.underlying22 h with ⟨hcs, _⟩ | ⟨a, len, cap, m, n, D, Pl, hcs, _, hl, hm, hmm, _, hel⟩
  · exact ⟨none, 0, [], hcs, fun i hi => by simp at hi, by simp, by simp, fun _ => rfl⟩
  · rw [cells5] at hel
    have hlm : len ≤ m := by rw [hmm]; split <;> omega
    have hq : ∀ i, i < len → ∃ q : Int, W.cell? (a.add i) = some (.int .u8 q) ∧ IsB q := fun i hi => by
      obtain ⟨cs', h1, h2⟩ := hel i (by omega)
      obtain ⟨q, rfl, _, hw⟩ := DataW.trod_int Try.underlying5 h2
      rw [Nat.mul_one] at h1
      have := bounds_u8 hw
      exact ⟨q, cell_of_cells?_one h1, by unfold IsB; omega⟩
    obtain ⟨f, hf⟩ := choose_lt (α := Int) hq
    refine ⟨some a, cap, (List.range len).map f, by simpa using hcs, fun i hi => ?_, by simp; omega, by simp; omega, fun e => by cases e⟩
    have hi' : i < len := by simpa using hi
    obtain ⟨h1, h2⟩ := hf i hi'
    have hsp : a.spot = none := by simpa [Addr.add] using World.cell?_spot (hf 0 (by omega)).1
    obtain ⟨b, off, sp⟩ := a
    simp only at hsp
    subst hsp
    have e : ((List.range len).map f).getD i 0 = f i := by simp [List.getD, hi']
    rw [e]
    rw [add_addr] at h1
    exact ⟨b, off, rfl, h1, h2⟩
set_option maxRecDepth 100000 in
theorem open_bytes {H : Type} {enc : TypeId × Value → H} {W : World} {base : Nat} {v : Value} {d : DataW H} {p : List MemPlace} (hval : Value.okWide Try.prog W .any base 22 v) (h : DataW.Trod enc Try.prog W 0 (fun _ => true) true 22 v d p) :
    ∃ a cap l, v = .slice a l.length cap ∧ Bytes W a l ∧ (l.length ≤ maxLen ∧ l.length ≤ cap ∧ (a = none → cap = 0)) := by
  obtain ⟨a0, len0, cap0, rfl⟩ := okWide_slice Try.underlying22 hval
  obtain ⟨fuel, hf⟩ := h
  obtain ⟨a, cap, l, h1, h2, h3, h4, h5⟩ := trod_bytes hf
  exact ⟨a, cap, l, by simpa [Value.cells] using h1, h2, h3, h4, h5⟩
theorem take1 {α : Type} (l : List α) (off : Nat) (h : off < l.length) : (l.drop off).take 1 = [l[off]] := by
  rw [List.drop_eq_getElem_cons h]
  rfl
theorem pick_lt {α : Type} [Inhabited α] {n : Nat} {p : Nat → α → Prop} (h : ∀ i, i < n → ∃ x, p i x) : ∃ f : Nat → α, ∀ i, i < n → p i (f i) :=
  ⟨fun i => if hi : i < n then (h i hi).choose else default, fun i hi => by simp only [hi, dif_pos]; exact (h i hi).choose_spec⟩
section
variable {H : Type} {enc : TypeId × Value → H} {W : World}
theorem int_at {fuel : Nat} {t : TypeId} {k : IntKind} {l : List Value} {x : DataW H × List MemPlace} (off : Nat) (hu : Try.prog.underlying t = some (.int k)) (hc : Try.prog.cellsOf t = 1) (hl : off < l.length)
    (h : DataW.trod enc Try.prog W 0 (fun _ => true) true fuel t ((l.drop off).take (Try.prog.cellsOf t)) = some x) : ∃ n, l[off]? = some (.int k n) ∧ (Lit.int k n).wf = true := by
  rw [hc, take1 l off hl] at h
  obtain ⟨n, e, _, hw⟩ := DataW.trod_int hu h
  injection e with e1 _
  exact ⟨n, by rw [List.getElem?_eq_getElem hl, e1], hw⟩
theorem mac_at {fuel : Nat} {l : List Value} {x : DataW H × List MemPlace} (off : Nat) (hl : off + 6 ≤ l.length)
    (h : DataW.trod enc Try.prog W 0 (fun _ => true) true fuel 23 ((l.drop off).take (Try.prog.cellsOf 23)) = some x) : ∃ m : Mac, m.ok ∧ ∀ i, i < 6 → l[off + i]? = some (.int .u8 (m.l.getD i 0)) := by
  rw [cells6] at h
  have hll : ((l.drop off).take 6).length = 6 := by rw [List.length_take, List.length_drop]; omega
  obtain ⟨zs, m, _, _, _, hzl, hz⟩ := DataW.trod_array Try.underlying23 h
  have hP : ∀ i, i < 6 → ∃ n : Int, l[off + i]? = some (.int .u8 n) ∧ IsB n := fun i hi => by
    obtain ⟨y, hy⟩ : ∃ y, zs[i]? = some y := ⟨_, List.getElem?_eq_getElem (by omega)⟩
    obtain ⟨n, hn, hw⟩ := int_at (k := .u8) (i * Try.prog.cellsOf 5) (by kernel_rfl) (by kernel_rfl) (by rw [hll, cells5]; omega) ((hz i hi).trans hy)
    rw [cells5, Nat.mul_one, List.getElem?_take, if_pos hi, List.getElem?_drop] at hn
    have := bounds_u8 hw
    exact ⟨n, hn, by unfold IsB; omega⟩
  obtain ⟨f, hf⟩ := pick_lt hP
  refine ⟨⟨f 0, f 1, f 2, f 3, f 4, f 5⟩, fun y hy => ?_, fun i hi => ?_⟩
  · simp [Mac.l] at hy
    rcases hy with rfl | rfl | rfl | rfl | rfl | rfl
    · exact (hf 0 (by omega)).2
    · exact (hf 1 (by omega)).2
    · exact (hf 2 (by omega)).2
    · exact (hf 3 (by omega)).2
    · exact (hf 4 (by omega)).2
    · exact (hf 5 (by omega)).2
  · rw [(hf i hi).1]
    rcases (show i = 0 ∨ i = 1 ∨ i = 2 ∨ i = 3 ∨ i = 4 ∨ i = 5 by omega) with rfl | rfl | rfl | rfl | rfl | rfl <;> rfl
theorem bytes_at {fuel : Nat} {l : List Value} {x : DataW H × List MemPlace} (off : Nat) (hl : off < l.length)
    (h : DataW.trod enc Try.prog W 0 (fun _ => true) true fuel 22 ((l.drop off).take (Try.prog.cellsOf 22)) = some x) : ∃ a n c body, l[off]? = some (.slice a n c) ∧ body.length = n ∧ Bytes W a body ∧ n ≤ maxLen ∧ n ≤ c := by
  rw [cells22, take1 l off hl] at h
  obtain ⟨a, cap, body, e, h1, h2, h3, _⟩ := trod_bytes h
  injection e with e1 _
  exact ⟨a, body.length, cap, body, by rw [List.getElem?_eq_getElem hl, e1], rfl, h1, h2, h3⟩
set_option maxRecDepth 100000 in
theorem frame_at {fuel : Nat} {l : List Value} {x : DataW H × List MemPlace} (off : Nat) (hl : off + 14 ≤ l.length)
    (h : DataW.trod enc Try.prog W 0 (fun _ => true) true fuel 25 ((l.drop off).take (Try.prog.cellsOf 25)) = some x) :
    ∃ (m1 m2 : Mac) (k : Int) (a : Option Addr) (n c : Nat) (body : List Int), (∀ i, i < 14 → l[off + i]? = (frC m1 m2 k (.slice a n c))[i]?) ∧ m1.ok ∧ m2.ok ∧ (-9223372036854775808 ≤ k ∧ k ≤ 9223372036854775807) ∧ body.length = n ∧ Bytes W a body ∧ n ≤ maxLen ∧ n ≤ c := by
  rw [cells14] at h
  have hll : ((l.drop off).take 14).length = 14 := by rw [List.length_take, List.length_drop]; omega
  have hget : ∀ j, j < 14 → ((l.drop off).take 14)[j]? = l[off + j]? := fun j hj => by rw [List.getElem?_take, if_pos hj, List.getElem?_drop]
  obtain ⟨xs, nf, _, _, _, hxl, hfl⟩ := DataW.trod_struct Try.underlying25 h
  have hx : xs.length = 4 := hxl
  have get : ∀ j, j < 4 → ∃ y, xs[j]? = some y := fun j hj => ⟨_, List.getElem?_eq_getElem (by omega)⟩
  obtain ⟨y0, g0⟩ := get 0 (by omega)
  obtain ⟨y1, g1⟩ := get 1 (by omega)
  obtain ⟨y2, g2⟩ := get 2 (by omega)
  obtain ⟨y3, g3⟩ := get 3 (by omega)
  obtain ⟨m1, ok1, e1⟩ := mac_at 0 (by rw [hll]; omega) ((hfl 0 _ rfl).trans g0)
  obtain ⟨m2, ok2, e2⟩ := mac_at 6 (by rw [hll]; omega) ((hfl 1 _ rfl).trans g1)
  obtain ⟨k, ek, wk⟩ := int_at (k := .i64) 12 (by kernel_rfl) (by kernel_rfl) (by rw [hll]; omega) ((hfl 2 _ rfl).trans g2)
  obtain ⟨a, n, c, body, eb, hbl, hbb, hbm, hbc⟩ := bytes_at 13 (by rw [hll]; omega) ((hfl 3 _ rfl).trans g3)
  refine ⟨m1, m2, k, a, n, c, body, fun i hi => ?_, ok1, ok2, bounds_i64 wk, hbl, hbb, hbm, hbc⟩
  rw [← hget i hi]
  rcases (show i < 6 ∨ (6 ≤ i ∧ i < 12) ∨ i = 12 ∨ i = 13 by omega) with h1 | ⟨h1, h2⟩ | rfl | rfl
  · have := e1 i h1
    rw [Nat.zero_add] at this
    rw [this]
    rcases (show i = 0 ∨ i = 1 ∨ i = 2 ∨ i = 3 ∨ i = 4 ∨ i = 5 by omega) with rfl | rfl | rfl | rfl | rfl | rfl <;> rfl
  · obtain ⟨q, rfl⟩ : ∃ q, i = 6 + q := ⟨i - 6, by omega⟩
    rw [e2 q (by omega)]
    rcases (show q = 0 ∨ q = 1 ∨ q = 2 ∨ q = 3 ∨ q = 4 ∨ q = 5 by omega) with rfl | rfl | rfl | rfl | rfl | rfl <;> rfl
  · exact ek
  · exact eb
theorem open_frame {base : Nat} {v : Value} {d : DataW H} {p : List MemPlace} (hval : Value.okWide Try.prog W .any base 25 v) (h : DataW.Trod enc Try.prog W 0 (fun _ => true) true 25 v d p) :
    ∃ (m1 m2 : Mac) (k : Int) (a : Option Addr) (n c : Nat) (body : List Int), v = .agg (frC m1 m2 k (.slice a n c)) ∧ m1.ok ∧ m2.ok ∧ (-9223372036854775808 ≤ k ∧ k ≤ 9223372036854775807) ∧ body.length = n ∧ Bytes W a body ∧ n ≤ maxLen ∧ n ≤ c := by
  obtain ⟨cs, rfl, hsz⟩ := okWide_struct Try.underlying25 hval
  obtain ⟨fuel, hf⟩ := h
  rw [show (Value.agg cs).cells = cs from rfl] at hf
  rw [cells14] at hsz
  have hlen : cs.toList.length = 14 := by rw [Array.length_toList]; exact hsz
  obtain ⟨m1, m2, k, a, n, c, body, he, r⟩ := frame_at (W := W) (enc := enc) (l := cs.toList) 0 (by omega) (by rw [cells14, List.drop_zero, List.take_of_length_le (by omega)]; exact hf)
  refine ⟨m1, m2, k, a, n, c, body, ?_, r⟩
  congr 1
  apply Array.ext_getElem?
  intro i
  by_cases hi : i < 14
  · have := he i hi
    rw [Nat.zero_add, Array.getElem?_toList] at this
    exact this
  · rw [Array.getElem?_eq_none (by omega), Array.getElem?_eq_none (by show 14 ≤ i; omega)]
end
end Go.Proofs.Ytlflbpemjlgdiaa
