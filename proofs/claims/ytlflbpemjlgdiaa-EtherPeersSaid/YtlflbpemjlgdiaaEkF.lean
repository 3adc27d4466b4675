/- What came in, opened: an address of six bytes, a row of steps. -/
import Derived.Test.YtlflbpemjlgdiaaEfF
import Derived.Test.YtlflbpemjlgdiaaEkA
namespace Go.Proofs.Ytlflbpemjlgdiaa
open Go.ChangeShapes Go.WideShapes Go.ChangeAt Go.RowKit Go.Deep
set_option linter.unusedVariables false
theorem u32_of_wf {n : Int} (h : (Lit.int .u32 n).wf = true) : IsU n := by
  have h1 : IntKind.u32.min = 0 := rfl
  have h2 : IntKind.u32.max = 4294967295 := rfl
  simp only [Lit.wf, Bool.and_eq_true, decide_eq_true_eq] at h
  unfold IsU; omega
theorem cellsSt : Try.prog.cellsOf 49 = 22 := by kernel_rfl
theorem okWide_array' {w : World} {r : Reach} {base : Nat} {t e : TypeId} {n : Nat} {v : Value} (ht : Try.prog.underlying t = some (.array n e)) (h : Value.okWide Try.prog w r base t v) : ∃ cs, v = .agg cs ∧ cs.size = Try.prog.cellsOf t := by
  simp only [Value.okWide, ht] at h
  obtain ⟨cs, h1, h2, _⟩ := h
  exact ⟨cs, h1, h2⟩
section
variable {H : Type} {enc : TypeId × Value → H} {W : World}
theorem open_mac {base : Nat} {v : Value} {d : DataW H} {p : List MemPlace} (hval : Value.okWide Try.prog W .any base 23 v) (h : DataW.Trod enc Try.prog W 0 (fun _ => true) true 23 v d p) :
    ∃ m : Mac, v = .agg (macC m) ∧ m.ok := by
  obtain ⟨cs, rfl, hsz⟩ := okWide_array' Try.underlying23 hval
  obtain ⟨fuel, hf⟩ := h
  rw [show (Value.agg cs).cells = cs from rfl] at hf
  rw [cells6] at hsz
  have hlen : cs.toList.length = 6 := by rw [Array.length_toList]; exact hsz
  obtain ⟨m, hok, he⟩ := mac_at (W := W) (enc := enc) (l := cs.toList) 0 (by omega) (by rw [cells6, List.drop_zero, List.take_of_length_le (by omega)]; exact hf)
  refine ⟨m, ?_, hok⟩
  congr 1
  apply Array.ext_getElem?
  intro i
  by_cases hi : i < 6
  · have := he i hi
    rw [Nat.zero_add, Array.getElem?_toList] at this
    rw [this]
    rcases (show i = 0 ∨ i = 1 ∨ i = 2 ∨ i = 3 ∨ i = 4 ∨ i = 5 by omega) with rfl | rfl | rfl | rfl | rfl | rfl <;> rfl
  · rw [Array.getElem?_eq_none (by omega), Array.getElem?_eq_none (by show 6 ≤ i; omega)]
set_option maxRecDepth 100000 in
theorem step_at {fuel : Nat} {l : List Value} {x : DataW H × List MemPlace} (hl : l.length = 22)
    (h : DataW.trod enc Try.prog W 0 (fun _ => true) true fuel 49 l = some x) : ∃ s : St, s.ok W ∧ ∀ j, j < 22 → l[j]? = (stC s)[j]? := by
  obtain ⟨xs, nf, _, _, _, hxl, hfl⟩ := DataW.trod_struct Try.underlying49 h
  have hx : xs.length = 4 := hxl
  have get : ∀ j, j < 4 → ∃ y, xs[j]? = some y := fun j hj => ⟨_, List.getElem?_eq_getElem (by omega)⟩
  obtain ⟨y0, g0⟩ := get 0 (by omega)
  obtain ⟨y1, g1⟩ := get 1 (by omega)
  obtain ⟨y2, g2⟩ := get 2 (by omega)
  obtain ⟨y3, g3⟩ := get 3 (by omega)
  obtain ⟨kd, e0, _⟩ := int_at (k := .i64) 0 (by kernel_rfl) (by kernel_rfl) (by omega) ((hfl 0 _ rfl).trans g0)
  obtain ⟨ip, e1, w1⟩ := int_at (k := .u32) 1 (by kernel_rfl) (by kernel_rfl) (by omega) ((hfl 1 _ rfl).trans g1)
  obtain ⟨mc, okm, e2⟩ := mac_at 2 (by omega) ((hfl 2 _ rfl).trans g2)
  obtain ⟨m1, m2, k, a, n, c, body, e3, ok1, ok2, hk, hbl, hbb, hbm, hbc⟩ := frame_at 8 (by omega) ((hfl 3 _ rfl).trans g3)
  refine ⟨⟨kd, ip, mc, m1, m2, k, a, n, c, body⟩, ⟨u32_of_wf w1, okm, ok1, ok2, hk, hbl, hbb, hbm, hbc⟩, fun j hj => ?_⟩
  rcases (show j = 0 ∨ j = 1 ∨ (2 ≤ j ∧ j < 8) ∨ (8 ≤ j ∧ j < 22) by omega) with rfl | rfl | ⟨h1, h2⟩ | ⟨h1, h2⟩
  · exact e0
  · exact e1
  · obtain ⟨r, rfl⟩ : ∃ r, j = 2 + r := ⟨j - 2, by omega⟩
    rw [e2 r (by omega)]
    rcases (show r = 0 ∨ r = 1 ∨ r = 2 ∨ r = 3 ∨ r = 4 ∨ r = 5 by omega) with rfl | rfl | rfl | rfl | rfl | rfl <;> rfl
  · obtain ⟨r, rfl⟩ : ∃ r, j = 8 + r := ⟨j - 8, by omega⟩
    rw [e3 r (by omega)]
    rcases (show r = 0 ∨ r = 1 ∨ r = 2 ∨ r = 3 ∨ r = 4 ∨ r = 5 ∨ r = 6 ∨ r = 7 ∨ r = 8 ∨ r = 9 ∨ r = 10 ∨ r = 11 ∨ r = 12 ∨ r = 13 by omega) with rfl | rfl | rfl | rfl | rfl | rfl | rfl | rfl | rfl | rfl | rfl | rfl | rfl | rfl <;> rfl
set_option maxRecDepth 100000 in
theorem open_steps {base : Nat} {v : Value} {d : DataW H} {p : List MemPlace} (hval : Value.okWide Try.prog W .any base 41 v) (h : DataW.Trod enc Try.prog W 0 (fun _ => true) true 41 v d p) :
    ∃ a cap l, v = .slice a l.length cap ∧ StR W a l ∧ l.length ≤ maxLen := by
  obtain ⟨a0, len0, cap0, rfl⟩ := okWide_slice Try.underlying41 hval
  obtain ⟨fuel, hf⟩ := h
  rcases open_slice Try.underlying41 hf with ⟨hcs, _⟩ | ⟨a, len, cap, m, n, D, Pl, hcs, _, hl, hm, hmm, _, hel⟩
  · simp [Value.cells] at hcs
    obtain ⟨rfl, rfl, rfl⟩ := hcs
    exact ⟨none, 0, [], rfl, fun i hi => by simp at hi, by simp⟩
  · simp [Value.cells] at hcs
    obtain ⟨rfl, rfl, rfl⟩ := hcs
    rw [cellsSt] at hel
    have hlm : len0 ≤ m := by rw [hmm]; split <;> omega
    have hq0 : ∀ i, i < len0 → ∃ s : St, s.ok W ∧ ∀ j, j < 22 → W.cell? ((a.add (i * 22)).add j) = (stC s)[j]? := fun i hi => by
      obtain ⟨cs', h1, h2⟩ := hel i (by omega)
      obtain ⟨_, hlen, hc⟩ := World.cells?_some h1
      obtain ⟨s, hs, he⟩ := step_at hlen h2
      exact ⟨s, hs, fun j hj => by rw [hc j hj, he j hj]⟩
    have hsp : 0 < len0 → a.spot = none := fun h0 => by
      obtain ⟨s, _, hc⟩ := hq0 0 h0
      have := hc 0 (by omega)
      simpa [Addr.add] using World.cell?_spot (this.trans (show (stC s)[0]? = some (.int .i64 s.kd) from rfl))
    obtain ⟨f, hf2⟩ := pick_lt hq0
    refine ⟨some a, cap0, (List.range len0).map f, by simp, fun i hi => ?_, by simp; omega⟩
    have hi' : i < len0 := by simpa using hi
    have e : ((List.range len0).map f).getD i default = f i := by simp [List.getD, hi']
    rw [e]
    obtain ⟨h1, h2⟩ := hf2 i hi'
    have hs := hsp (by omega)
    obtain ⟨b, off, sp⟩ := a
    simp only at hs
    subst hs
    simp only [add_addr] at h2
    exact ⟨h1, b, off, rfl, h2⟩
end
end Go.Proofs.Ytlflbpemjlgdiaa
