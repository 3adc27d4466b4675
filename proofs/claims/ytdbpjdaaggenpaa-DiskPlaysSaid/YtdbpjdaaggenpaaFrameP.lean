/- A slice of calls that came in, opened, with the reach of the picks. -/
import Derived.Test.YtdbpjdaaggenpaaFrame
import Derived.SizedLaws
namespace Go.Proofs.Ytdbpjdaaggenpaa
open Go.ChangeShapes Go.WideShapes Go.ChangeAt Go.RowKit Go.Deep

theorem bytes3 : Try.prog.bytesOf 3 = 8 := by kernel_rfl

theorem weights_all {H : Type} {P : Program} {e : TypeId} : ∀ {ds : List (DataW H)} {d : DataW H}, d ∈ ds → ∀ n ∈ d.weights P e, n ∈ DataW.weightsAll P e ds
  | d0 :: ds, d, hd, n, hn => by
    simp only [DataW.weightsAll, List.mem_append]
    rcases List.mem_cons.1 hd with rfl | h
    · exact Or.inl hn
    · exact Or.inr (weights_all h n hn)

theorem trod_ints2 {H : Type} {enc : TypeId × Value → H} {W : World} {base fuel : Nat} {sp : Nat → Bool} {held : Bool} {cs : List Value} {x : DataW H × List MemPlace}
    (h : DataW.trod enc Try.prog W base sp held fuel 32 cs = some x) : ∃ a cap l, cs = [.slice a l.length cap] ∧ Ints W a l ∧ ∀ R, (∀ n ∈ x.1.weights Try.prog 32, n ≤ R) → l.length * 8 ≤ R := by
  rcases open_slice Try.underlying32 h with ⟨hcs, _⟩ | ⟨a, len, cap, m, n, D, Pl, hcs, _, hl, hm, hmm, hx, hel⟩
  · exact ⟨none, 0, [], hcs, fun i hi => by simp at hi, fun R _ => by simp⟩
  · obtain ⟨a', cap', l, h1, h2, _⟩ := trod_ints h
    refine ⟨a', cap', l, h1, h2, fun R hR => ?_⟩
    have hlen : l.length = len := by rw [hcs] at h1; simp at h1; omega
    have h5 := hR ((((List.range len).map D).length + ((List.range (m - len)).map fun j => D (len + j)).length) * Try.prog.bytesOf 3) (by rw [hx]; simp [DataW.weights, Try.underlying32])
    rw [bytes3] at h5
    simp only [List.length_map, List.length_range] at h5
    rw [hlen]
    omega
set_option maxRecDepth 100000 in
theorem open_calls2 {H : Type} {enc : TypeId × Value → H} {W : World} {base : Nat} {v : Value} {d : DataW H} {p : List MemPlace} (hval : Value.okWide Try.prog W .any base 22 v) (h : DataW.Trod enc Try.prog W 0 (fun _ => true) true 22 v d p) (R : Nat) (hR : ∀ n ∈ d.weights Try.prog 22, n ≤ R) :
    ∃ a cap cs, v = .slice a cs.length cap ∧ ClAt W a cs ∧ ∀ i, i < cs.length → (cs.getD i default).pl.length * 8 ≤ R := by
  obtain ⟨a0, len0, cap0, rfl⟩ := okWide_slice Try.underlying22 hval
  obtain ⟨fuel, hf⟩ := h
  rcases open_slice Try.underlying22 hf with ⟨hcs, _⟩ | ⟨a, len, cap, m, n, D, Pl, hcs, _, hl, hm, hmm, hx, hel⟩
  · simp [Value.cells] at hcs
    obtain ⟨rfl, rfl, rfl⟩ := hcs
    exact ⟨none, 0, [], rfl, fun i hi => by simp at hi, fun i hi => by simp at hi⟩
  · simp [Value.cells] at hcs
    obtain ⟨rfl, rfl, rfl⟩ := hcs
    rw [cells34] at hel
    have hlm : len0 ≤ m := by rw [hmm]; split <;> omega
    have hq0 : ∀ i, i < len0 → ∃ cs' : List Value, cs'.length = 5 ∧ (∀ j, j < 5 → W.cell? ((a.add (i * 5)).add j) = cs'[j]?) ∧ ∃ nf, ∃ xs : List (DataW H × List MemPlace), xs.length = 5 ∧ D i = .agg (xs.map (·.1)) ∧ ∀ (j : Nat) (t : TypeId), [3, 3, 3, 5, 32][j]? = some t → DataW.trod enc Try.prog W 0 (fun _ => true) true nf t ((cs'.drop j).take 1) = xs[j]? := fun i hi => by
      obtain ⟨cs', h1, h2⟩ := hel i (by omega)
      obtain ⟨_, hlen, hc⟩ := World.cells?_some h1
      obtain ⟨xs, nf, _, hxe, _, hxl, hfl⟩ := DataW.trod_struct Try.underlying34 h2
      refine ⟨cs', hlen, hc, nf, xs, by simpa using hxl, congrArg Prod.fst hxe, fun j t ht => ?_⟩
      match j, ht with
      | 0, ht => cases ht; have h3 : DataW.trod enc Try.prog W 0 (fun _ => true) true nf 3 ((cs'.drop 0).take (Try.prog.cellsOf 3)) = xs[0]? := hfl 0 _ rfl; rw [cells3] at h3; exact h3
      | 1, ht => cases ht; have h3 : DataW.trod enc Try.prog W 0 (fun _ => true) true nf 3 ((cs'.drop 1).take (Try.prog.cellsOf 3)) = xs[1]? := hfl 1 _ rfl; rw [cells3] at h3; exact h3
      | 2, ht => cases ht; have h3 : DataW.trod enc Try.prog W 0 (fun _ => true) true nf 3 ((cs'.drop 2).take (Try.prog.cellsOf 3)) = xs[2]? := hfl 2 _ rfl; rw [cells3] at h3; exact h3
      | 3, ht => cases ht; have h3 : DataW.trod enc Try.prog W 0 (fun _ => true) true nf 5 ((cs'.drop 3).take (Try.prog.cellsOf 5)) = xs[3]? := hfl 3 _ rfl; rw [cells5] at h3; exact h3
      | 4, ht => cases ht; have h3 : DataW.trod enc Try.prog W 0 (fun _ => true) true nf 32 ((cs'.drop 4).take (Try.prog.cellsOf 32)) = xs[4]? := hfl 4 _ rfl; rw [cells32] at h3; exact h3
    have hsp : 0 < len0 → a.spot = none := fun h0 => by
      obtain ⟨cs', hlen, hc, _⟩ := hq0 0 h0
      have := hc 0 (by omega)
      rw [List.getElem?_eq_getElem (by omega)] at this
      simpa [Addr.add] using World.cell?_spot this
    have hq : ∀ i, i < len0 → ∃ c : Cl, ∃ b off, some a = some ⟨b, off, none⟩ ∧ W.cell? ⟨b, off + i * 5 + 0, none⟩ = some (.int .i64 c.kind) ∧ W.cell? ⟨b, off + i * 5 + 1, none⟩ = some (.int .i64 c.at_) ∧
        W.cell? ⟨b, off + i * 5 + 2, none⟩ = some (.int .i64 c.n) ∧ W.cell? ⟨b, off + i * 5 + 3, none⟩ = some (.int .u8 c.b) ∧
        W.cell? ⟨b, off + i * 5 + 4, none⟩ = some (.slice c.pa c.pl.length c.pc) ∧ IsI c.kind ∧ IsI c.at_ ∧ (IsI c.n ∧ IsB c.b ∧ Ints W c.pa c.pl) ∧ c.pl.length * 8 ≤ R := fun i hi => by
      obtain ⟨cs', hlen, hc, nf, xs, hxl, hDi, hfl⟩ := hq0 i hi
      have hs := hsp (by omega)
      obtain ⟨b, off, sp⟩ := a
      simp only at hs
      subst hs
      simp only [add_addr] at hc
      have get : ∀ j t, (ht : [3, 3, 3, 5, 32][j]? = some t) → (hj : j < 5) → DataW.trod enc Try.prog W 0 (fun _ => true) true nf t [cs'[j]'(by omega)] = some (xs[j]'(by omega)) := fun j t ht hj => by
        have := hfl j t ht
        rw [drop_take (by omega), List.getElem?_eq_getElem (by omega)] at this
        exact this
      obtain ⟨k0, e0, _, w0⟩ := DataW.trod_int Try.underlying3 (get 0 3 rfl (by omega))
      obtain ⟨k1, e1, _, w1⟩ := DataW.trod_int Try.underlying3 (get 1 3 rfl (by omega))
      obtain ⟨k2, e2, _, w2⟩ := DataW.trod_int Try.underlying3 (get 2 3 rfl (by omega))
      obtain ⟨k3, e3, _, w3⟩ := DataW.trod_int Try.underlying5 (get 3 5 rfl (by omega))
      obtain ⟨pa, pc, pl, e4, hpl, hwt⟩ := trod_ints2 (get 4 32 rfl (by omega))
      simp only [List.cons.injEq, and_true] at e0 e1 e2 e3 e4
      have cell : ∀ j, (hj : j < 5) → W.cell? ⟨b, off + i * 5 + j, none⟩ = some (cs'[j]'(by omega)) := fun j hj => by rw [hc j hj, List.getElem?_eq_getElem (by omega)]
      refine ⟨⟨k0, k1, k2, k3, pa, pc, pl⟩, b, off, rfl, ?_, ?_, ?_, ?_, ?_, w0, w1, ⟨w2, ?_, hpl⟩, hwt R (fun n hn => hR n ?_)⟩
      · rw [cell 0 (by omega), e0]
      · rw [cell 1 (by omega), e1]
      · rw [cell 2 (by omega), e2]
      · rw [cell 3 (by omega), e3]
      · rw [cell 4 (by omega), e4]
      · have := bounds_u8 w3
        unfold IsB
        simp only
        omega
      · have hd := congrArg Prod.fst hx
        simp only at hd
        rw [hd]
        simp only [DataW.weights, Try.underlying22, List.mem_cons, List.mem_append]
        refine Or.inr (Or.inl (weights_all (d := D i) (List.mem_map.2 ⟨i, List.mem_range.2 hi, rfl⟩) n ?_))
        rw [hDi]
        simp only [DataW.weights, Try.underlying34]
        exact DataW.weights_mem_each (j := 4) (t := 32) (d := (xs[4]'(by omega)).1) rfl (by rw [List.getElem?_map, List.getElem?_eq_getElem (by omega)]; rfl) n hn
    obtain ⟨f, hf2⟩ := choose_lt hq
    refine ⟨some a, cap0, (List.range len0).map f, by simp, fun i hi => ?_, fun i hi => ?_⟩
    · have hi' : i < len0 := by simpa using hi
      have e : ((List.range len0).map f).getD i default = f i := by simp [List.getD, hi']
      rw [e]
      obtain ⟨b, off, h1, h2, h3, h4, h5, h6, h7, h8, ⟨h9, h10, h11⟩, _⟩ := hf2 i hi'
      exact ⟨b, off, h1, h2, h3, h4, h5, h6, h7, h8, h9, h10, h11⟩
    · have hi' : i < len0 := by simpa using hi
      have e : ((List.range len0).map f).getD i default = f i := by simp [List.getD, hi']
      rw [e]
      obtain ⟨b, off, h1, h2, h3, h4, h5, h6, h7, h8, _, h12⟩ := hf2 i hi'
      exact h12
end Go.Proofs.Ytdbpjdaaggenpaa
