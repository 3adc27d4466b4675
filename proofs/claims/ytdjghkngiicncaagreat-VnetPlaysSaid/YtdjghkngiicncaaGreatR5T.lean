/- A slice of calls that came in, opened, with the reach of their bytes. -/
import Derived.Test.YtdjghkngiicncaaGreatR5R
import Derived.WalkKit
import Derived.ProofKit
import Derived.OpenShut
import Derived.ChangeOld
import Derived.Below
import Derived.Deep.Slices
import Derived.SizedLaws
namespace Go.Proofs.YtdjghkngiicncaaGreat
open Go.ChangeShapes Go.WideShapes Go.ChangeAt Go.RowKit Go.Deep

theorem ownK : ownKnob Tryz.prog.godebug = none := by kernel_rfl
theorem laidOut : laidOutB Tryz.prog = true := by kernel_rfl
theorem cells3 : Tryz.prog.cellsOf 3 = 1 := by kernel_rfl
theorem cells5 : Tryz.prog.cellsOf 5 = 1 := by kernel_rfl
theorem cellsBs : Tryz.prog.cellsOf 25 = 1 := by kernel_rfl
theorem cellsCl : Tryz.prog.cellsOf 40 = 4 := by kernel_rfl
theorem bytes5 : Tryz.prog.bytesOf 5 = 1 := by kernel_rfl
theorem drop_take1 {cs : List Value} {k : Nat} (hk : k < cs.length) : (cs.drop k).take 1 = [cs[k]] := by
  rw [List.drop_eq_getElem_cons hk]
  rfl
theorem weights_all {H : Type} {P : Program} {e : TypeId} : ∀ {ds : List (DataW H)} {d : DataW H}, d ∈ ds → ∀ n ∈ d.weights P e, n ∈ DataW.weightsAll P e ds
  | d0 :: ds, d, hd, n, hn => by
    simp only [DataW.weightsAll, List.mem_append]
    rcases List.mem_cons.1 hd with rfl | h
    · exact Or.inl hn
    · exact Or.inr (weights_all h n hn)
theorem trod_bytes {H : Type} {enc : TypeId × Value → H} {W : World} {base fuel : Nat} {sp : Nat → Bool} {held : Bool} {cs : List Value} {x : DataW H × List MemPlace}
    (h : DataW.trod enc Tryz.prog W base sp held fuel 25 cs = some x) : ∃ a cap l, cs = [.slice a l.length cap] ∧ Bytes W a l ∧ l.length ≤ maxLen ∧ l.length ≤ cap ∧ (a = none → cap = 0) := by
  rcases open_slice Tryz.underlying25 h with ⟨hcs, _⟩ | ⟨a, len, cap, m, n, D, Pl, hcs, _, hl, hm, hmm, _, hel⟩
  · exact ⟨none, 0, [], hcs, fun i hi => by simp at hi, by simp, by simp, fun _ => rfl⟩
  · rw [cells5] at hel
    have hlm : len ≤ m := by rw [hmm]; split <;> omega
    have hq : ∀ i, i < len → ∃ q : Int, W.cell? (a.add i) = some (.int .u8 q) ∧ IsB q := fun i hi => by
      obtain ⟨cs', h1, h2⟩ := hel i (by omega)
      obtain ⟨q, rfl, _, hw⟩ := DataW.trod_int Tryz.underlying5 h2
      rw [Nat.mul_one] at h1
      have := bounds_u8 hw
      exact ⟨q, cell_of_cells?_one h1, by unfold IsB; omega⟩
    obtain ⟨f, hf⟩ := choose_lt (α := Int) hq
    refine ⟨some a, cap, (List.range len).map f, by simpa using hcs, fun i hi => ?_, by simp; omega, by simp; omega, fun e => by cases e⟩
    have hi' : i < len := by simpa using hi
    obtain ⟨h1, h2⟩ := hf i hi'
    have hsp : a.spot = none := by simpa [Addr.add] using World.cell?_spot (hf 0 (by omega)).1
    obtain ⟨b, off, sp⟩ := a
    simp only at hsp
    subst hsp
    have e : ((List.range len).map f).getD i 0 = f i := by simp [List.getD, hi']
    rw [e]
    rw [add_addr] at h1
    exact ⟨b, off, rfl, h1, h2⟩
theorem trod_bytes2 {H : Type} {enc : TypeId × Value → H} {W : World} {base fuel : Nat} {sp : Nat → Bool} {held : Bool} {cs : List Value} {x : DataW H × List MemPlace}
    (h : DataW.trod enc Tryz.prog W base sp held fuel 25 cs = some x) : ∃ a cap l, cs = [.slice a l.length cap] ∧ Bytes W a l ∧ ∀ R, (∀ n ∈ x.1.weights Tryz.prog 25, n ≤ R) → l.length ≤ R := by
  rcases open_slice Tryz.underlying25 h with ⟨hcs, _⟩ | ⟨a, len, cap, m, n, D, Pl, hcs, _, hl, hm, hmm, hx, hel⟩
  · exact ⟨none, 0, [], hcs, fun i hi => by simp at hi, fun R _ => by simp⟩
  · obtain ⟨a', cap', l, h1, h2, _⟩ := trod_bytes h
    refine ⟨a', cap', l, h1, h2, fun R hR => ?_⟩
    have hlen : l.length = len := by rw [hcs] at h1; simp at h1; omega
    have h5 := hR ((((List.range len).map D).length + ((List.range (m - len)).map fun j => D (len + j)).length) * Tryz.prog.bytesOf 5) (by rw [hx]; simp [DataW.weights, Tryz.underlying25])
    rw [bytes5] at h5
    simp only [List.length_map, List.length_range] at h5
    rw [hlen]
    omega
set_option maxRecDepth 100000 in
theorem open_calls5 {H : Type} {enc : TypeId × Value → H} {W : World} {base : Nat} {v : Value} {d : DataW H} {p : List MemPlace} (hval : Value.okWide Tryz.prog W .any base 22 v) (h : DataW.Trod enc Tryz.prog W 0 (fun _ => true) true 22 v d p) (hR : ∀ n ∈ d.weights Tryz.prog 22, n ≤ 140737488355328) :
    ∃ a cap cs, v = .slice a cs.length cap ∧ C5At W a cs := by
  obtain ⟨a0, len0, cap0, rfl⟩ := okWide_slice Tryz.underlying22 hval
  obtain ⟨fuel, hf⟩ := h
  rcases open_slice Tryz.underlying22 hf with ⟨hcs, _⟩ | ⟨a, len, cap, m, n, D, Pl, hcs, _, hl, hm, hmm, hx, hel⟩
  · simp [Value.cells] at hcs
    obtain ⟨rfl, rfl, rfl⟩ := hcs
    exact ⟨none, 0, [], rfl, fun i hi => by simp at hi⟩
  · simp [Value.cells] at hcs
    obtain ⟨rfl, rfl, rfl⟩ := hcs
    rw [cellsCl] at hel
    have hlm : len0 ≤ m := by rw [hmm]; split <;> omega
    have hq0 : ∀ i, i < len0 → ∃ cs' : List Value, cs'.length = 4 ∧ (∀ j, j < 4 → W.cell? ((a.add (i * 4)).add j) = cs'[j]?) ∧ ∃ nf, ∃ xs : List (DataW H × List MemPlace), xs.length = 4 ∧ D i = .agg (xs.map (·.1)) ∧ ∀ (j : Nat) (t : TypeId), [3, 3, 3, 25][j]? = some t → DataW.trod enc Tryz.prog W 0 (fun _ => true) true nf t ((cs'.drop j).take 1) = xs[j]? := fun i hi => by
      obtain ⟨cs', h1, h2⟩ := hel i (by omega)
      obtain ⟨_, hlen, hc⟩ := World.cells?_some h1
      obtain ⟨xs, nf, _, hxe, _, hxl, hfl⟩ := DataW.trod_struct Tryz.underlying40 h2
      refine ⟨cs', hlen, hc, nf, xs, by simpa using hxl, congrArg Prod.fst hxe, fun j t ht => ?_⟩
      match j, ht with
      | 0, ht => cases ht; have h3 : DataW.trod enc Tryz.prog W 0 (fun _ => true) true nf 3 ((cs'.drop 0).take (Tryz.prog.cellsOf 3)) = xs[0]? := hfl 0 _ rfl; rw [cells3] at h3; exact h3
      | 1, ht => cases ht; have h3 : DataW.trod enc Tryz.prog W 0 (fun _ => true) true nf 3 ((cs'.drop 1).take (Tryz.prog.cellsOf 3)) = xs[1]? := hfl 1 _ rfl; rw [cells3] at h3; exact h3
      | 2, ht => cases ht; have h3 : DataW.trod enc Tryz.prog W 0 (fun _ => true) true nf 3 ((cs'.drop 2).take (Tryz.prog.cellsOf 3)) = xs[2]? := hfl 2 _ rfl; rw [cells3] at h3; exact h3
      | 3, ht => cases ht; have h3 : DataW.trod enc Tryz.prog W 0 (fun _ => true) true nf 25 ((cs'.drop 3).take (Tryz.prog.cellsOf 25)) = xs[3]? := hfl 3 _ rfl; rw [cellsBs] at h3; exact h3
    have hsp : 0 < len0 → a.spot = none := fun h0 => by
      obtain ⟨cs', hlen, hc, _⟩ := hq0 0 h0
      have := hc 0 (by omega)
      rw [List.getElem?_eq_getElem (by omega)] at this
      simpa [Addr.add] using World.cell?_spot this
    have hq : ∀ i, i < len0 → ∃ c : C5, ∃ b off, some a = some ⟨b, off, none⟩ ∧ W.cell? ⟨b, off + i * 4, none⟩ = some (.int .i64 c.k) ∧ W.cell? ⟨b, off + i * 4 + 1, none⟩ = some (.int .i64 c.n) ∧
        W.cell? ⟨b, off + i * 4 + 2, none⟩ = some (.int .i64 c.m) ∧ W.cell? ⟨b, off + i * 4 + 3, none⟩ = some (.slice c.a c.l.length c.cap) ∧ Bytes W c.a c.l ∧ c.l.length ≤ 140737488355328 := fun i hi => by
      obtain ⟨cs', hlen, hc, nf, xs, hxl, hDi, hfl⟩ := hq0 i hi
      have hs := hsp (by omega)
      obtain ⟨b, off, sp⟩ := a
      simp only at hs
      subst hs
      simp only [add_addr] at hc
      have get : ∀ j t, (ht : [3, 3, 3, 25][j]? = some t) → (hj : j < 4) → DataW.trod enc Tryz.prog W 0 (fun _ => true) true nf t [cs'[j]'(by omega)] = some (xs[j]'(by omega)) := fun j t ht hj => by
        have := hfl j t ht
        rw [drop_take1 (by omega), List.getElem?_eq_getElem (by omega)] at this
        exact this
      obtain ⟨k0, e0, _, _⟩ := DataW.trod_int Tryz.underlying3 (get 0 3 rfl (by omega))
      obtain ⟨k1, e1, _, _⟩ := DataW.trod_int Tryz.underlying3 (get 1 3 rfl (by omega))
      obtain ⟨k2, e2, _, _⟩ := DataW.trod_int Tryz.underlying3 (get 2 3 rfl (by omega))
      obtain ⟨pa, pc, pl, e3, hpl, hwt⟩ := trod_bytes2 (get 3 25 rfl (by omega))
      simp only [List.cons.injEq, and_true] at e0 e1 e2 e3
      have cell : ∀ j, (hj : j < 4) → W.cell? ⟨b, off + i * 4 + j, none⟩ = some (cs'[j]'(by omega)) := fun j hj => by rw [hc j hj, List.getElem?_eq_getElem (by omega)]
      refine ⟨⟨k0, k1, k2, pa, pl, pc⟩, b, off, rfl, ?_, ?_, ?_, ?_, hpl, hwt _ (fun n hn => hR n ?_)⟩
      · have := cell 0 (by omega); rw [Nat.add_zero] at this; rw [this, e0]
      · rw [cell 1 (by omega), e1]
      · rw [cell 2 (by omega), e2]
      · rw [cell 3 (by omega), e3]
      · have hd := congrArg Prod.fst hx
        simp only at hd
        rw [hd]
        simp only [DataW.weights, Tryz.underlying22, List.mem_cons, List.mem_append]
        refine Or.inr (Or.inl (weights_all (d := D i) (List.mem_map.2 ⟨i, List.mem_range.2 hi, rfl⟩) n ?_))
        rw [hDi]
        simp only [DataW.weights, Tryz.underlying40]
        exact DataW.weights_mem_each (j := 3) (t := 25) (d := (xs[3]'(by omega)).1) rfl (by rw [List.getElem?_map, List.getElem?_eq_getElem (by omega)]; rfl) n hn
    obtain ⟨f, hf2⟩ := choose_lt hq
    refine ⟨some a, cap0, (List.range len0).map f, by simp, fun i hi => ?_⟩
    have hi' : i < len0 := by simpa using hi
    have e : ((List.range len0).map f).getD i default = f i := by simp [List.getD, hi']
    rw [e]
    exact hf2 i hi'
end Go.Proofs.YtdjghkngiicncaaGreat
