/- A slice of calls that came in, opened. -/
import Derived.Test.YtjnhcbompgmknaaPlays
namespace Go.Proofs.Ytjnhcbompgmknaa
open Go.ChangeShapes Go.WideShapes Go.ChangeAt Go.RowKit Go.Deep

theorem cells4 : Try.prog.cellsOf 4 = 1 := by kernel_rfl
theorem cells28 : Try.prog.cellsOf 28 = 1 := by kernel_rfl
theorem cells51 : Try.prog.cellsOf 51 = 3 := by kernel_rfl
theorem cells30 : Try.prog.cellsOf 30 = 4 := by kernel_rfl
theorem is64_of {x : Int} (h : IsI x) : Is64 x := by
  have := bounds_i64 h
  unfold Is64
  omega
theorem drop_take1 {cs : List Value} {k : Nat} (hk : k < cs.length) : (cs.drop k).take 1 = [cs[k]] := by
  rw [List.drop_eq_getElem_cons hk]
  rfl

set_option maxRecDepth 100000 in
theorem trod_bufs {H : Type} {enc : TypeId × Value → H} {W : World} {fuel : Nat} {cs : List Value} {x : DataW H × List MemPlace}
    (h : DataW.trod enc Try.prog W 0 (fun _ => true) true fuel 28 cs = some x) : ∃ a cap l, cs = [.slice a l.length cap] ∧ CBufs W a l ∧ (a = none → cap = 0) ∧ ∀ b ∈ l, Is64 b.addr ∧ Is64 b.len := by
  rcases open_slice Try.underlying28 h with ⟨hcs, _⟩ | ⟨a, len, cap, m, n, D, Pl, hcs, _, hl, hm, hmm, hx, hel⟩
  · exact ⟨none, 0, [], hcs, fun i hi => by simp at hi, fun _ => rfl, fun b hb => by cases hb⟩
  · rw [cells51] at hel
    have hlm : len ≤ m := by rw [hmm]; split <;> omega
    have hq0 : ∀ i, i < len → ∃ cs' : List Value, cs'.length = 3 ∧ (∀ j, j < 3 → W.cell? ((a.add (i * 3)).add j) = cs'[j]?) ∧ ∃ nf, ∃ xs : List (DataW H × List MemPlace), xs.length = 3 ∧ ∀ (j : Nat) (t : TypeId), [3, 3, 4][j]? = some t → DataW.trod enc Try.prog W 0 (fun _ => true) true nf t ((cs'.drop j).take 1) = xs[j]? := fun i hi => by
      obtain ⟨cs', h1, h2⟩ := hel i (by omega)
      obtain ⟨_, hlen, hc⟩ := World.cells?_some h1
      obtain ⟨xs, nf, _, hxe, _, hxl, hfl⟩ := DataW.trod_struct Try.underlying51 h2
      refine ⟨cs', hlen, hc, nf, xs, by simpa using hxl, fun j t ht => ?_⟩
      match j, ht with
      | 0, ht => cases ht; have h3 : DataW.trod enc Try.prog W 0 (fun _ => true) true nf 3 ((cs'.drop 0).take (Try.prog.cellsOf 3)) = xs[0]? := hfl 0 _ rfl; rw [cells3] at h3; exact h3
      | 1, ht => cases ht; have h3 : DataW.trod enc Try.prog W 0 (fun _ => true) true nf 3 ((cs'.drop 1).take (Try.prog.cellsOf 3)) = xs[1]? := hfl 1 _ rfl; rw [cells3] at h3; exact h3
      | 2, ht => cases ht; have h3 : DataW.trod enc Try.prog W 0 (fun _ => true) true nf 4 ((cs'.drop 2).take (Try.prog.cellsOf 4)) = xs[2]? := hfl 2 _ rfl; rw [cells4] at h3; exact h3
    have hsp : 0 < len → a.spot = none := fun h0 => by
      obtain ⟨cs', hlen, hc, _⟩ := hq0 0 h0
      have := hc 0 (by omega)
      rw [List.getElem?_eq_getElem (by omega)] at this
      simpa [Addr.add] using World.cell?_spot this
    have hq : ∀ i, i < len → ∃ f : Bf, ∃ b off, some a = some ⟨b, off, none⟩ ∧ W.cell? ⟨b, off + i * 3, none⟩ = some (.int .i64 f.addr) ∧ W.cell? ⟨b, off + i * 3 + 1, none⟩ = some (.int .i64 f.len) ∧ W.cell? ⟨b, off + i * 3 + 2, none⟩ = some (.bool f.wt) ∧ Is64 f.addr ∧ Is64 f.len := fun i hi => by
      obtain ⟨cs', hlen, hc, nf, xs, hxl, hfl⟩ := hq0 i hi
      have hs := hsp (by omega)
      obtain ⟨b, off, sp⟩ := a
      simp only at hs
      subst hs
      simp only [add_addr] at hc
      have get : ∀ j t, (ht : [3, 3, 4][j]? = some t) → (hj : j < 3) → DataW.trod enc Try.prog W 0 (fun _ => true) true nf t [cs'[j]'(by omega)] = some (xs[j]'(by omega)) := fun j t ht hj => by
        have := hfl j t ht
        rw [drop_take1 (by omega), List.getElem?_eq_getElem (by omega)] at this
        exact this
      obtain ⟨k0, e0, _, w0⟩ := DataW.trod_int Try.underlying3 (get 0 3 rfl (by omega))
      obtain ⟨k1, e1, _, w1⟩ := DataW.trod_int Try.underlying3 (get 1 3 rfl (by omega))
      obtain ⟨k2, e2, _⟩ := DataW.trod_bool Try.underlying4 (get 2 4 rfl (by omega))
      simp only [List.cons.injEq, and_true] at e0 e1 e2
      have cell : ∀ j, (hj : j < 3) → W.cell? ⟨b, off + i * 3 + j, none⟩ = some (cs'[j]'(by omega)) := fun j hj => by rw [hc j hj, List.getElem?_eq_getElem (by omega)]
      refine ⟨⟨k0, k1, k2⟩, b, off, rfl, ?_, ?_, ?_, is64_of w0, is64_of w1⟩
      · have := cell 0 (by omega); rw [Nat.add_zero] at this; rw [this, e0]
      · rw [cell 1 (by omega), e1]
      · rw [cell 2 (by omega), e2]
    obtain ⟨f, hf2⟩ := choose_lt hq
    refine ⟨some a, cap, (List.range len).map f, by simpa using hcs, fun i hi => ?_, (fun e => by cases e), fun b hb => ?_⟩
    · have hi' : i < len := by simpa using hi
      have e : ((List.range len).map f).getD i default = f i := by simp [List.getD, hi']
      rw [e]
      obtain ⟨b, off, h1, h2, h3, h4, _⟩ := hf2 i hi'
      exact ⟨b, off, h1, h2, h3, h4⟩
    · obtain ⟨i, hi, rfl⟩ := List.mem_map.1 hb
      obtain ⟨_, _, _, _, _, _, h5, h6⟩ := hf2 i (List.mem_range.1 hi)
      exact ⟨h5, h6⟩

set_option maxRecDepth 100000 in
theorem open_calls {H : Type} {enc : TypeId × Value → H} {W : World} {base : Nat} {v : Value} {d : DataW H} {p : List MemPlace} (hval : Value.okWide Try.prog W .any base 22 v) (h : DataW.Trod enc Try.prog W 0 (fun _ => true) true 22 v d p) :
    ∃ a cap cs, v = .slice a cs.length cap ∧ ClAt W a cs ∧ True := by
  obtain ⟨a0, len0, cap0, rfl⟩ := okWide_slice Try.underlying22 hval
  obtain ⟨fuel, hf⟩ := h
  rcases open_slice Try.underlying22 hf with ⟨hcs, _⟩ | ⟨a, len, cap, m, n, D, Pl, hcs, _, hl, hm, hmm, hx, hel⟩
  · simp [Value.cells] at hcs
    obtain ⟨rfl, rfl, rfl⟩ := hcs
    exact ⟨none, 0, [], rfl, fun i hi => by simp at hi, trivial⟩
  · simp [Value.cells] at hcs
    obtain ⟨rfl, rfl, rfl⟩ := hcs
    rw [cells30] at hel
    have hlm : len0 ≤ m := by rw [hmm]; split <;> omega
    have hq0 : ∀ i, i < len0 → ∃ cs' : List Value, cs'.length = 4 ∧ (∀ j, j < 4 → W.cell? ((a.add (i * 4)).add j) = cs'[j]?) ∧ ∃ nf, ∃ xs : List (DataW H × List MemPlace), xs.length = 4 ∧ ∀ (j : Nat) (t : TypeId), [3, 3, 3, 28][j]? = some t → DataW.trod enc Try.prog W 0 (fun _ => true) true nf t ((cs'.drop j).take 1) = xs[j]? := fun i hi => by
      obtain ⟨cs', h1, h2⟩ := hel i (by omega)
      obtain ⟨_, hlen, hc⟩ := World.cells?_some h1
      obtain ⟨xs, nf, _, hxe, _, hxl, hfl⟩ := DataW.trod_struct Try.underlying30 h2
      refine ⟨cs', hlen, hc, nf, xs, by simpa using hxl, fun j t ht => ?_⟩
      match j, ht with
      | 0, ht => cases ht; have h3 : DataW.trod enc Try.prog W 0 (fun _ => true) true nf 3 ((cs'.drop 0).take (Try.prog.cellsOf 3)) = xs[0]? := hfl 0 _ rfl; rw [cells3] at h3; exact h3
      | 1, ht => cases ht; have h3 : DataW.trod enc Try.prog W 0 (fun _ => true) true nf 3 ((cs'.drop 1).take (Try.prog.cellsOf 3)) = xs[1]? := hfl 1 _ rfl; rw [cells3] at h3; exact h3
      | 2, ht => cases ht; have h3 : DataW.trod enc Try.prog W 0 (fun _ => true) true nf 3 ((cs'.drop 2).take (Try.prog.cellsOf 3)) = xs[2]? := hfl 2 _ rfl; rw [cells3] at h3; exact h3
      | 3, ht => cases ht; have h3 : DataW.trod enc Try.prog W 0 (fun _ => true) true nf 28 ((cs'.drop 3).take (Try.prog.cellsOf 28)) = xs[3]? := hfl 3 _ rfl; rw [cells28] at h3; exact h3
    have hsp : 0 < len0 → a.spot = none := fun h0 => by
      obtain ⟨cs', hlen, hc, _⟩ := hq0 0 h0
      have := hc 0 (by omega)
      rw [List.getElem?_eq_getElem (by omega)] at this
      simpa [Addr.add] using World.cell?_spot this
    have hq : ∀ i, i < len0 → ∃ c : Cl, ∃ b off, some a = some ⟨b, off, none⟩ ∧ W.cell? ⟨b, off + i * 4, none⟩ = some (.int .i64 c.kind) ∧ W.cell? ⟨b, off + i * 4 + 1, none⟩ = some (.int .i64 c.n) ∧
        W.cell? ⟨b, off + i * 4 + 2, none⟩ = some (.int .i64 c.m) ∧ W.cell? ⟨b, off + i * 4 + 3, none⟩ = some (.slice c.a c.l.length c.cap) ∧ ClOk W c := fun i hi => by
      obtain ⟨cs', hlen, hc, nf, xs, hxl, hfl⟩ := hq0 i hi
      have hs := hsp (by omega)
      obtain ⟨b, off, sp⟩ := a
      simp only at hs
      subst hs
      simp only [add_addr] at hc
      have get : ∀ j t, (ht : [3, 3, 3, 28][j]? = some t) → (hj : j < 4) → DataW.trod enc Try.prog W 0 (fun _ => true) true nf t [cs'[j]'(by omega)] = some (xs[j]'(by omega)) := fun j t ht hj => by
        have := hfl j t ht
        rw [drop_take1 (by omega), List.getElem?_eq_getElem (by omega)] at this
        exact this
      obtain ⟨k0, e0, _, w0⟩ := DataW.trod_int Try.underlying3 (get 0 3 rfl (by omega))
      obtain ⟨k1, e1, _, w1⟩ := DataW.trod_int Try.underlying3 (get 1 3 rfl (by omega))
      obtain ⟨k2, e2, _, w2⟩ := DataW.trod_int Try.underlying3 (get 2 3 rfl (by omega))
      obtain ⟨pa, pc, pl, e3, hpl, hnil, h64⟩ := trod_bufs (get 3 28 rfl (by omega))
      simp only [List.cons.injEq, and_true] at e0 e1 e2 e3
      have cell : ∀ j, (hj : j < 4) → W.cell? ⟨b, off + i * 4 + j, none⟩ = some (cs'[j]'(by omega)) := fun j hj => by rw [hc j hj, List.getElem?_eq_getElem (by omega)]
      refine ⟨⟨k0, k1, k2, pa, pl, pc⟩, b, off, rfl, ?_, ?_, ?_, ?_, is64_of w2, hpl, hnil, h64⟩
      · have := cell 0 (by omega); rw [Nat.add_zero] at this; rw [this, e0]
      · rw [cell 1 (by omega), e1]
      · rw [cell 2 (by omega), e2]
      · rw [cell 3 (by omega), e3]
    obtain ⟨f, hf2⟩ := choose_lt hq
    refine ⟨some a, cap0, (List.range len0).map f, by simp, fun i hi => ?_, trivial⟩
    have hi' : i < len0 := by simpa using hi
    have e : ((List.range len0).map f).getD i default = f i := by simp [List.getD, hi']
    rw [e]
    exact hf2 i hi'
end Go.Proofs.Ytjnhcbompgmknaa
