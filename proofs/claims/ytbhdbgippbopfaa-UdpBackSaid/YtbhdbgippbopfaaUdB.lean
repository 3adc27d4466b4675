/- The law's known, within, same; boxes of datagrams. -/
import Derived.Test.YtbhdbgippbopfaaUdA
namespace Go.Proofs.Ytbhdbgippbopfaa
open Go.RowKit Go.Maps
set_option linter.unusedVariables false
/-- A number modulo n, from 0 on. -/
def wi (at_ n : Int) : Int := if at_.tmod n < 0 then at_.tmod n + n else at_.tmod n
theorem wi_bd (at_ n : Int) (h : 0 < n) : 0 ≤ wi at_ n ∧ wi at_ n < n := by
  unfold wi
  have h1 := Int.tmod_lt_of_pos at_ h
  have h2 : -n < at_.tmod n := by
    rcases Int.lt_or_le at_ 0 with h3 | h3
    · have h4 := Int.neg_tmod (-at_) n
      rw [Int.neg_neg] at h4
      rw [h4]
      have := Int.tmod_lt_of_pos (-at_) h
      omega
    · have := Int.tmod_nonneg n h3
      omega
  split <;> omega
theorem wrap_wi {x n : Int} (h0 : 0 < n) (hn : n < 1099511627776) (h : x.tmod n < 0) : IntKind.i64.wrap (x.tmod n + n) = x.tmod n + n := by
  have h1 := wi_bd x n h0
  unfold wi at h1
  rw [if_pos h] at h1
  exact IntWalk.i64_in _ (by omega)
set_option maxHeartbeats 400000 in
theorem lwithin_any (x n : Int) (h0 : 0 < n) (hn : n < 1099511627776) (w : World) : Calls Try.prog 12 #[.int .i64 x, .int .i64 n] w fun e w' => e = .returned (.int .i64 (wi x n)) ∧ w' = w := by
  have hne : ¬ (n = 0) := by omega
  have hne' : n ≠ 0 := by omega
  by_cases h : x.tmod n < 0
  · have hw := wrap_wi h0 hn h
    have e : wi x n = x.tmod n + n := by unfold wi; rw [if_pos h]
    rw [e]
    go_enter Try.func12, Try.ntmps12
    go_wp2
    go_ret
    exact ⟨rfl, rfl⟩
  · have e : wi x n = x.tmod n := by unfold wi; rw [if_neg h]
    rw [e]
    go_enter Try.func12, Try.ntmps12
    go_wp2
    go_ret
    exact ⟨rfl, rfl⟩
theorem boxF (w : World) (M : Array Value) (hs : M.size = 3) : ∃ W5, W5 = w.alloc (.cells (dgC 0 0 (.slice none 0 0)) 25) ∧ W5.heap[w.heap.size]? = some (.cells (dgC 0 0 (.slice none 0 0)) 25 (0, 0)) ∧ ∃ W6, W6 = W5.setRow w.heap.size M ∧ W6.heap[w.heap.size]? = some (.cells M 25 (0, 0)) ∧ Below w.heap.size w W6 := by
  obtain ⟨W5, h5, k5, b5⟩ := boxP w (dgC 0 0 (.slice none 0 0)) 25
  refine ⟨W5, h5, k5, _, rfl, setRow_heap _ _ _ _ _ _ k5, (setRow_mods _ _ _).to_below b5 b5.size (fun x hx => by omega)⟩
theorem known_str : strOfNums [2, 188, 8, 1, 0, 9] = ⟨#[2, 188, 8, 1, 0, 9]⟩ := by kernel_rfl
set_option maxRecDepth 100000 in
set_option maxHeartbeats 2000000 in
theorem known_any (w : World) : Calls Try.prog 6 #[] w fun e w' => e = .returned (.bool true) ∧ Below w.heap.size w w' := by
  obtain ⟨W1, hW1, b1⟩ := newW w (.cells #[.int .u8 1] 5)
  have hy1 : By W1 (New w) (some ⟨w.heap.size, 0, none⟩) [1] := by rw [hW1]; exact by_const w [1] (0, 0) (fun z hz => by simp at hz; subst hz; unfold IsB; omega)
  have hWr := Write_any W1 1 2 700 2049 (some ⟨w.heap.size, 0, none⟩) 1 1 [1] (by unfold IsU; omega) (by unfold IsU; omega) (by unfold II; omega) (by unfold II; omega) rfl (by omega) hy1.bytes
  have he : wrE 700 2049 1 = 0 := by decide
  have hw : wrL 1 2 700 2049 [1] = dgL 1 2 700 2049 [1] := by unfold wrL; rw [show ([1] : List Int).length = 1 by rfl, he, if_pos rfl]
  obtain ⟨D, hD⟩ : ∃ D, D = dgL 1 2 700 2049 [1] := ⟨_, rfl⟩
  have hDl : D.length = 9 := by rw [hD, dgL_len]; rfl
  have hD6 : D.take 6 = [2, 188, 8, 1, 0, 9] := by rw [hD, dgL_list]; simp
  rw [he, hw, ← hD, hDl] at hWr
  have HWR := hid hWr
  have HDL := hid hDl
  have HD6 := hid hD6
  have HB1 := hid b1
  have HW := hW1.symm
  have hks := known_str
  clear hWr he hw hD hDl hD6 b1 hW1 hy1
  go_enter Try.func6, Try.ntmps6
  go_upto_region 2 with (go_at_call 9; refine HWR.out.mono ?_; rintro e w2 ⟨a2, c2, rfl, hg2, hb2⟩; have HG2 := hid hg2; have HB2 := hid (HB1.out.trans (hb2.mono HB1.out.size)); clear hg2 hb2 HWR)
  obtain ⟨x3, y3, e3, hc3, hy3⟩ := HG2.out.by_ (S := fun _ => True) (fun _ _ => trivial)
  rw [HDL.out] at e3
  simp only [Value.slice.injEq, true_and] at e3
  obtain ⟨rfl, rfl⟩ := e3
  rw [HDL.out] at hc3
  obtain ⟨a6, hcut6, hcb6⟩ := cut_h a2 9 c2 6 (by omega) hc3
  have hcut6' : ∀ W : World, (Instr.slice 23 (.slice a2 9 c2) none (some (.int .i64 6)) none).run Try.prog W = .ok (.slice a6 6 c2) W := hcut6
  have h6 := hcb6 w2 D HDL.out hy3.bytes
  rw [HD6.out] at h6
  have cv := conv0 (cap := c2) h6 (k := 6) rfl
  rw [hks] at cv
  clear hks HW hcut6 hcb6 h6 hc3 hy3 HG2 HD6 HDL
  go_wp2
  go_ret
  exact ⟨rfl, HB2.out⟩
set_option maxRecDepth 100000 in
set_option maxHeartbeats 4000000 in
theorem same_eq (w : World) (f t : Int) (a b : Option Addr) (n c e : Nat) (l : List Int) (hl : l.length = n) (ha : Bytes w a l) (hb : Bytes w b l) :
    Calls Try.prog 11 #[.agg (dgC f t (.slice a n c)), .agg (dgC f t (.slice b n e))] w fun r w' => r = .returned (.bool true) ∧ Below w.heap.size w w' := by
  obtain ⟨W1, hW1, h1, b1⟩ := boxP w (dgC f t (.slice a n c)) 25
  obtain ⟨g1, hg1⟩ : ∃ g, w.heap.size = g := ⟨_, rfl⟩
  obtain ⟨W2, hW2, h22, b12⟩ := boxP W1 (dgC f t (.slice b n e)) 30
  obtain ⟨g2, hg2⟩ : ∃ g, W1.heap.size = g := ⟨_, rfl⟩
  have h21 := (b12.block _ (Array.getElem?_eq_some_iff.1 h1).1).trans h1
  have hB2 := b1.trans (b12.mono b1.size)
  rw [hg1] at h21
  rw [hg2] at h22
  have ca := conv0 (cap := c) (ha.later hB2) hl
  have cb := conv0 (cap := e) (hb.later hB2) hl
  have p0 := cell_of h21 (i := 0) (v := .int .i64 f) rfl
  have p1 := cell_of h21 (i := 1) (v := .int .i64 t) rfl
  have p2 := cell_of h21 (i := 2) (v := .slice a n c) rfl
  have r0 := cell_of h22 (i := 0) (v := .int .i64 f) rfl
  have r1 := cell_of h22 (i := 1) (v := .int .i64 t) rfl
  have r2 := cell_of h22 (i := 2) (v := .slice b n e) rfl
  generalize strOfNums l = sl at *
  have HB2 := hid hB2
  have HW := hW1.symm
  have HV := hW2.symm
  clear hW1 hW2 b1 h1 b12 h22 h21 hB2 ha hb hl
  go_enter Try.func11, Try.ntmps11
  go_wp2
  go_ret
  first | exact ⟨rfl, HB2.out⟩ | (refine ⟨?_, HB2.out⟩; simp)
end Go.Proofs.Ytbhdbgippbopfaa
