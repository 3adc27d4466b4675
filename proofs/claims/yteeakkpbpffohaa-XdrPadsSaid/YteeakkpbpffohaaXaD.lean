/- What the program's writer writes: rows of numbers. -/
import Derived.Test.YteeakkpbpffohaaXaC
namespace Go.Proofs.Yteeakkpbpffohaa
open Go.RowKit Go.Maps
set_option linter.unusedVariables false

/-- A row of numbers of four bytes in memory. -/
def U32s (w : World) (a : Option Addr) (l : List Int) : Prop :=
  ∀ i, i < l.length → ∃ b off, a = some ⟨b, off, none⟩ ∧ w.cell? ⟨b, off + i, none⟩ = some (.int .u32 (l.getD i 0)) ∧ IsU (l.getD i 0)
theorem U32s.isU {w : World} {a : Option Addr} {l : List Int} (h : U32s w a l) : ∀ x ∈ l, IsU x := by
  intro x hx
  obtain ⟨i, hi, rfl⟩ := List.getElem_of_mem hx
  obtain ⟨_, _, _, _, hb⟩ := h i hi
  simpa [List.getD, hi] using hb
theorem nuL_snoc (k : Nat) (vs : List Int) (i : Nat) (h : i < vs.length) : nuL k (vs.take (i + 1)) = nuL k (vs.take i) ++ bytesBe k (vs.getD i 0) := by
  have := outBe_snoc [] k vs i h
  simpa [outBe] using this
theorem nuL_one (k : Nat) (v : Int) : nuL k [v] = bytesBe k v := by simp
set_option maxRecDepth 100000 in
set_option maxHeartbeats 1000000 in
/-- One number. -/
theorem number1 {w : World} {p : Nat} {S : Nat → Prop} {l : List Int} (h : WX w 73 p S l) (k g cap : Nat) (v : Int) (hk : k = 4 ∨ k = 8) (hv : 0 ≤ v ∧ v < 256 ^ k) (hc : w.cell? ⟨g, 0, none⟩ = some (.int .u64 v)) (hl : l.length + 8 ≤ 900000) (K : Int) (hK : K = k) :
    Calls Try.prog 41 #[.pointer (some ⟨p, 0, none⟩), .int .i64 K, .slice (some ⟨g, 0, none⟩) 1 cap] w fun e w' => e = .returned (.tuple #[]) ∧ ∃ S', WX w' 73 p S' (l ++ bytesBe k v) ∧ Kp S w S' w' := by
  have h64 : v < 18446744073709551616 := by rcases hk with rfl | rfl <;> omega
  have := numbers_any h k 1 cap (some ⟨g, 0, none⟩) [v] rfl (by omega) hk (by simpa using hv) (fun i hi => by
    obtain rfl : i = 0 := by simp at hi; omega
    exact ⟨g, 0, rfl, hc, hv.1, h64⟩) (by omega) K hK
  rwa [nuL_one] at this
set_option maxRecDepth 100000 in
set_option maxHeartbeats 1000000 in
theorem WU64_any {w : World} {p : Nat} {S : Nat → Prop} {l : List Int} (h : WX w 73 p S l) (m cap : Nat) (a2 : Option Addr) (vs : List Int) (hm : vs.length = m) (hml : m ≤ 1000) (hw : Words w a2 vs) (hl : l.length + 8 * m ≤ 900000) :
    Calls Try.prog 19 #[.pointer (some ⟨p, 0, none⟩), .slice a2 m cap] w fun e w' => e = .returned (.tuple #[]) ∧ ∃ S', WX w' 73 p S' (l ++ nuL 8 vs) ∧ Kp S w S' w' := by
  have HC := hid (numbers_any h 8 m cap a2 vs hm hml (.inr rfl) (fun v hv => hw.isW v hv) hw hl 8 rfl)
  obtain ⟨v, h1, _, _⟩ := h.box
  have c0 := cell_of h1 (i := 0) (v := v) rfl
  generalize nuL 8 vs = N at *
  clear h h1 hw hm hl
  go_enter Try.func19, Try.ntmps19
  go_wp2_with (go_at_call 41; refine HC.out.mono ?_; rintro e w1 ⟨rfl, hx⟩; have HX := hid hx; clear hx)
  go_end0
  exact ⟨rfl, HX.out⟩
set_option maxRecDepth 100000 in
set_option maxHeartbeats 1000000 in
theorem WU32_any {w : World} {p : Nat} {S : Nat → Prop} {l : List Int} (h : WX w 73 p S l) (m cap : Nat) (a2 : Option Addr) (vs : List Int) (hm : vs.length = m) (hml : m ≤ 1000) (hw : ∀ W S2, Kp S w S2 W → U32s W a2 vs) (hl : l.length + 8 * m ≤ 800000) :
    Calls Try.prog 18 #[.pointer (some ⟨p, 0, none⟩), .slice a2 m cap] w fun e w' => e = .returned (.tuple #[]) ∧ ∃ S', WX w' 73 p S' (l ++ nuL 4 vs) ∧ Kp S w S' w' := by
  have HH := hid h
  have HW := hid hw
  have HM := hid hm
  have HL := hid hl
  clear h hw hm hl
  go_enter Try.func18, Try.ntmps18
  go_wp2
  go_loopw [8] (fun i wr => ∃ k : Nat, k ≤ m ∧ i = .int .i64 k ∧ ∃ S', WX wr 73 p S' (l ++ nuL 4 (vs.take k)) ∧ Kp S w S' wr) (fun i _ => m - (intOf i).toNat)
  case atStart => exact ⟨0, Nat.zero_le _, rfl, S, by simpa using HH.out, Kp.refl _ _⟩
  case round =>
    obtain ⟨k, hk, rfl, S1, hx, hkp⟩ := hrel
    by_cases hlt : k < m
    · have hkl : k < vs.length := by rw [HM.out]; exact hlt
      obtain ⟨b2, off2, rfl, hc, hu⟩ := HW.out wr S1 hkp k hkl
      have HO := hid (nuL_snoc 4 vs k hkl)
      have hlen : (l ++ nuL 4 (vs.take k)).length ≤ l.length + 4 * k := by rw [List.length_append, nuL_len, List.length_take]; have := Nat.min_le_left k vs.length; omega
      generalize vs.getD k 0 = x at *
      unfold IsU at hu
      obtain ⟨W1, hW1⟩ : ∃ W1, W1 = wr.alloc (.cells #[.int .u64 x] 31) := ⟨_, rfl⟩
      have hb1 : Below wr.heap.size wr W1 := by rw [hW1]; exact (Below.refl _ _).alloc (Nat.le_refl _) _
      have hc1 : W1.cell? ⟨wr.heap.size, 0, none⟩ = some (.int .u64 x) := by rw [hW1, new_cell _ _ _ _ 0 (by simp)]; rfl
      obtain ⟨vv, h1, _, _⟩ := hx.box
      have c0 := cell_of h1 (i := 0) (v := vv) rfl
      have HC := hid (number1 (hx.later hb1) 4 wr.heap.size 1 x (.inl rfl) ⟨hu.1, by simp; omega⟩ hc1 (by have := HL.out; omega) 4 rfl)
      have hw64 : IntKind.u64.wrap x = x := IntWalk.u64_in _ (by omega)
      have HKP := hid (hkp.trans (Kp.below hb1))
      clear hb1 hc1 hx hkp hlen h1
      have hWW := hW1.symm
      clear hW1
      go_wp2_with (go_at_call 41; (try rw [hWW]); refine HC.out.mono ?_; rintro e w2 ⟨rfl, S2, hx2, hk2⟩; have HX := hid hx2; have HK2 := hid (HKP.out.trans hk2); clear hx2 hk2)
      go_roundw
      case rel => exact ⟨k + 1, by omega, by go_num, S2, by rw [HO.out, ← List.append_assoc]; exact HX.out, HK2.out⟩
      case measure => simp [intOf]; omega
    · have HX := hid hx
      have HK2 := hid hkp
      clear hx hkp
      go_wp2
      go_end0
      have e : vs.take k = vs := List.take_of_length_le (by rw [HM.out]; omega)
      rw [e] at HX
      exact ⟨rfl, S1, HX.out, HK2.out⟩
end Go.Proofs.Yteeakkpbpffohaa
