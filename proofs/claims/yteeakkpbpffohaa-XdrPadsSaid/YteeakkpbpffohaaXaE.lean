/- What the program's writer writes: truths; bytes and the noughts behind them. -/
import Derived.Test.YteeakkpbpffohaaXaD
namespace Go.Proofs.Yteeakkpbpffohaa
open Go.RowKit Go.Maps
set_option linter.unusedVariables false

/-- A row of truths in memory. -/
def Trus (w : World) (a : Option Addr) (l : List Bool) : Prop :=
  ∀ i, i < l.length → ∃ b off, a = some ⟨b, off, none⟩ ∧ w.cell? ⟨b, off + i, none⟩ = some (.bool (l.getD i false))
abbrev tnum (b : Bool) : Int := if b then 1 else 0
abbrev tnums (l : List Bool) : List Int := l.map tnum
theorem tnums_snoc (vs : List Bool) (i : Nat) (h : i < vs.length) : nuL 4 (tnums (vs.take (i + 1))) = nuL 4 (tnums (vs.take i)) ++ bytesBe 4 (tnum (vs.getD i false)) := by
  have h2 : i < (tnums vs).length := by simpa using h
  have e := nuL_snoc 4 (tnums vs) i h2
  have e2 : (tnums vs).getD i 0 = tnum (vs.getD i false) := by simp [List.getD, h]
  rw [e2] at e
  simpa using e
theorem tnum_bd (b : Bool) : 0 ≤ tnum b ∧ tnum b < 256 ^ 4 := by cases b <;> simp [tnum]
set_option maxRecDepth 100000 in
set_option maxHeartbeats 1000000 in
theorem WBool_any {w : World} {p : Nat} {S : Nat → Prop} {l : List Int} (h : WX w 73 p S l) (m cap : Nat) (a2 : Option Addr) (vs : List Bool) (hm : vs.length = m) (hml : m ≤ 1000) (hw : ∀ W S2, Kp S w S2 W → Trus W a2 vs) (hl : l.length + 8 * m ≤ 800000) :
    Calls Try.prog 20 #[.pointer (some ⟨p, 0, none⟩), .slice a2 m cap] w fun e w' => e = .returned (.tuple #[]) ∧ ∃ S', WX w' 73 p S' (l ++ nuL 4 (tnums vs)) ∧ Kp S w S' w' := by
  have HH := hid h
  have HW := hid hw
  have HM := hid hm
  have HL := hid hl
  clear h hw hm hl
  go_enter Try.func20, Try.ntmps20
  go_wp2
  go_loopw [8] (fun i wr => ∃ k : Nat, k ≤ m ∧ i = .int .i64 k ∧ ∃ S', WX wr 73 p S' (l ++ nuL 4 (tnums (vs.take k))) ∧ Kp S w S' wr) (fun i _ => m - (intOf i).toNat)
  case atStart => exact ⟨0, Nat.zero_le _, rfl, S, by simpa using HH.out, Kp.refl _ _⟩
  case round =>
    obtain ⟨k, hk, rfl, S1, hx, hkp⟩ := hrel
    by_cases hlt : k < m
    · have hkl : k < vs.length := by rw [HM.out]; exact hlt
      obtain ⟨b2, off2, rfl, hc⟩ := HW.out wr S1 hkp k hkl
      have HO := hid (tnums_snoc vs k hkl)
      have hlen : (l ++ nuL 4 (tnums (vs.take k))).length ≤ l.length + 4 * k := by rw [List.length_append, nuL_len, List.length_map, List.length_take]; have := Nat.min_le_left k vs.length; omega
      generalize vs.getD k false = x at *
      obtain ⟨vv, h1, _, _⟩ := hx.box
      have c0 := cell_of h1 (i := 0) (v := vv) rfl
      have HX1 := hid hx
      have HKP := hid hkp
      have HLEN := hid hlen
      clear hx hkp hlen h1
      go_upto_region 3 with fail
      try simp only [Act.put]
      refine wp_region_held_drew (S := (fun _ => True)) (by kernel_rfl) trivial (fun hS => ?_)
      obtain ⟨v0, hv0⟩ : ∃ W, W = wr.drew := ⟨_, rfl⟩
      rw [← hv0]
      have hX0 : WX v0 73 p S1 (l ++ nuL 4 (tnums (vs.take k))) := by rw [hv0]; exact HX1.out.later ((Below.refl _ _).drew)
      have hK0 : Kp S w S1 v0 := by rw [hv0]; exact HKP.out.trans (Kp.below ((Below.refl _ _).drew))
      clear hv0
      refine nany_take 0 12 (.pointer (some ⟨p, 0, none⟩)) rfl rfl (by kernel_rfl) (by kernel_rfl) (by kernel_rfl) (fun _ _ _ h => h) (Or.inl ⟨by rfl, ?_⟩) trivial ?_
      · rintro w' -
        go_simp
      simp only [List.setIfInBounds_toArray, List.set_cons_zero, List.set_cons_succ]
      refine nany_take 1 13 (.pointer (some ⟨p, 0, none⟩)) rfl rfl (by kernel_rfl) (by kernel_rfl) (by kernel_rfl) (fun _ _ _ h => h) (Or.inl ⟨by rfl, ?_⟩) trivial ?_
      · rintro w' -
        go_simp
      simp only [List.setIfInBounds_toArray, List.set_cons_zero, List.set_cons_succ]
      refine nany_take 2 14 (.pointer (some ⟨p, 0, none⟩)) rfl rfl (by kernel_rfl) (by kernel_rfl) (by kernel_rfl) (fun _ _ _ h => h) (Or.inl ⟨by rfl, ?_⟩) trivial ?_
      · rintro w' -
        go_simp
      simp only [List.setIfInBounds_toArray, List.set_cons_zero, List.set_cons_succ]
      refine nany_take 3 15 (.bool x) rfl rfl (by kernel_rfl) (by kernel_rfl) (by kernel_rfl) (fun _ _ _ h => h) (Or.inl ⟨by rfl, ?_⟩) trivial ?_
      · rintro w' -
        go_simp
      simp only [List.setIfInBounds_toArray, List.set_cons_zero, List.set_cons_succ]
      refine nany_one 4 (by kernel_rfl) ?_
      refine nop_callE 16 (f := 42) (args := #[.bool x]) (R := fun v w' => v = .int .u64 (tnum x) ∧ w' = v0) rfl (by rfl) rfl (by go_simp) ((truth_any x v0).mono (fun e w' h => ⟨_, h.1, rfl, h.2⟩)) ?_
      rintro v v5 ⟨rfl, hv5⟩
      subst hv5
      refine ⟨trivial, ?_⟩
      simp only [List.setIfInBounds_toArray, List.set_cons_zero, List.set_cons_succ]
      obtain ⟨W1, hW1⟩ : ∃ W, W = v5.alloc (.cells #[.int .u64 (tnum x)] 31) := ⟨_, rfl⟩
      have hb1 : Below v5.heap.size v5 W1 := by rw [hW1]; exact (Below.refl _ _).alloc (Nat.le_refl _) _
      have hc1 : W1.cell? ⟨v5.heap.size, 0, none⟩ = some (.int .u64 (tnum x)) := by rw [hW1, new_cell _ _ _ _ 0 (by simp)]; rfl
      have HC := hid (number1 (hX0.later hb1) 4 v5.heap.size 1 (tnum x) (.inl rfl) (tnum_bd x) hc1 (by have := HL.out; have := HLEN.out; omega) 4 rfl)
      have HKP1 := hid (hK0.trans (Kp.below hb1))
      refine nany_one 5 (by kernel_rfl) ?_
      refine nop_value' 17 (v := .slice (some ⟨v5.heap.size, 0, none⟩) 1 1) (w' := W1) rfl (by rfl) rfl (by rw [hW1]; go_simp) ?_
      refine ⟨trivial, ?_⟩
      simp only [List.setIfInBounds_toArray, List.set_cons_zero, List.set_cons_succ]
      refine nany_one 6 (by kernel_rfl) ?_
      refine nop_callE 18 (f := 41) (args := #[.pointer (some ⟨p, 0, none⟩), .int .i64 4, .slice (some ⟨v5.heap.size, 0, none⟩) 1 1]) (R := fun v w' => v = .tuple #[] ∧ ∃ S', WX w' 73 p S' (l ++ nuL 4 (tnums (vs.take k)) ++ bytesBe 4 (tnum x)) ∧ Kp S1 W1 S' w') rfl (by rfl) rfl (by go_simp) (HC.out.mono (fun e w' h => ⟨_, h.1, rfl, h.2⟩)) ?_
      rintro v v6 ⟨rfl, S2, hx2, hk2⟩
      have HX := hid hx2
      have HK2 := hid (HKP1.out.trans hk2)
      clear hx2 hk2 hb1 hc1 hW1 hX0 hK0
      refine ⟨trivial, ?_⟩
      simp only [List.setIfInBounds_toArray, List.set_cons_zero, List.set_cons_succ]
      refine wpAnyH_done (by kernel_rfl) ?_ _
      go_wp2
      go_roundw
      case rel => exact ⟨k + 1, by omega, by go_num, S2, by rw [HO.out, ← List.append_assoc]; exact HX.out, HK2.out⟩
      case measure => simp [intOf]; omega
    · have HX := hid hx
      have HK2 := hid hkp
      clear hx hkp
      go_wp2
      go_end0
      have e : vs.take k = vs := List.take_of_length_le (by rw [HM.out]; omega)
      rw [e] at HX
      exact ⟨rfl, S1, HX.out, HK2.out⟩
end Go.Proofs.Yteeakkpbpffohaa
