/- What comes in: the window, the room, the end. -/
import Derived.Test.YtmmijbiapflneaaTaB
namespace Go.Proofs.Ytmmijbiapflneaa
open Go.RowKit Go.Maps
set_option linter.unusedVariables false

def ownW (c : Cn) : Int := 16384 - c.came.length
def roomC (c : Cn) : Int := if c.en then s32 c.en0 c.R else ownW c
def noteEndS (c : Cn) (e : Int) : Cn := if !c.en && decide (s32 e c.R ≤ ownW c) then { c with en := true, en0 := e } else c
section
variable {w : World} {p : Nat} {S : Nat → Prop} {c : Cn} {vc vm vw : Value}
theorem len_came (h : CnX w p S c vc vm vw) : ∃ a k, vc = .slice a c.came.length k := h.rc.shape
set_option maxRecDepth 100000 in
set_option maxHeartbeats 1000000 in
theorem ownWindow_any (h : CnX w p S c vc vm vw) (ho : c.came.length ≤ 16384) :
    Calls Try.prog 33 #[.pointer (some ⟨p, 0, none⟩)] w fun e w' => e = .returned (.int .i64 (ownW c)) ∧ w' = w := by
  obtain ⟨a, k, rfl⟩ := len_came h
  have p1 := cell_of h.box (i := 1) (v := .slice a c.came.length k) rfl
  have hl := ho
  obtain ⟨n, hn⟩ : ∃ n, c.came.length = n := ⟨_, rfl⟩
  have e : ownW c = 16384 - (n : Int) := by unfold ownW; rw [hn]
  rw [hn] at p1 hl
  rw [e]
  clear h ho e hn
  go_enter Try.func33, Try.ntmps33
  go_wp2
  go_ret
  first | exact ⟨rfl, rfl⟩ | (refine ⟨?_, rfl⟩; congr 2; omega)
set_option maxRecDepth 100000 in
set_option maxHeartbeats 1000000 in
theorem room_any (h : CnX w p S c vc vm vw) (ho : c.came.length ≤ 16384) :
    Calls Try.prog 54 #[.pointer (some ⟨p, 0, none⟩)] w fun e w' => e = .returned (.int .i64 (roomC c)) ∧ Below w.heap.size w w' := by
  have p0 := cell_of h.box (i := 0) (v := .int .u32 c.R) rfl
  have p3 := cell_of h.box (i := 3) (v := .bool c.en) rfl
  have p4 := cell_of h.box (i := 4) (v := .int .u32 c.en0) rfl
  have q1 := wrapU_sub c.en0 c.R
  have q2 := wrapI_u (s32_u c.en0 c.R)
  have HO := hid (ownWindow_any h ho)
  unfold roomC
  cases hen : c.en with
  | true =>
    rw [hen] at p3
    simp only [if_true]
    clear h ho HO hen
    go_enter Try.func54, Try.ntmps54
    go_wp2
    go_region
    go_wp2
    go_ret
    exact ⟨rfl, (Below.refl _ _).drew⟩
  | false =>
    rw [hen] at p3
    simp only [Bool.false_eq_true, if_false]
    clear h ho hen
    go_enter Try.func54, Try.ntmps54
    go_wp2_with (go_at_call 33; refine HO.out.mono ?_; rintro e w' ⟨rfl, rfl⟩)
    go_ret
    exact ⟨rfl, Below.refl _ _⟩
theorem cnC_end (c : Cn) (vc vm vw : Value) (e : Int) : (((cnC c vc vm vw).setIfInBounds 3 (.bool true)).setIfInBounds 4 (.int .u32 e)) = cnC { c with en := true, en0 := e } vc vm vw := by simp [cnC]
set_option maxRecDepth 100000 in
set_option maxHeartbeats 4000000 in
theorem noteEnd_any (h : CnX w p S c vc vm vw) (ho : c.came.length ≤ 16384) (e : Int) (he : IsU e) :
    Calls Try.prog 51 #[.pointer (some ⟨p, 0, none⟩), .int .u32 e] w fun r w' => r = .returned undef ∧ CnX w' p S (noteEndS c e) vc vm vw ∧ Mods (fun b => b = p) w w' := by
  have p0 := cell_of h.box (i := 0) (v := .int .u32 c.R) rfl
  have p3 := cell_of h.box (i := 3) (v := .bool c.en) rfl
  have p4 := cell_of h.box (i := 4) (v := .int .u32 c.en0) rfl
  have q1 := wrapU_sub e c.R
  have q2 := wrapI_u (s32_u e c.R)
  have HO := hid (ownWindow_any (w := w.drew) (h.later ((Below.refl _ _).drew)) ho)
  have HX := hid h
  have hf := fun i => froz_of h.box i
  unfold noteEndS
  cases hen : c.en with
  | true =>
    rw [hen] at p3
    simp only [Bool.not_true, Bool.false_and, Bool.false_eq_true, if_false]
    clear h ho HO hen hf
    go_enter Try.func51, Try.ntmps51
    go_wp2_with fail
    go_quiet (fail)
    go_wp2_with fail
    go_end0
    exact ⟨rfl, HX.out.later (below_drewN (Below.refl _ _) _), Mods.of_below (below_drewN (Below.refl _ _) _)⟩
  | false =>
    rw [hen] at p3
    simp only [Bool.not_false, Bool.true_and]
    by_cases hle : s32 e c.R ≤ ownW c
    · rw [if_pos (by simpa using hle)]
      have k3 := setc (w := w.drew) HX.out.box 3 (.bool true)
      have k4 := setc k3 4 (.int .u32 e)
      rw [cnC_end] at k4
      have m3 := (Mods.of_below (al := fun b => b = p) ((Below.refl _ w).drew)).setCell p 3 (.bool true) rfl
      have HM4 := hid (m3.setCell p 4 (.int .u32 e) rfl)
      have HK4 := hid k4
      clear h ho hen k3 k4 m3
      go_enter Try.func51, Try.ntmps51
      go_wp2_with fail
      go_region_held3 (fun w' => w'.cell? ⟨p, 3, none⟩ = some (.bool false) ∧ w'.cell? ⟨p, 0, none⟩ = some (.int .u32 c.R)) (exact ⟨p3, p0⟩)
        ((go_at_call 33; refine HO.out.mono ?_; rintro e w5 ⟨rfl, rfl⟩))
      go_wp2
      go_end0
      exact ⟨rfl, HX.out.turn HM4.out HK4.out rfl rfl rfl rfl rfl, HM4.out⟩
    · rw [if_neg (by simpa using hle)]
      clear h ho hen
      go_enter Try.func51, Try.ntmps51
      go_wp2_with fail
      go_region_held3 (fun w' => w'.cell? ⟨p, 3, none⟩ = some (.bool false) ∧ w'.cell? ⟨p, 0, none⟩ = some (.int .u32 c.R)) (exact ⟨p3, p0⟩)
        ((go_at_call 33; refine HO.out.mono ?_; rintro e w5 ⟨rfl, rfl⟩))
      go_wp2
      go_end0
      exact ⟨rfl, HX.out.later ((Below.refl _ _).drew), Mods.of_below ((Below.refl _ _).drew)⟩
end
end Go.Proofs.Ytmmijbiapflneaa
