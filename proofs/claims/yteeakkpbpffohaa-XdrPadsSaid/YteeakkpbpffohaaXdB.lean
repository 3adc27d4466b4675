/- Reading: numbers and truths of a row. -/
import Derived.Test.YteeakkpbpffohaaXdA
namespace Go.Proofs.Yteeakkpbpffohaa
open Go.RowKit Go.Maps
set_option linter.unusedVariables false

/-- What a call reads at a place: a value, an error, where it ends. -/
structure Rs (α : Type) where
  v : α
  e : Int
  k : Nat
def u32P (l : List Int) (k : Nat) : Rs Int := match numQ l k 4 with | none => ⟨0, 11, k⟩ | some v => ⟨v, 0, k + 4⟩
def u64P (l : List Int) (k : Nat) : Rs Int := match numQ l k 8 with | none => ⟨0, 11, k⟩ | some v => ⟨v, 0, k + 8⟩
def boolP (l : List Int) (k : Nat) : Rs Bool := match numQ l k 4 with | none => ⟨false, 11, k⟩ | some v => if 1 < v then ⟨false, 15, k⟩ else ⟨decide (v = 1), 0, k + 4⟩
section
variable {w : World} {X : Nat → Prop} {q : Nat} {a : Option Addr} {c : Nat} {l : List Int} {k : Nat}
set_option maxRecDepth 100000 in
set_option maxHeartbeats 1000000 in
theorem ru32_any (h : RQ w X q a c l k) (hk : k ≤ 900000) :
    Calls Try.prog 50 #[.pointer (some ⟨q, 0, none⟩)] w fun e w' => e = .returned (.tuple #[.int .u32 (u32P l k).v, .int .i64 (u32P l k).e]) ∧ RQ w' X q a c l (k + 4) ∧ Mods (fun b => b = q) w w' := by
  have HC := hid (rnumber_any h hk 4 (.inl rfl) 4 rfl)
  have hI := h.bytes.isB
  unfold u32P
  cases hq : numQ l k 4 with
  | none =>
    rw [hq] at HC
    simp only [Option.getD_none, Option.isSome_none, Bool.false_eq_true, if_false] at HC
    clear h hq hI
    go_enter Try.func50, Try.ntmps50
    go_wp2_with (go_at_call 61; refine HC.out.mono ?_; rintro e w2 ⟨rfl, hx, hm⟩; have HX := hid hx; have HM := hid hm; clear hx hm)
    go_ret2
    exact ⟨rfl, HX.out, HM.out⟩
  | some v =>
    have hv := numQ_bd hq hI
    rw [hq] at HC
    simp only [Option.getD_some, Option.isSome_some, if_true] at HC
    have hw32 : IntKind.u32.wrap v = v := IntWalk.u32_in _ (by omega)
    clear h hq hI hv
    go_enter Try.func50, Try.ntmps50
    go_wp2_with (go_at_call 61; refine HC.out.mono ?_; rintro e w2 ⟨rfl, hx, hm⟩; have HX := hid hx; have HM := hid hm; clear hx hm)
    go_ret2
    exact ⟨rfl, HX.out, HM.out⟩
set_option maxRecDepth 100000 in
set_option maxHeartbeats 1000000 in
theorem ru64_any (h : RQ w X q a c l k) (hk : k ≤ 900000) :
    Calls Try.prog 53 #[.pointer (some ⟨q, 0, none⟩)] w fun e w' => e = .returned (.tuple #[.int .u64 (u64P l k).v, .int .i64 (u64P l k).e]) ∧ RQ w' X q a c l (k + 8) ∧ Mods (fun b => b = q) w w' := by
  have HC := hid (rnumber_any h hk 8 (.inr rfl) 8 rfl)
  have he : (numQ l k 8).getD 0 = (u64P l k).v ∧ (if (numQ l k 8).isSome then (0 : Int) else 11) = (u64P l k).e := by
    unfold u64P
    cases hq : numQ l k 8 <;> simp
  rw [he.1, he.2] at HC
  generalize u64P l k = R at *
  clear h he
  go_enter Try.func53, Try.ntmps53
  go_wp2_with (go_at_call 61; refine HC.out.mono ?_; rintro e w2 ⟨rfl, hx, hm⟩; have HX := hid hx; have HM := hid hm; clear hx hm)
  go_ret2
  exact ⟨rfl, HX.out, HM.out⟩
set_option maxRecDepth 100000 in
set_option maxHeartbeats 4000000 in
theorem rboolean_any (h : RQ w X q a c l k) (hk : k ≤ 900000) :
    Calls Try.prog 55 #[.pointer (some ⟨q, 0, none⟩)] w fun e w' => e = .returned (.tuple #[.bool (boolP l k).v, .int .i64 (boolP l k).e]) ∧ RQ w' X q a c l (k + 4) ∧ Mods (fun b => b = q) w w' := by
  have HC := hid (rnumber_any h hk 4 (.inl rfl) 4 rfl)
  have hI := h.bytes.isB
  have HT := fun W => truth_any true W
  have HF := fun W => truth_any false W
  have HTT : Hid (∀ W, Calls Try.prog 42 #[.bool true] W fun e w' => e = .returned (.int .u64 1) ∧ w' = W) := hid (fun W => truth_any true W)
  have HFF : Hid (∀ W, Calls Try.prog 42 #[.bool false] W fun e w' => e = .returned (.int .u64 0) ∧ w' = W) := hid (fun W => truth_any false W)
  clear HT HF
  unfold boolP
  cases hq : numQ l k 4 with
  | none =>
    rw [hq] at HC
    simp only [Option.getD_none, Option.isSome_none, Bool.false_eq_true, if_false] at HC
    clear h hq hI
    go_enter Try.func55, Try.ntmps55
    go_wp2_with (go_at_call 61; refine HC.out.mono ?_; rintro e w2 ⟨rfl, hx, hm⟩; have HX := hid hx; have HM := hid hm; clear hx hm)
    go_ret2
    exact ⟨rfl, HX.out, HM.out⟩
  | some v =>
    have hv := numQ_bd hq hI
    rw [hq] at HC
    simp only [Option.getD_some, Option.isSome_some, if_true] at HC
    clear h hq hI
    by_cases h0 : v = 0
    · subst h0
      simp only [show ¬ ((1 : Int) < 0) by omega, if_false]
      go_enter Try.func55, Try.ntmps55
      go_wp2_with (first
        | (go_at_call 61; refine HC.out.mono ?_; rintro e w2 ⟨rfl, hx, hm⟩; have HX := hid hx; have HM := hid hm; clear hx hm HC)
        | (go_at_call 42; refine (HFF.out _).mono ?_; rintro e w3 ⟨rfl, hw3⟩; subst hw3)
        | (go_at_call 42; refine (HTT.out _).mono ?_; rintro e w3 ⟨rfl, hw3⟩; subst hw3))
      go_ret2
      exact ⟨rfl, HX.out, HM.out⟩
    · by_cases h1 : v = 1
      · subst h1
        simp only [show ¬ ((1 : Int) < 1) by omega, if_false]
        go_enter Try.func55, Try.ntmps55
        go_wp2_with (first
          | (go_at_call 61; refine HC.out.mono ?_; rintro e w2 ⟨rfl, hx, hm⟩; have HX := hid hx; have HM := hid hm; clear hx hm HC)
          | (go_at_call 42; refine (HFF.out _).mono ?_; rintro e w3 ⟨rfl, hw3⟩; subst hw3)
          | (go_at_call 42; refine (HTT.out _).mono ?_; rintro e w3 ⟨rfl, hw3⟩; subst hw3))
        go_ret2
        exact ⟨rfl, HX.out, HM.out⟩
      · have hgt : (1 : Int) < v := by omega
        simp only [hgt, if_true]
        have hn0 : (v != 0) = true := by simpa using h0
        have hn1 : (v != 1) = true := by simpa using h1
        go_enter Try.func55, Try.ntmps55
        go_wp2_with (first
          | (go_at_call 61; refine HC.out.mono ?_; rintro e w2 ⟨rfl, hx, hm⟩; have HX := hid hx; have HM := hid hm; clear hx hm HC)
          | (go_at_call 42; refine (HFF.out _).mono ?_; rintro e w3 ⟨rfl, hw3⟩; subst hw3)
          | (go_at_call 42; refine (HTT.out _).mono ?_; rintro e w3 ⟨rfl, hw3⟩; subst hw3))
        go_ret2
        exact ⟨rfl, HX.out, HM.out⟩
end
end Go.Proofs.Yteeakkpbpffohaa
