/- Write and Truncate of an inode that has nothing, on a new volume. -/
import Derived.Test.YtnifdbameoilnaaGreatDoorIfE
import Derived.Test.YtnifdbameoilnaaGreatDoorIfB
import Derived.Test.YtnifdbameoilnaaGreatDoorIfX
namespace Go.Proofs.YtnifdbameoilnaaGreatDoor
open Go.RowKit Go.Maps
set_option linter.unusedVariables false
variable {w w' : World} {pv n N : Nat} {S S' T : Nat → Prop} {i : Int} {base : Value} {P P' : Int → Option (List Int)} {bc c c' : Nat → List Int}
/-- An inode that has a size alone. -/
def sizC (sz : Int) : Array Value := rawC 0 0 0 (fun j => if j = 3 then sz else 0) (fun _ => 0)
theorem sizC_0 : sizC 0 = #[.int .i64 0, .int .i64 0, .int .i64 0, .int .u32 0, .int .u32 0, .int .u32 0, .int .u64 0, .int .u64 0, .int .u32 0, .int .u32 0, .int .u32 0, .int .u32 0, .int .u32 0, .int .u32 0, .int .i64 0, .int .i64 0, .int .i64 0, .int .i64 0, .int .i64 0, .int .i64 0, .int .i64 0, .int .i64 0, .int .i64 0] := rfl
theorem sizC_is (sz : Int) : InoIs (sizC sz) sz (fun _ => 0) := ⟨rfl, rfl, fun j hj => by
  rcases (show j = 0 ∨ j = 1 ∨ j = 2 ∨ j = 3 ∨ j = 4 ∨ j = 5 ∨ j = 6 ∨ j = 7 ∨ j = 8 by omega) with rfl | rfl | rfl | rfl | rfl | rfl | rfl | rfl | rfl <;> rfl, by simp [sizC, rawC, Value.oneCell']⟩
theorem sizC_to {X' : Array Value} {sz : Int} (h : InoTo (sizC 0) X' sz (fun _ => 0)) : X' = sizC sz := by
  apply Array.ext_getElem?
  intro k
  by_cases h1 : k < 14
  · by_cases h6 : k = 6
    · subst h6; exact h.is_.len
    · rw [h.rest k h1 h6]
      rcases (show k = 0 ∨ k = 1 ∨ k = 2 ∨ k = 3 ∨ k = 4 ∨ k = 5 ∨ k = 7 ∨ k = 8 ∨ k = 9 ∨ k = 10 ∨ k = 11 ∨ k = 12 ∨ k = 13 by omega) with rfl | rfl | rfl | rfl | rfl | rfl | rfl | rfl | rfl | rfl | rfl | rfl | rfl <;> rfl
  · by_cases h2 : k < 23
    · obtain ⟨q, rfl⟩ : ∃ q, k = 14 + q := ⟨k - 14, by omega⟩
      rw [h.is_.ptr q (by omega)]
      rcases (show q = 0 ∨ q = 1 ∨ q = 2 ∨ q = 3 ∨ q = 4 ∨ q = 5 ∨ q = 6 ∨ q = 7 ∨ q = 8 by omega) with rfl | rfl | rfl | rfl | rfl | rfl | rfl | rfl | rfl <;> rfl
    · rw [Array.getElem?_eq_none (by rw [h.is_.sz]; omega), Array.getElem?_eq_none (by show 23 ≤ k; omega)]
theorem sizC_eq (sz : Int) (w : World) : (binOp .eql 32 (.agg (sizC sz)) (.agg (sizC sz))).run Tryz.prog w = .ok (.bool true) w := eqRaw _ _ _ _ _ w
theorem sizC_ne (sz : Int) (w : World) : (binOp .neq 32 (.agg (sizC sz)) (.agg (sizC sz))).run Tryz.prog w = .ok (.bool false) w := by
  have h := sizC_eq sz w
  rw [run_eql_struct] at h
  rw [run_neq_struct]
  cases hr : (Op.equalIn 10000 32 (.agg (sizC sz)) (.agg (sizC sz))).run Tryz.prog w with
  | ok b w1 =>
    rw [hr] at h
    simp only [Result.andThen_ok, Result.ok.injEq, Value.bool.injEq] at h ⊢
    obtain ⟨h1, h2⟩ := h
    subst h1
    exact ⟨rfl, h2⟩
  | halt x w1 => rw [hr] at h; cases h
theorem Puts0 (h : Dw w pv S N i base T bc n P c) (hn : n = 0) : Calls Tryz.prog 10 #[ptrV pv] w fun e w' => ∃ a cp, e = .returned (.slice a 0 cp) ∧ Below w.heap.size w w' := by
  subst hn
  refine (Puts_any h.v (by decide)).mono ?_
  rintro e w' ⟨v, M, L, rfl, _, hL, hPO, hML, hb⟩
  obtain ⟨a4, c4, rfl, _, _⟩ := hPO.ps
  have hM : M.length = 0 := by
    have := congrArg List.length hML
    rw [List.length_map, List.length_map] at this
    omega
  rw [hM]
  exact ⟨a4, c4, rfl, hb⟩
theorem plan400 : PlanOk ((400 : Nat) : Int) 8 := PlanOk.of (by decide)
theorem planD400 : planD ((400 : Nat) : Int) 8 = ((72 : Nat) : Int) := by decide
theorem bits400 : (fun k : Nat => decide ((k : Int) ≤ planD ((400 : Nat) : Int) 8) || decide (((400 : Nat) : Int) ≤ (k : Int))) = FTN 400 73 := by
  funext k
  rw [planD400]
  unfold FTN
  congr 1
  · exact decide_eq_decide.2 (by omega)
  · exact decide_eq_decide.2 (by omega)
theorem tr400 (c : Nat → List Int) : Tr 400 72 c (fun _ => 0) 73 (fun _ => 0) := ⟨by decide, fun _ _ => .inl rfl, fun _ _ _ h => by omega⟩
/-- What Write comes to. -/
def WrO (at_ len : Nat) (X' : Array Value) (ev : Value) (n' : Nat) : Prop :=
  (8192 < len ∧ X' = sizC 0 ∧ ev = .iface 46 (.int .i64 1) ∧ n' = 0) ∨
  (len ≤ 8192 ∧ 1082199040 < at_ + len ∧ X' = sizC 0 ∧ ev = .iface 46 (.int .i64 5) ∧ n' = 0) ∨
  (len ≤ 8192 ∧ at_ + len ≤ 1082199040 ∧ len = 0 ∧ X' = sizC 0 ∧ ev = .nilIface ∧ n' ≤ 1000) ∨
  (len ≤ 8192 ∧ at_ + len ≤ 1082199040 ∧ 0 < len ∧ X'.size = 23 ∧ X'.all (·.oneCell') = true ∧ X'[6]? = some (.int .u64 ((at_ + len : Nat) : Int)) ∧ ev = .nilIface ∧ n' ≤ 1000)
theorem Write_all (hD : Dw w pv S 400 8 base T bc 0 (fun _ => none) bc) (hG : Gl w) (hF : bc 69 = bitB (FTN 400 73)) (at_ : Nat) (hat : at_ < 18446744073709551616) (l : List Int) (a : Option Addr) (len cp : Nat) (hl : l.length = len) (hlc : len ≤ cp) (hy : By w (fun _ => True) a l) :
    Calls Tryz.prog 7 #[ptrV pv, .agg (sizC 0), .int .u64 at_, .slice a len cp] w fun e w' => ∃ X' ev S' n' P' c', e = .returned (.tuple #[.agg X', ev]) ∧ WrO at_ len X' ev n' ∧ Dw w' pv S' 400 8 base T bc n' P' c' ∧ Kp S w S' w' := by
  by_cases h1 : 8192 < len
  · refine (Write_arg w (sizC 0) at_ (by omega) a len cp h1).mono ?_
    rintro e w' ⟨rfl, hb⟩
    exact ⟨_, _, S, 0, _, bc, rfl, .inl ⟨h1, rfl, rfl, rfl⟩, hD.later hb, Kp.below hb⟩
  · by_cases h2 : 1082199040 < at_ + len
    · by_cases h3 : 1082199040 < at_
      · refine (Write_long1 w (sizC 0) at_ (by omega) a len cp (by omega) (by omega)).mono ?_
        rintro e w' ⟨rfl, hb⟩
        exact ⟨_, _, S, 0, _, bc, rfl, .inr (.inl ⟨by omega, h2, rfl, rfl, rfl⟩), hD.later hb, Kp.below hb⟩
      · refine (Write_long2 w (sizC 0) at_ (by omega) a len cp (by omega) (by omega) (by omega)).mono ?_
        rintro e w' ⟨rfl, hb⟩
        exact ⟨_, _, S, 0, _, bc, rfl, .inr (.inl ⟨by omega, h2, rfl, rfl, rfl⟩), hD.later hb, Kp.below hb⟩
    · by_cases h3 : len = 0
      · refine (Write_nil hD (by decide) (sizC 0) (sizC_is 0) at_ (by omega) (by omega) a cp len h3).mono ?_
        rintro e w' ⟨X', rfl, hto, S', n', P', hd, hn, hk⟩
        exact ⟨X', _, S', n', P', bc, rfl, .inr (.inr (.inl ⟨by omega, by omega, h3, sizC_to hto, rfl, by omega⟩)), hd, hk⟩
      · obtain ⟨c', ptr', x', lv', q, hw, _, _, hq⟩ := Tr.write (N := 400) (D := 72) 17 at_ l bc (fun _ => 0) 73 (fun _ => 0) (tr400 bc) (fun _ => by omega) (by decide)
        refine (Write_ok hD hG (by decide) (sizC 0) 0 (fun _ => 0) (sizC_is 0) (by decide) (by decide) 72 planD400 (FTN 400 73) hF at_ l a len cp hl (by omega) (by omega) hlc hy (by omega) q (by omega) _ ptr' hw).mono ?_
        rintro e w' ⟨X', rfl, hto, S', n', P', hd, hn, hk⟩
        refine ⟨X', _, S', n', P', c', rfl, .inr (.inr (.inr ⟨by omega, by omega, by omega, hto.is_.sz, hto.is_.one, ?_, rfl, by omega⟩)), hd, hk⟩
        rw [hto.is_.len, show max (0 : Int) ((at_ + len : Nat) : Int) = ((at_ + len : Nat) : Int) by omega]
/-- What Truncate comes to. -/
def TrO (sz : Int) (Y : Array Value) (ev : Value) : Prop :=
  (1082199040 < sz ∧ Y = sizC 0 ∧ ev = .iface 46 (.int .i64 5)) ∨ (sz ≤ 1082199040 ∧ Y = sizC sz ∧ ev = .nilIface)
theorem Truncate_all (hD : Dw w pv S N i base T bc n P c) (hn : n ≤ 1000) (sz : Int) (h0 : 0 ≤ sz) :
    Calls Tryz.prog 8 #[ptrV pv, .agg (sizC 0), .int .u64 sz] w fun e w' => ∃ Y ev S' n' P', e = .returned (.tuple #[.agg Y, ev]) ∧ TrO sz Y ev ∧ Dw w' pv S' N i base T bc n' P' c ∧ n' ≤ n ∧ Kp S w S' w' := by
  by_cases h : 1082199040 < sz
  · refine (Truncate_long w (sizC 0) rfl sz h).mono ?_
    rintro e w' ⟨rfl, hb⟩
    exact ⟨_, _, S, n, P, rfl, .inl ⟨h, rfl, rfl⟩, hD.later hb, Nat.le_refl _, Kp.below hb⟩
  · refine (Truncate_ok0 hD (by omega) (sizC 0) (sizC_is 0) sz h0 (by omega)).mono ?_
    rintro e w' ⟨X', rfl, hto, S', n', P', hd, hn', hk⟩
    exact ⟨X', _, S', n', P', rfl, .inr ⟨by omega, sizC_to hto, rfl⟩, hd, hn', hk⟩
end Go.Proofs.YtnifdbameoilnaaGreatDoor
