/- The clock: whether it goes, and when it is time. -/
import Derived.Test.YtmmijbiapflneaaTdA
namespace Go.Proofs.Ytmmijbiapflneaa
open Go.RowKit Go.Maps
set_option linter.unusedVariables false
section
variable {w : World} {p : Nat} {S : Nat → Prop} {c : Cn} {vc vm vw : Value}
def timeC (c : Cn) (n : Int) : Bool := decide (200 * 2 ^ c.tr.toNat - c.ck ≤ n)
set_option maxRecDepth 100000 in
set_option maxHeartbeats 1000000 in
theorem awaitsAnswer_any (h : CnX w p S c vc vm vw) :
    Calls Try.prog 34 #[.pointer (some ⟨p, 5, none⟩)] w fun e w' => e = .returned (.bool (awaitsB c)) ∧ w' = w.drew := by
  obtain ⟨a, k, rfl⟩ := len_waits h
  have p5 := cell_of h.box (i := 5) (v := .int .u32 c.U) rfl
  have p6 := cell_of h.box (i := 6) (v := .int .u32 c.N) rfl
  have p7 := cell_of h.box (i := 7) (v := .slice a c.waits.length k) rfl
  have p8 := cell_of h.box (i := 8) (v := .int .i64 c.W) rfl
  unfold awaitsB
  obtain ⟨n, hn⟩ : ∃ n, c.waits.length = n := ⟨_, rfl⟩
  rw [hn] at p7
  by_cases h1 : c.U = c.N
  · have h2 : (c.U == c.N) = true := by simp [h1]
    have h2' : (c.U != c.N) = false := by simp [h1]
    rw [h2]
    by_cases h3 : n = 0
    · have h4 : c.waits.isEmpty = true := by rw [List.isEmpty_iff]; exact List.eq_nil_of_length_eq_zero (hn.trans h3)
      rw [h4]
      subst h3
      clear h h1 h2 h4 hn
      go_enter Try.func34, Try.ntmps34
      go_wp2
      go_region
      go_wp2
      go_ret
      exact ⟨rfl, rfl⟩
    · have h4 : c.waits.isEmpty = false := by
        cases hw : c.waits with
        | nil => rw [hw] at hn; simp at hn; omega
        | cons x l => rfl
      rw [h4]
      have h5 : 0 < n := by omega
      clear h h1 h2 h4 hn h3
      go_enter Try.func34, Try.ntmps34
      go_wp2
      go_region
      go_wp2
      go_ret
      refine ⟨?_, rfl⟩
      by_cases hw : c.W = 0 <;> simp [hw]
  · have h2 : (c.U == c.N) = false := by simp [h1]
    have h2' : (c.U != c.N) = true := by simp [h1]
    rw [h2]
    clear h h1 h2 hn
    go_enter Try.func34, Try.ntmps34
    go_wp2
    go_region
    go_wp2
    go_ret
    exact ⟨rfl, rfl⟩
def tickedC (c : Cn) (n : Int) : Cn := if timeC c n then c else { c with ck := c.ck + max n 0 }
theorem shl200 (t : Int) (h0 : 0 ≤ t) (h5 : t ≤ 5) (W : World) : (Op.shift BinOp.shl IntKind.i64 200 IntKind.i64 t).run Try.prog W = .ok (.int .i64 (200 * 2 ^ t.toNat)) W := by
  obtain rfl | rfl | rfl | rfl | rfl | rfl : t = 0 ∨ t = 1 ∨ t = 2 ∨ t = 3 ∨ t = 4 ∨ t = 5 := by omega
  all_goals kernel_rfl
theorem pow_le (t : Int) (h0 : 0 ≤ t) (h5 : t ≤ 5) : (200 * 2 ^ t.toNat : Int) ≤ 6400 ∧ (200 : Int) ≤ 200 * 2 ^ t.toNat := by
  obtain rfl | rfl | rfl | rfl | rfl | rfl : t = 0 ∨ t = 1 ∨ t = 2 ∨ t = 3 ∨ t = 4 ∨ t = 5 := by omega
  all_goals decide
theorem cnC_ck (c : Cn) (vc vm vw : Value) (e : Int) : (cnC c vc vm vw).setIfInBounds 10 (.int .i64 e) = cnC { c with ck := e } vc vm vw := by simp [cnC]
set_option maxRecDepth 100000 in
set_option maxHeartbeats 1000000 in
theorem isTime_any (h : CnX w p S c vc vm vw) (htr : 0 ≤ c.tr ∧ c.tr ≤ 5) (hck : 0 ≤ c.ck ∧ c.ck ≤ 6400) (n : Int) (hn : II n) :
    Calls Try.prog 35 #[.pointer (some ⟨p, 5, none⟩), .int .i64 n] w fun e w' => e = .returned (.bool (timeC c n)) ∧ CnX w' p S (tickedC c n) vc vm vw ∧ Mods (fun b => b = p) w w' := by
  have p10 := cell_of h.box (i := 10) (v := .int .i64 c.ck) rfl
  have p11 := cell_of h.box (i := 11) (v := .int .i64 c.tr) rfl
  have hs := shl200 c.tr htr.1 htr.2
  have hp := pow_le c.tr htr.1 htr.2
  unfold tickedC timeC
  obtain ⟨P, hP⟩ : ∃ P : Int, (200 * 2 ^ c.tr.toNat : Int) = P := ⟨_, rfl⟩
  rw [hP] at hs hp ⊢
  unfold II at hn
  have hsub : IntKind.i64.wrap (P - c.ck) = P - c.ck := IntWalk.i64_in _ (by omega)
  have HX := hid h
  have HM := hid (Mods.refl (fun b => b = p) w)
  by_cases hle : P - c.ck ≤ n
  · have hd : (decide (P - c.ck ≤ n)) = true := by simpa using hle
    rw [hd]
    simp only [if_true]
    clear h htr hP hck hp hn
    go_enter Try.func35, Try.ntmps35
    go_wp2
    go_region
    go_wp2
    go_ret
    exact ⟨rfl, HX.out.later ((Below.refl _ _).drew), HM.out.drew⟩
  · have hd : (decide (P - c.ck ≤ n)) = false := by simpa using hle
    rw [hd]
    simp only [Bool.false_eq_true, if_false]
    obtain ⟨m, hm⟩ : ∃ m, max n 0 = m := ⟨_, rfl⟩
    have hmx : ∀ ats ty W, (Builtin.max_ ats ty #[.int .i64 n, .int .i64 0]).run Try.prog W = .ok (.int .i64 m) W := fun ats ty W => by rw [max_run, hm]
    have hadd : IntKind.i64.wrap (c.ck + m) = c.ck + m := IntWalk.i64_in _ (by omega)
    rw [hm]
    have f10 := froz_of h.box 10
    have k3 := setc (w := w.drew) h.box 10 (.int .i64 (c.ck + m))
    rw [cnC_ck] at k3
    have HK := hid k3
    have HM2 := hid ((Mods.of_below (al := fun b => b = p) ((Below.refl _ w).drew)).setCell p 10 (.int .i64 (c.ck + m)) rfl)
    clear h htr hP hck hp hn hm k3
    go_enter Try.func35, Try.ntmps35
    go_wp2
    go_region
    go_wp2
    go_ret
    exact ⟨rfl, HX.out.turn HM2.out HK.out rfl rfl rfl rfl rfl, HM2.out⟩
end
end Go.Proofs.Ytmmijbiapflneaa
