/- InodeNeeds. -/
import Derived.Test.YtgcaidjppcjjeaaGreatDoorIcG
namespace Go.Proofs.YtgcaidjppcjjeaaGreatDoor
open Go.RowKit Go.Maps
set_option linter.unusedVariables false

def needF (at_ n : Int) : Int := if n ≤ 0 then 0 else (at_ % 512 + n - 1) / 512 + 8
set_option maxRecDepth 100000 in
set_option maxHeartbeats 1000000 in
theorem Need_any (w : World) (at_ n : Int) (h0 : 0 ≤ at_) (h1 : at_ < 18446744073709551616) (h2 : n ≤ 1152921504606846976) (h3 : -9223372036854775808 ≤ n) :
    Calls Tryz.prog 24 #[.int .u64 at_, n64 n] w fun e w' => e = .returned (n64 (needF at_ n)) ∧ w' = w := by
  unfold needF
  by_cases hn : n ≤ 0
  · rw [if_pos hn]
    go_enter Tryz.func24, Tryz.ntmps24
    go_wp2
    go_ret
    exact ⟨rfl, rfl⟩
  · rw [if_neg hn]
    obtain ⟨r, hr⟩ : ∃ r, r = at_ % 512 := ⟨_, rfl⟩
    have e0 : at_.tmod 512 = r := by rw [Int.tmod_eq_emod_of_nonneg h0, hr]
    have e0' : at_ % 512 = r := hr.symm
    have e1 : IntKind.u64.wrap n = n := by rw [IntKind.wrap_u64]; omega
    have e2 : IntKind.u64.wrap (r + n) = r + n := by rw [IntKind.wrap_u64]; omega
    have e3 : IntKind.u64.wrap (r + n - 1) = r + n - 1 := by rw [IntKind.wrap_u64]; omega
    obtain ⟨q, hq⟩ : ∃ q, q = (r + n - 1) / 512 := ⟨_, rfl⟩
    have e4 : (r + n - 1).tdiv 512 = q := by rw [Int.tdiv_eq_ediv_of_nonneg (by omega), hq]
    have e4' : (r + n - 1) / 512 = q := hq.symm
    have e5 : IntKind.i64.wrap q = q := IntWalk.i64_in _ (by omega)
    have e5' : IntKind.u64.wrap q = q := by rw [IntKind.wrap_u64]; omega
    have e6 : IntKind.i64.wrap (q + 1) = q + 1 := IntWalk.i64_in _ (by omega)
    have e7 : IntKind.i64.wrap (q + 1 + 7) = q + 8 := by rw [IntWalk.i64_in _ (by omega)]; omega
    have e8 : IntKind.u64.wrap r = r := by rw [IntKind.wrap_u64]; omega
    rw [e0', e4']
    have hn' : ¬ n ≤ 0 := hn
    clear hr hq
    go_enter Tryz.func24, Tryz.ntmps24
    go_wp2
    go_ret
    exact ⟨rfl, rfl⟩
set_option maxRecDepth 100000 in
set_option maxHeartbeats 1000000 in
theorem rNeed_any (w : World) (at_ n : Int) (h0 : 0 ≤ at_) (h1 : at_ ≤ 4611686018427387904) (h2 : n ≤ 1152921504606846976) (h3 : -9223372036854775808 ≤ n) :
    Calls Tryz.prog 25 #[.int .u64 at_, n64 n] w fun e w' => e = .returned (n64 (needF at_ n)) ∧ w' = w := by
  unfold needF
  by_cases hn : n ≤ 0
  · rw [if_pos hn]
    go_enter Tryz.func25, Tryz.ntmps25
    go_wp2
    go_ret
    exact ⟨rfl, rfl⟩
  · rw [if_neg hn]
    have e1 : IntKind.i64.wrap (n - 1) = n - 1 := IntWalk.i64_in _ (by omega)
    have e2 : IntKind.u64.wrap (n - 1) = n - 1 := by rw [IntKind.wrap_u64]; omega
    have e3 : IntKind.u64.wrap (at_ + (n - 1)) = at_ + (n - 1) := by rw [IntKind.wrap_u64]; omega
    obtain ⟨q, hq⟩ : ∃ q, q = (at_ + (n - 1)) / 512 := ⟨_, rfl⟩
    obtain ⟨p, hp⟩ : ∃ p, p = at_ / 512 := ⟨_, rfl⟩
    have e4 : (at_ + (n - 1)).tdiv 512 = q := by rw [Int.tdiv_eq_ediv_of_nonneg (by omega), hq]
    have e4' : (at_ + (n - 1)) / 512 = q := hq.symm
    have e5 : at_.tdiv 512 = p := by rw [Int.tdiv_eq_ediv_of_nonneg (by omega), hp]
    have e5' : at_ / 512 = p := hp.symm
    have e6 : IntKind.u64.wrap (q - p) = q - p := by rw [IntKind.wrap_u64]; omega
    have e7 : IntKind.i64.wrap (q - p) = q - p := IntWalk.i64_in _ (by omega)
    have e8 : IntKind.i64.wrap (q - p + 8) = q - p + 8 := IntWalk.i64_in _ (by omega)
    have e9 : IntKind.u64.wrap q = q := by rw [IntKind.wrap_u64]; omega
    have e10 : IntKind.u64.wrap p = p := by rw [IntKind.wrap_u64]; omega
    have HE : (at_ % 512 + n - 1) / 512 + 8 = q - p + 8 := by omega
    rw [HE]
    have hn' : ¬ n ≤ 0 := hn
    clear hq hp HE
    go_enter Tryz.func25, Tryz.ntmps25
    go_wp2
    go_ret
    exact ⟨rfl, rfl⟩
set_option maxRecDepth 100000 in
set_option maxHeartbeats 1000000 in
theorem InodeNeeds_walk (w : World) (hG : Gl w) (at_ n : Int) (h0 : 0 ≤ at_) (h1 : at_ < 18446744073709551616) (h3 : -9223372036854775808 ≤ n) :
    Calls Tryz.prog 4 #[.int .u64 at_, n64 n] w fun e w' => e = .returned (.bool true) ∧ Below w.heap.size w w' := by
  have HK := hid (known10 w hG)
  by_cases ha : 4611686018427387904 < at_
  · clear hG
    go_enter Tryz.func4, Tryz.ntmps4
    go_wp2_with fail
    refine HK.out.mono ?_
    rintro e w1 ⟨rfl, hb1⟩
    have HB := hid hb1
    clear hb1 HK
    go_wp2
    go_ret
    exact ⟨rfl, HB.out⟩
  · have ha2 : decide (4611686018427387904 < at_) = false := decide_eq_false ha
    by_cases hb : 1152921504606846976 < n
    · clear hG
      go_enter Tryz.func4, Tryz.ntmps4
      go_wp2_with fail
      refine HK.out.mono ?_
      rintro e w1 ⟨rfl, hb1⟩
      have HB := hid hb1
      clear hb1 HK
      go_wp2
      go_ret
      exact ⟨rfl, HB.out⟩
    · have hb2 : decide (1152921504606846976 < n) = false := decide_eq_false hb
      have HN := hid (fun W => Need_any W at_ n h0 h1 (by omega) h3)
      have HR := hid (fun W => rNeed_any W at_ n h0 (by omega) (by omega) h3)
      obtain ⟨X, hX⟩ : ∃ X, needF at_ n = X := ⟨_, rfl⟩
      rw [hX] at HN HR
      clear hG hX
      go_enter Tryz.func4, Tryz.ntmps4
      go_wp2_with fail
      refine HK.out.mono ?_
      rintro e w1 ⟨rfl, hb1⟩
      have HB := hid hb1
      clear hb1 HK
      go_wp2_with (first | (go_at_call 24; refine (HN.out _).mono ?_; rintro e w2 ⟨rfl, hw2⟩; rw [hw2]; clear hw2) | (go_at_call 25; refine (HR.out _).mono ?_; rintro e w3 ⟨rfl, hw3⟩; rw [hw3]; clear hw3))
      go_ret
      exact ⟨rfl, HB.out⟩
end Go.Proofs.YtgcaidjppcjjeaaGreatDoor
