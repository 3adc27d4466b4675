/- The document's own readers of numbers (Be, Le of the reference) at this program. -/
import Derived.Test.YtbfdkbdjipiliaaDoorWaA
namespace Go.Proofs.YtbfdkbdjipiliaaDoor
open Go.RowKit
set_option linter.unusedVariables false
set_option maxHeartbeats 400000 in
theorem size_any (n : Int) (w : World) : Calls Tryd.prog 34 #[.int .i64 n] w fun e w' => e = .returned (.bool (widB n)) ∧ w' = w := by
  go_enter Tryd.func34, Tryd.ntmps34
  go_wp2
  all_goals
    go_ret
    refine ⟨ret_bool ?_, rfl⟩
    first | (subst n; rfl) | rfl
theorem shl_or8 (v x : Int) (h0 : 0 ≤ v) (h1 : v < 72057594037927936) (hx : IsB x) : bits .or .u64 (v * 256) x = v * 256 + x := by
  unfold IsB at hx
  exact or_u64 8 _ x (by decide) (by omega) (by omega) (by omega) (by omega) (by omega)
theorem pow7 (k : Nat) (h : k ≤ 7) : (256 : Int) ^ k ≤ 72057594037927936 := by
  rcases (show k = 0 ∨ k = 1 ∨ k = 2 ∨ k = 3 ∨ k = 4 ∨ k = 5 ∨ k = 6 ∨ k = 7 by omega) with rfl | rfl | rfl | rfl | rfl | rfl | rfl | rfl <;> decide
set_option maxHeartbeats 400000 in
theorem refBe_any (a : Option Addr) (cap : Nat) (l : List Int) (at_ n : Int) (w : World) (hl : l.length ≤ maxLen) (h : Bytes w a l) :
    Calls Tryd.prog 18 #[.slice a l.length cap, .int .i64 at_, .int .i64 n] w fun e w' => e = .returned (.tuple #[.int .u64 (rdBe l at_ n), .int .i64 (rdErr l.length at_ n)]) ∧ w' = w := by
  unfold maxLen at hl
  cases hn : widB n
  · obtain ⟨e1, _, e2⟩ := rd_no l at_ n hn
    rw [e1, e2]
    clear e1 e2
    have HN : Hid _ := hn
    clear hn
    go_enter Tryd.func18, Tryd.ntmps18
    go_wp2_with fail
    refine (size_any _ _).mono ?_
    rintro e w' ⟨rfl, rfl⟩
    rw [HN.out]
    go_wp2
    go_ret2
    exact ⟨rfl, rfl⟩
  have hb : 1 ≤ n ∧ n ≤ 8 := by rcases widB_cases hn with e | e | e | e <;> omega
  cases hi : insB l.length at_ n
  · obtain ⟨e1, _, e2⟩ := rd_out l at_ n hn hi
    rw [e1, e2]
    simp [insB] at hi
    clear e1 e2
    have HN : Hid _ := hn
    clear hn
    have hi2 : at_ < 0 ∨ (0 ≤ at_ ∧ (l.length : Int) < at_) ∨ (0 ≤ at_ ∧ at_ ≤ l.length ∧ (l.length : Int) - at_ < n) := by
      by_cases h0 : 0 ≤ at_
      · have := hi h0; omega
      · omega
    clear hi
    rcases hi2 with h1 | ⟨h1, h2⟩ | ⟨h1, h2, h3⟩
    · go_enter Tryd.func18, Tryd.ntmps18
      go_wp2_with fail
      refine (size_any _ _).mono ?_
      rintro e w' ⟨rfl, rfl⟩
      rw [HN.out]
      go_wp2
      go_ret2
      exact ⟨rfl, rfl⟩
    · go_enter Tryd.func18, Tryd.ntmps18
      go_wp2_with fail
      refine (size_any _ _).mono ?_
      rintro e w' ⟨rfl, rfl⟩
      rw [HN.out]
      go_wp2
      go_ret2
      exact ⟨rfl, rfl⟩
    · go_enter Tryd.func18, Tryd.ntmps18
      go_wp2_with fail
      refine (size_any _ _).mono ?_
      rintro e w' ⟨rfl, rfl⟩
      rw [HN.out]
      go_wp2
      go_ret2
      exact ⟨rfl, rfl⟩
  · obtain ⟨e1, _, e2⟩ := rd_yes l at_ n hn hi
    rw [e1, e2]
    clear e1 e2
    simp [insB] at hi
    obtain ⟨p, rfl⟩ := Int.eq_ofNat_of_zero_le hi.1
    obtain ⟨m, rfl⟩ := Int.eq_ofNat_of_zero_le (show 0 ≤ n by omega)
    obtain ⟨b, off, rfl, _⟩ := h.open_ (by omega)
    have hcut := h.cut p m
    have hlen : ((l.drop p).take m).length = m := by simp; omega
    have HN : Hid _ := hn
    obtain ⟨len, hlen2⟩ : ∃ len, l.length = len := ⟨_, rfl⟩
    rw [hlen2] at hl hi ⊢
    simp only [cutOf, Int.toNat_natCast]
    generalize (l.drop p).take m = c at *
    have HL : Hid _ := hlen
    clear hlen hn h hlen2
    have g1 : ¬ ((p : Int) < 0) := by omega
    have g2 : ¬ ((len : Int) < p) := by omega
    have g3 : ¬ ((len : Int) - p < m) := by omega
    go_enter Tryd.func18, Tryd.ntmps18
    go_wp2_with fail
    refine (size_any _ _).mono ?_
    rintro e w' ⟨rfl, rfl⟩
    rw [HN.out]
    go_wp2
    go_loop [8, 9] (fun v i => ∃ k : Nat, k ≤ m ∧ i = .int .i64 k ∧ v = .int .u64 (beOf (c.take k))) (fun _ i => m - (intOf i).toNat)
    case atStart => exact ⟨0, Nat.zero_le _, rfl, rfl⟩
    case round =>
      obtain ⟨k, hk, rfl, rfl⟩ := hrel
      have hI := hcut.isB
      have hbd := beOf_bd (c.take k) (fun x hx => hI x (List.mem_of_mem_take hx))
      have hlk : (c.take k).length = k := by rw [List.length_take, HL.out]; omega
      rw [hlk] at hbd
      by_cases hlt : k < m
      · have hp7 := pow7 k (by omega)
        have hcell := hcut.at_ k (by rw [HL.out]; exact hlt)
        have hx := mem_getD c IsB hI k (by rw [HL.out]; exact hlt)
        have hsn := beOf_snoc c k (by rw [HL.out]; exact hlt)
        have hor := shl_or8 (beOf (c.take k)) (c.getD k 0) hbd.1 (by omega) hx
        generalize c.getD k 0 = x at *
        have HS : Hid _ := hsn.trans hor.symm
        have hv1 : beOf (c.take k) < 72057594037927936 := by omega
        have hv0 := hbd.1
        unfold IsB at hx
        rw [Nat.add_assoc] at hcell
        clear hsn hor hbd hp7 hlk hI
        generalize beOf (c.take k) = v at *
        go_wp2
        go_round
        case rel => exact ⟨k + 1, by omega, by go_num, by rw [HS.out]⟩
        case measure => simp [intOf]; omega
      · go_wp2
        go_ret2
        have : k = m := by omega
        subst this
        refine ⟨?_, rfl⟩
        rw [List.take_of_length_le (by rw [HL.out]; omega)]
        rfl
theorem turn_bd (V : Int) (n : Nat) : 0 ≤ turnAbout V 0 n ∧ turnAbout V 0 n < 256 ^ n := by
  induction n with
  | zero => simp [turnAbout]
  | succ n ih =>
    rw [turnAbout_snoc, Int.pow_succ]
    omega
theorem and255 (v : Int) (h0 : 0 ≤ v) (h1 : v < 18446744073709551616) : bits .and .u64 v 255 = v % 256 := by
  rw [u64_and v 255 h0 h1 (by decide) (by decide)]
  have : v.toNat &&& (255 : Int).toNat = v.toNat % 256 := nat_mask8 _
  rw [this]
  omega
theorem refLe_step (u v : Int) (hu0 : 0 ≤ u) (hu1 : u < 72057594037927936) (h0 : 0 ≤ v) (h1 : v < 18446744073709551616) : bits .or .u64 (u * 256) (bits .and .u64 v 255) = u * 256 + v % 256 := by
  rw [and255 v h0 h1]
  exact shl_or8 u _ hu0 hu1 ⟨by omega, by omega⟩

end Go.Proofs.YtbfdkbdjipiliaaDoor
