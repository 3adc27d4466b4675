/- sameInts; rows that are no whole blocks; what Write refuses, on both disks. -/
import Derived.Test.YtdbpjdaaggenpaaRefJ
namespace Go.Proofs.Ytdbpjdaaggenpaa
open Go.RowKit Go.Shelf

theorem drewN_below {B : Nat} {a w : World} (h : Below B a w) (n : Nat) : Below B a (w.drewN n) := ⟨h.os, h.tape, h.output, h.size, h.block⟩

set_option maxRecDepth 100000 in
set_option maxHeartbeats 1000000 in
theorem sameInts_any (w : World) (a b : Option Addr) (ca cb : Nat) (l : List Int) (ha : Ints w a l) (hb : Ints w b l) (hl : l.length ≤ maxLen) :
    Calls Try.prog 25 #[.slice a l.length ca, .slice b l.length cb] w fun e w' => e = .returned (.bool true) ∧ Below w.heap.size w w' := by
  have HA := hid ha
  have HB := hid hb
  have hl2 : (l.length : Int) ≤ 9223372036854775807 := by unfold maxLen at hl; omega
  clear ha hb
  go_enter Try.func25, Try.ntmps25
  go_wp2_with fail
  go_loopw [5] (fun i wr => ∃ k : Nat, k ≤ l.length ∧ i = .int .i64 k ∧ Below w.heap.size w wr) (fun i _ => l.length - (RowKit.intOf i).toNat)
  case atStart => exact ⟨0, Nat.zero_le _, rfl, Below.refl _ _⟩
  case round =>
    obtain ⟨k, hk, rfl, hbe⟩ := hrel
    by_cases hlt : k < l.length
    · have hki : (k : Int) < l.length := by omega
      obtain ⟨b1, o1, e1, h1, _⟩ := HA.out k hlt
      obtain ⟨b2, o2, e2, h2, _⟩ := HB.out k hlt
      subst e1
      subst e2
      have h1' := cell_later hbe h1
      have h2' := cell_later hbe h2
      have HBe := hid hbe
      clear hbe h1 h2
      go_wp2_with fail
      go_quiet (fail)
      go_wp2
      go_roundw
      case rel => exact ⟨k + 1, by omega, by go_num, drewN_below HBe.out _⟩
      case measure => simp [RowKit.intOf]; omega
    · have hki : ¬ ((k : Int) < l.length) := by omega
      have HBe := hid hbe
      clear hbe
      go_wp2
      go_ret
      exact ⟨rfl, HBe.out⟩

set_option maxRecDepth 100000 in
set_option maxHeartbeats 400000 in
theorem row_neg (b : Int) (n : Int) (hn : n < 0) (w : World) :
    Calls Try.prog 15 #[.int .u8 b, .int .i64 n] w fun e w' => e = .returned (.slice (some ⟨w.heap.size, 0, none⟩) 100 100) ∧ Below w.heap.size w w' ∧ Blk w' w.heap.size 100 := by
  have hmk := run_make_row' (P := Try.prog) 42 5 (.int .u8 0) 1 Try.underlying42 info5 rfl .i64 .i64 100 (by omega) (by omega)
  rw [show ((100 : Nat) : Int) = 100 by omega] at hmk
  go_enter Try.func15, Try.ntmps15
  go_wp2
  go_ret
  exact ⟨rfl, (Below.refl _ _).alloc (Nat.le_refl _) _, madeCells #[.int .u8 0] 100, (MapKept.heap_alloc w _).1, size_madeCells _ _⟩

set_option maxHeartbeats 400000 in
theorem RWrite_size (w : World) (px : Nat) (x : Int) (a : Option Addr) (M cap : Nat) (hM : M = 0 ∨ M = 100) :
    Calls Try.prog 22 #[.pointer (some ⟨px, 0, none⟩), .int .i64 x, .slice a M cap] w fun e w' => e = .returned (.int .i64 14) ∧ w' = w := by
  rcases hM with rfl | rfl
  · go_enter Try.func22, Try.ntmps22
    go_wp2
    go_ret
    exact ⟨rfl, rfl⟩
  · go_enter Try.func22, Try.ntmps22
    go_wp2
    go_ret
    exact ⟨rfl, rfl⟩

set_option maxHeartbeats 1000000 in
theorem RWrite_arg (w : World) (px : Nat) (A : Abs) (n : Nat) (al : Nat → Prop) (hd : RDisk w px A n al) (x : Int) (a : Option Addr) (m M cap : Nat) (hM : M = 512 * m) (hm1 : 1 ≤ m) (hm : m ≤ 65536) (hh : hasB A.N x m = false) :
    Calls Try.prog 22 #[.pointer (some ⟨px, 0, none⟩), .int .i64 x, .slice a M cap] w fun e w' => e = .returned (.int .i64 1) ∧ w' = w := by
  obtain ⟨vL, es, d, hel, hvl⟩ := hd
  have hc0 : w.cell? ⟨px, 0, none⟩ = some (.int .i64 A.N) := by simp [World.cell?, d.box]
  have hN := d.hN
  have g5 : ¬ ((m : Int) = 0) := by omega
  have hr1 : (M : Int).tmod 512 = 0 := by rw [hM, Int.tmod_eq_emod_of_nonneg (by omega)]; omega
  have hr2 : (M : Int).tdiv 512 = (m : Int) := by rw [hM, Int.tdiv_eq_ediv_of_nonneg (by omega)]; omega
  clear d hM
  by_cases h2 : x < 0
  · go_enter Try.func22, Try.ntmps22
    go_wp2
    go_ret
    exact ⟨rfl, rfl⟩
  · by_cases h3 : A.N ≤ x
    · go_enter Try.func22, Try.ntmps22
      go_wp2
      go_ret
      exact ⟨rfl, rfl⟩
    · have ew : IntKind.i64.wrap (A.N - x) = A.N - x := IntWalk.i64_in _ (by omega)
      have h4 : A.N - x < (m : Int) := by unfold hasB at hh; simp at hh; omega
      go_enter Try.func22, Try.ntmps22
      go_wp2
      go_ret
      exact ⟨rfl, rfl⟩

attribute [local go_sem] Oper.semAt_some

set_option maxRecDepth 100000 in
set_option maxHeartbeats 1000000 in
theorem Write_size (w : World) (pd : Nat) (x : Int) (a : Option Addr) (M cap : Nat) (hM : M = 0 ∨ M = 100) :
    Calls Try.prog 14 #[.pointer (some ⟨pd, 0, none⟩), .int .i64 x, .slice a M cap] w fun e w' => e = .returned (.int .i64 14) ∧ Below w.heap.size w w' := by
  have hb0 : Below w.heap.size w ((w.alloc (.cells #[.pointer (some ⟨pd, 0, none⟩)] 24)).alloc (.cells #[.int .i64 x] 3)) := ((Below.refl _ w).alloc (Nat.le_refl _) _).alloc (by simp) _
  rcases hM with rfl | rfl
  · refine (callsIn_wide (n := 6)).1 ?_
    refine callsIn_of_wp_marks Try.func14 rfl trivial ?_ rfl
    simp only [Try.ntmps14, List.size_toArray, List.length_cons, List.length_nil, Nat.reduceAdd, Nat.reduceSub, Array.replicate_succ, Array.replicate_zero, List.push_toArray, List.append_toArray, List.nil_append, List.cons_append]
    gi_wp2
    refine ⟨_, results_tmp rfl _ _ _, ?_⟩
    exact ⟨rfl, hb0⟩
  · refine (callsIn_wide (n := 6)).1 ?_
    refine callsIn_of_wp_marks Try.func14 rfl trivial ?_ rfl
    simp only [Try.ntmps14, List.size_toArray, List.length_cons, List.length_nil, Nat.reduceAdd, Nat.reduceSub, Array.replicate_succ, Array.replicate_zero, List.push_toArray, List.append_toArray, List.nil_append, List.cons_append]
    gi_wp2
    refine ⟨_, results_tmp rfl _ _ _, ?_⟩
    exact ⟨rfl, hb0⟩

set_option maxRecDepth 100000 in
set_option maxHeartbeats 1000000 in
theorem Write_arg (w : World) (pd : Nat) (A : Abs) (n : Nat) (al : Nat → Prop) (hd : Disk w pd A n al) (x : Int) (a : Option Addr) (m M cap : Nat) (hM : M = 512 * m) (hm1 : 1 ≤ m) (hm : m ≤ 65536) (hh : hasB A.N x m = false) :
    Calls Try.prog 14 #[.pointer (some ⟨pd, 0, none⟩), .int .i64 x, .slice a M cap] w fun e w' => e = .returned (.int .i64 1) ∧ Below w.heap.size w w' := by
  have hc0 := hd.cell0
  have hN : 1 ≤ A.N ∧ A.N ≤ 65536 := let ⟨_, _, _, _, d⟩ := hd; d.hN
  have hr1 : (M : Int).tmod 512 = 0 := by rw [hM, Int.tmod_eq_emod_of_nonneg (by omega)]; omega
  have hr2 : (M : Int).tdiv 512 = (m : Int) := by rw [hM, Int.tdiv_eq_ediv_of_nonneg (by omega)]; omega
  have hr0 : ¬ ((M : Int) = 0) := by omega
  have hr0' : ¬ (M = 0) := by omega
  have hb0 : Below w.heap.size w ((w.alloc (.cells #[.pointer (some ⟨pd, 0, none⟩)] 24)).alloc (.cells #[.int .i64 x] 3)) := ((Below.refl _ w).alloc (Nat.le_refl _) _).alloc (by simp) _
  have hc0' := cell_later hb0 hc0
  have h32 : Fence.wide.fn 32 := trivial
  have HB0 := hid hb0
  clear hM hd hc0 hb0
  refine (callsIn_wide (n := 6)).1 ?_
  refine callsIn_of_wp_marks Try.func14 rfl trivial ?_ rfl
  simp only [Try.ntmps14, List.size_toArray, List.length_cons, List.length_nil, Nat.reduceAdd, Nat.reduceSub, Array.replicate_succ, Array.replicate_zero, List.push_toArray, List.append_toArray, List.nil_append, List.cons_append]
  gi_wp2_with (gi_at_call 32; refine (callsIn_wide.2 (hasAll_any _ pd A.N x m hc0' hN (by omega))).mono ?_; rw [hh]; rintro e w2 ⟨rfl, hw⟩; rw [hw]; clear hw w2)
  refine ⟨_, results_tmp rfl _ _ _, ?_⟩
  exact ⟨rfl, HB0.out⟩
end Go.Proofs.Ytdbpjdaaggenpaa
