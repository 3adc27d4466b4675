/- What the laws of records do besides. -/
import Derived.Test.YtbfdkbdjipiliaaDoorYpI
namespace Go.Proofs.YtbfdkbdjipiliaaDoor
open Go.RowKit Go.Maps
set_option linter.unusedVariables false

def wi (at_ n : Int) : Int := if at_.tmod n < 0 then at_.tmod n + n else at_.tmod n
theorem wi_bd (at_ n : Int) (h : 0 < n) : 0 ≤ wi at_ n ∧ wi at_ n < n := by
  unfold wi
  have h1 := Int.tmod_lt_of_pos at_ h
  have h2 : -n < at_.tmod n := by
    rcases Int.lt_or_le at_ 0 with h3 | h3
    · have h4 := Int.neg_tmod (-at_) n
      rw [Int.neg_neg] at h4
      rw [h4]
      have := Int.tmod_lt_of_pos (-at_) h
      omega
    · have := Int.tmod_nonneg n h3
      omega
  split <;> omega
theorem wrap_wi {x n : Int} (h0 : 0 < n) (hn : n < 1099511627776) (h : x.tmod n < 0) : IntKind.i64.wrap (x.tmod n + n) = x.tmod n + n := by
  have h1 := wi_bd x n h0
  unfold wi at h1
  rw [if_pos h] at h1
  exact IntWalk.i64_in _ (by omega)
set_option maxHeartbeats 400000 in
theorem within17 (x n : Int) (h0 : 0 < n) (hn : n < 1099511627776) (w : World) : Calls Tryd.prog 11 #[.int .i64 x, .int .i64 n] w fun e w' => e = .returned (.int .i64 (wi x n)) ∧ w' = w := by
  have hne : ¬ (n = 0) := by omega
  have hne' : n ≠ 0 := by omega
  by_cases h : x.tmod n < 0
  · have hw := wrap_wi h0 hn h
    have e : wi x n = x.tmod n + n := by unfold wi; rw [if_pos h]
    rw [e]
    go_enter Tryd.func11, Tryd.ntmps11
    go_wp2
    go_ret
    exact ⟨rfl, rfl⟩
  · have e : wi x n = x.tmod n := by unfold wi; rw [if_neg h]
    rw [e]
    go_enter Tryd.func11, Tryd.ntmps11
    go_wp2
    go_ret
    exact ⟨rfl, rfl⟩
theorem NewRecords_any (w : World) : Calls Tryd.prog 7 #[] w fun e w' => e = .returned (.pointer (some ⟨w.heap.size, 0, none⟩)) ∧ RcAt w' w.heap.size (fun b => b = w.heap.size) Pc0 ∧ Below w.heap.size w w' := by
  obtain ⟨W1, hW1⟩ : ∃ W, W = w.alloc (.cells #[.slice none 0 0, .int .i64 0, .bool false, .slice none 0 0, .bool false] 60) := ⟨_, rfl⟩
  have b1 : Below w.heap.size w W1 := by rw [hW1]; exact below_alloc (Below.refl _ _) (Nat.le_refl _) _
  have h1 : W1.heap[w.heap.size]? = some (.cells #[.slice none 0 0, .int .i64 0, .bool false, .slice none 0 0, .bool false] 60 (0, 0)) := by rw [hW1]; exact alloc_new w _
  have hx : RcAt W1 w.heap.size (fun b => b = w.heap.size) Pc0 := ⟨_, _, h1, RW.nil _ _ _, RW.nil _ _ _, fun x hx => by simp [Pc0] at hx, fun x hx => by simp [Pc0] at hx, fun b hb => by simp [blkV] at hb, rfl, fun b hb => by simp [blkV] at hb, fun b hb => by simp [blkV] at hb, fun b hb => by rw [hb]; exact (Array.getElem?_eq_some_iff.1 h1).1⟩
  have HX := hid hx
  have HB := hid b1
  have HW := hid hW1
  clear hx b1 h1 hW1
  go_enter Tryd.func7, Tryd.ntmps7
  go_wp2
  go_ret
  rw [← HW.out]
  exact ⟨rfl, HX.out, HB.out⟩
theorem make_zeros (W : World) (N : Nat) : Bytes (W.alloc (.cells (madeCells #[.int .u8 0] N) 5)) (some ⟨W.heap.size, 0, none⟩) (List.replicate N 0) :=
  Bytes.mk_ (fun x hx => by rw [List.eq_of_mem_replicate hx]; unfold IsB; omega) (fun i hi => by
    have hi2 : i < N := by simpa using hi
    refine cell_of (alloc_new W _) ?_
    rw [Nat.zero_add, ← Array.getElem?_toList, toList_madeCells_one]
    simp [hi2])
theorem infoY5 : (Tryd.prog.info? 5).map (fun i => (i.zero, i.size, i.bytes)) = some (some (.int .u8 0), 1, 1) := by kernel_rfl
theorem run_zeros (w : World) (K : Nat) (hk : K ≤ 100000) : (Instr.makeSlice 27 (.int .i64 (K : Int)) (.int .i64 (K : Int))).run Tryd.prog w = .ok (.slice (some ⟨w.heap.size, 0, none⟩) K K) (w.alloc (.cells (madeCells #[.int .u8 0] K) 5)) :=
  run_make_row' (P := Tryd.prog) 27 5 (.int .u8 0) 1 Tryd.underlying27 infoY5 rfl .i64 .i64 K (by omega) (by omega) w
theorem u8_and127 (v : Int) (h : IsB v) : bits .and .u8 v 127 = v % 128 := by
  rw [u8_and v 127 h.1 h.2 (by decide) (by decide)]
  have e : v.toNat &&& (127 : Int).toNat = v.toNat % 128 := by
    rw [show (127 : Int).toNat = 2 ^ 7 - 1 from rfl, Nat.and_two_pow_sub_one_eq_mod]
  rw [e]
  have := h.1
  omega
/-- A record's piece that is not its last. -/
def mkH (l : List Int) : List Int := bytesBe 4 (mkV l.length false) ++ l
theorem mkL_half (l : List Int) (h : l.length < 2147483648) : (mkL l).set 0 ((mkL l).getD 0 0 % 128) = mkH l := by
  unfold mkL mkH
  rw [mkV_t, mkV_f]
  generalize l.length = n at h ⊢
  have e : ∀ v : Int, bytesBe 4 v = [v / 16777216 % 256, v / 65536 % 256, v / 256 % 256, v / 1 % 256] := fun v => by simp [bytesBe, List.range_succ]
  rw [e, e]
  simp only [List.cons_append, List.nil_append, List.set_cons_zero, List.getD_cons_zero, List.cons.injEq, and_true]
  refine ⟨?_, ?_, ?_, ?_⟩ <;> omega
/-- The three calls of the law, told. -/
def st1 (z : List Int) : Rc := (ruR Rc0 (mkH z)).1
theorem long_1 (z : List Int) (hz : z.length ≤ 16384) : addR Rc0 (mkH z) = ([], 0, ⟨[], 0, false, false, z, false⟩) := by
  have e := ruR_piece Rc0 rfl rfl rfl z false (by show z.length + 0 ≤ 16384; omega)
  have e2 : ruR Rc0 (mkH z) = (⟨[], 0, false, false, z, false⟩, []) := by unfold mkH; rw [e]; rfl
  unfold addR
  rw [e2]
  rfl
theorem long_2 (z y : List Int) (hz : z.length + y.length ≤ 16384) : addR ⟨[], 0, false, false, z, false⟩ (mkL y) = ([z ++ y], 0, ⟨[], 0, true, false, [], false⟩) := by
  have e := ruR_piece ⟨[], 0, false, false, z, false⟩ rfl rfl rfl y true (by show y.length + z.length ≤ 16384; omega)
  have e2 : ruR ⟨[], 0, false, false, z, false⟩ (mkL y) = (⟨[], 0, true, false, [], false⟩, [z ++ y]) := by unfold mkL; rw [e]; rfl
  unfold addR
  rw [e2]
  rfl
theorem long_3 (y : List Int) (hz : y.length ≤ 16384) : addR ⟨[], 0, true, false, [], false⟩ (mkL y) = ([y], 0, ⟨[], 0, true, false, [], false⟩) := by
  have e := ruR_piece ⟨[], 0, true, false, [], false⟩ rfl rfl rfl y true (by show y.length + 0 ≤ 16384; omega)
  have e2 : ruR ⟨[], 0, true, false, [], false⟩ (mkL y) = (⟨[], 0, true, false, [], false⟩, [y]) := by unfold mkL; rw [e]; rfl
  unfold addR
  rw [e2]
  rfl
theorem long_d (z y : List Int) (hy : y.length < 2147483648) (hz : 16384 < y.length + z.length) : ∃ r, r.dd = true ∧ addR ⟨[], 0, false, false, z, false⟩ (mkL y) = ([], 5, r) := by
  have e := ruR_long ⟨[], 0, false, false, z, false⟩ rfl rfl rfl y.length true y hy hz
  refine ⟨_, e, ?_⟩
  unfold addR
  rw [if_neg (by show ¬ (false = true); decide), if_pos (by exact e)]
  rfl
theorem long_e (r : Rc) (h : r.dd = true) (y : List Int) : addR r y = ([], 5, r) := by unfold addR; rw [if_pos h]
end Go.Proofs.YtbfdkbdjipiliaaDoor
