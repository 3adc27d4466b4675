/- slices.Clone and slices.Chunk of bytes. -/
import Derived.Test.YtdbpjdaaggenpaaWalkE
import Derived.RangeFuncNested
import Derived.RangeFuncBound
import Derived.RangeFuncCalls
import Derived.RangeFuncLeaves
import Derived.RangeFuncBox
import Derived.Shelf.Abstract
import Derived.Shelf.RegionOpen
import Derived.OwnWalkIn
import Derived.TacticsInMore
import Derived.LoopNIn
import Derived.LoopIn
import Derived.Maps.OwnIn
import Derived.Maps.AppendAt
namespace Go.Proofs.Ytdbpjdaaggenpaa
open Go.RowKit Go.Shelf

theorem info5b : ∃ i, Try.prog.info? 5 = some i ∧ i.zero = some (.int .u8 0) ∧ i.size = 1 ∧ i.bytes = 1 := by
  have := info5
  cases h : Try.prog.info? 5 with
  | none => rw [h] at this; cases this
  | some i => rw [h] at this; simp at this; exact ⟨i, rfl, this.1, this.2.1, this.2.2⟩

theorem own_empty (w : World) : (w.alloc (.cells #[] 5)).ownsRow w.heap.size 5 1 (.slice (some ⟨w.heap.size, 0, none⟩) 0 0) 0 [] :=
  ⟨rfl, .inr ⟨w.heap.size, 0, #[], rfl, Nat.le_refl _, (MapKept.heap_alloc w _).1, Nat.le_refl _, by unfold maxLen; omega, rfl, rfl⟩⟩

set_option maxRecDepth 100000 in
set_option maxHeartbeats 400000 in
theorem Clone_any (w : World) (b off cap : Nat) (l : List Int) (hl : l.length = 512) (hc : ∀ i, i < 512 → w.cell? ⟨b, off + i, none⟩ = some (.int .u8 (l.getD i 0))) :
    Calls Try.prog 34 #[.slice (some ⟨b, off, none⟩) 512 cap] w fun e w' => ∃ v, e = .returned v ∧ w'.ownsRow w.heap.size 5 1 v 512 (l.map fun x => Value.int .u8 x) ∧ Below w.heap.size w w' := by
  obtain ⟨i0, hi, hz0, hz1, hz2⟩ := info5b
  have hsrc : Hid (∀ j u, (l.map fun x => Value.int .u8 x)[j]? = some u → (w.alloc (.cells #[] 5)).cell? ((⟨b, off, none⟩ : Addr).add j) = some u) := hid fun j u hj => by
    rw [List.getElem?_map] at hj
    simp at hj
    obtain ⟨x, hx, rfl⟩ := hj
    have hj2 : j < l.length := (List.getElem?_eq_some_iff.1 hx).1
    rw [add_addr]
    have h2 := hc j (by omega)
    rw [show l.getD j 0 = x by simp [List.getD, hx]] at h2
    exact cell_later ((Below.refl _ _).alloc (Nat.le_refl _) _) h2
  have HL := hid hl
  have heq : (binOp .eql 42 (.slice (some ⟨b, off, none⟩) 512 cap) (.slice none 0 0)).run Try.prog w = .ok (.bool false) w := by
    simp only [binOp]
    simp [Op.equal, Op.maxDepth, Lib.run_equalIn_slice_nil w 9999 42 5 (some ⟨b, off, none⟩) 512 cap 0 0 Try.underlying42]
  clear hc hl
  go_enter Try.func34, Try.ntmps34
  go_wp2_with (at_builtin; refine wpList_append_own_at _ rfl _ _ 42 rfl w.heap.size 5 i0 (.int .u8 0) 1 1 Try.underlying42 hi hz0 hz1 hz2 rfl (by decide) _ _ _ rfl (own_empty w) ⟨b, off, none⟩ 512 cap (l.map fun x => Value.int .u8 x) rfl (by simp [HL.out]) hsrc.out (by intro u hu; simp at hu; obtain ⟨y, _, rfl⟩ := hu; rfl) (by unfold maxLen; omega) (by omega) (by simp) ?_; intro v' w1 hown' hgrow hnil hat)
  go_ret
  refine ⟨v', rfl, by simpa using hown', ((Below.refl _ w).alloc (Nat.le_refl _) _).grown hgrow (by simp) (fun k hk => ?_)⟩
  have hk : some w.heap.size = some k := hk
  obtain rfl : w.heap.size = k := by simpa using hk
  exact Nat.le_refl _

attribute [local go_sem] Oper.semAt_some

set_option maxHeartbeats 400000 in
theorem Chunk_any (n : Nat) (b off len cap : Nat) (w : World) : CallsIn Fence.wide n Try.prog 33 #[.slice (some ⟨b, off, none⟩) len cap, .int .i64 512] w fun e w' =>
    e = .returned (.func (.func 40) #[] #[.pointer (some ⟨w.heap.size, 0, none⟩), .pointer (some ⟨w.heap.size + 1, 0, none⟩)]) ∧ w' = (w.alloc (.cells #[.slice (some ⟨b, off, none⟩) len cap] 42)).alloc (.cells #[.int .i64 512] 3) := by
  refine callsIn_wide.2 ?_
  go_enter Try.func33, Try.ntmps33
  go_wp2
  go_ret
  exact ⟨rfl, rfl⟩

/-- What a round keeps for slices.Chunk: its two boxes. -/
def KeepsTwo (Bs Bn : Nat) (W W' : World) : Prop := W'.heap[Bs]? = W.heap[Bs]? ∧ W'.heap[Bn]? = W.heap[Bn]?

set_option maxRecDepth 100000 in
theorem cut_run1 (b off len cap lo : Nat) (h : lo < len) (hc : len ≤ cap) (W : World) : (Instr.slice 42 (.slice (some ⟨b, off, none⟩) len cap) (some (.int .i64 lo)) none none).run Try.prog W = .ok (.slice (some ⟨b, off + lo, none⟩) (len - lo) (cap - lo)) W := by
  have hz : (sizeOf 5).run Try.prog W = .ok 1 W := by kernel_rfl
  rw [run_slice_l (P := Try.prog) W 42 (some ⟨b, off, none⟩) len cap Try.underlying42 .i64 lo (by omega) (by omega)]
  have e : Try.prog.elem 42 = 5 := by kernel_rfl
  rw [e, hz]
  have h2 : ¬ (cap = lo) := by omega
  simp [sliced, Addr.add, h2]
set_option maxRecDepth 100000 in
theorem cut_run3 (b off len cap lo hi : Nat) (h : lo < hi) (hh : hi ≤ len) (hc : len ≤ cap) (W : World) : (Instr.slice 42 (.slice (some ⟨b, off, none⟩) len cap) (some (.int .i64 lo)) (some (.int .i64 hi)) (some (.int .i64 hi))).run Try.prog W = .ok (.slice (some ⟨b, off + lo, none⟩) (hi - lo) (hi - lo)) W := by
  have hz : (sizeOf 5).run Try.prog W = .ok 1 W := by kernel_rfl
  rw [run_slice_lhm (P := Try.prog) W 42 (some ⟨b, off, none⟩) len cap Try.underlying42 .i64 .i64 .i64 lo hi hi (by omega) (by omega) (by omega) (by omega)]
  have e : Try.prog.elem 42 = 5 := by kernel_rfl
  rw [e, hz]
  have h2 : ¬ (hi = lo) := by omega
  simp [sliced, Addr.add, h2]

set_option maxRecDepth 100000 in
set_option maxHeartbeats 1000000 in
theorem chunk1_in (n : Nat) (l Bs Bn b off m M cap : Nat) (hM : M = 512 * m) (hm : M ≤ 140737488355328) (hcap : M ≤ cap) (J Jx : List (Fin m) → World → Prop) (hJd : ∀ pre W, J pre W → J pre W.drew)
    (hY : ∀ pre x W, J pre W → pre.length < m → YieldAt Fence.wide (n - 1) Try.prog l #[.slice (some ⟨b, off + 512 * x.1, none⟩) 512 512] W fun e W' =>
      (e = .returned (.bool true) ∧ J (pre ++ [x]) W' ∧ KeepsTwo Bs Bn W W') ∨ (e = .returned (.bool false) ∧ Jx (pre ++ [x]) W'))
    (W : World) (h1 : Boxed W Bs 42 (.slice (some ⟨b, off, none⟩) M cap)) (h2 : Boxed W Bn 3 (.int .i64 512)) (h0 : J [] W) :
    CallsIn Fence.wide n Try.prog 40 #[.func (.yield l) #[] #[], .pointer (some ⟨Bs, 0, none⟩), .pointer (some ⟨Bn, 0, none⟩)] W fun e W' => (∃ v, e = .returned v) ∧
      ((∃ ys, ys = List.finRange m ∧ J ys W') ∨ (∃ pre, True ∧ Jx pre W')) := by
  refine callsIn_of_wp Try.func40 rfl trivial ?_ rfl
  simp only [Try.ntmps40, List.size_toArray, List.length_cons, List.length_nil, Nat.reduceAdd, Nat.reduceSub, Array.replicate_succ, Array.replicate_zero, List.push_toArray, List.append_toArray, List.nil_append, List.cons_append]
  gi_wp2
  gi_loopw [4] (fun i wr => ∃ k K : Nat, K = 512 * k ∧ k ≤ m ∧ i = .int .i64 K ∧ J ((List.finRange m).take k) wr ∧ Boxed wr Bs 42 (.slice (some ⟨b, off, none⟩) M cap) ∧ Boxed wr Bn 3 (.int .i64 512))
    (fun i _ => M - (RowKit.intOf i).toNat)
  case atStart => exact ⟨0, 0, rfl, Nat.zero_le _, rfl, by simpa using h0, h1, h2⟩
  case round =>
    obtain ⟨k, K, hK, hk, rfl, hJs, hb1, hb2⟩ := hrel
    have hc1 := hb1.cell
    have hc2 := hb2.cell
    have HB1 := hid hb1
    have HB2 := hid hb2
    have HK := hid hK
    have HM := hid hM
    by_cases hlt : k < m
    · obtain ⟨fn, tmps, assign, body, hy, hR⟩ := hY _ ⟨k, hlt⟩ wr.drew (hJd _ _ hJs) (by simp; omega)
      have hs1 := cut_run1 b off M cap K (by omega) hcap
      have hs3 := cut_run3 b off M cap K (K + 512) (by omega) (by omega) hcap
      rw [show K + 512 - K = 512 by omega] at hs3
      rw [show ((K + 512 : Nat) : Int) = (K : Int) + 512 by omega] at hs3
      dsimp only at hy
      rw [← hK] at hy
      have hlt' : (K : Int) < (M : Int) := by omega
      have hmn : min (512 : Int) ((M - K : Nat) : Int) = 512 := by omega
      have hmn2 : (512 : Int) ≤ ((M - K : Nat) : Int) := by omega
      have ew : IntKind.i64.wrap ((K : Int) + 512) = (K : Int) + 512 := IntWalk.i64_in _ (by omega)
      clear hb1 hb2 hK hM
      gi_wp2
      gi_region
      gi_wp2
      refine ⟨(fun h => by simp [Fence.wide] at h), hR.mono ?_⟩
      rintro e W3 (⟨rfl, hJ3, hk3⟩ | ⟨rfl, hJx3⟩)
      · have hb1' : Boxed W3 Bs 42 (.slice (some ⟨b, off, none⟩) M cap) := hk3.1.trans HB1.out
        have hb2' : Boxed W3 Bn 3 (.int .i64 512) := hk3.2.trans HB2.out
        have hc1' := hb1'.cell
        have hc2' := hb2'.cell
        gi_wp2
        go_roundw
        case rel =>
          refine ⟨k + 1, K + 512, by rw [HK.out]; omega, by omega, by go_num, ?_, hb1', hb2'⟩
          rw [List.take_add_one, List.getElem?_eq_getElem (by simpa using hlt)]
          simpa using hJ3
        case measure =>
          have := HK.out
          have := HM.out
          simp [RowKit.intOf]
          omega
      · gi_wp2
        refine bodyPost_ret (results_none rfl _ _ _) rfl ?_
        exact ⟨⟨_, rfl⟩, .inr ⟨_, trivial, hJx3⟩⟩
    · obtain rfl : k = m := by omega
      obtain rfl : K = M := by omega
      gi_wp2
      go_end0
      refine ⟨⟨_, rfl⟩, .inl ⟨_, rfl, ?_⟩⟩
      rw [List.take_of_length_le (by simp)] at hJs
      exact hJs

theorem chunk_stops (n : Nat) (Bs Bn b off m M cap : Nat) (hM : M = 512 * m) (hm : M ≤ 140737488355328) (hcap : M ≤ cap) (w : World) (h1 : Boxed w Bs 42 (.slice (some ⟨b, off, none⟩) M cap)) (h2 : Boxed w Bn 3 (.int .i64 512)) :
    SeqStopsK Fence.wide n Try.prog 40 #[.pointer (some ⟨Bs, 0, none⟩), .pointer (some ⟨Bn, 0, none⟩)] (fun x : Fin m => #[Value.slice (some ⟨b, off + 512 * x.1, none⟩) 512 512]) (KeepsTwo Bs Bn) (fun ys => ys = List.finRange m) (fun _ => True) m w :=
  fun l J Jx W hW hJ _ hY h0 => chunk1_in n l Bs Bn b off m M cap hM hm hcap J Jx (fun pre W h => hJ pre W W.drew none h ⟨rfl, rfl, rfl, Nat.le_refl _, fun _ _ _ => rfl⟩ (fun r e => by cases e)) hY W
    ((hW.block Bs h1.lt).trans h1) ((hW.block Bn h2.lt).trans h2) h0
end Go.Proofs.Ytdbpjdaaggenpaa
