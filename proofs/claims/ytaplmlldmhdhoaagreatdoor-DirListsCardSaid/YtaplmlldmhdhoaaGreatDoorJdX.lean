/- JdA, JdB, JdX in one text. -/
import Derived.Test.YtaplmlldmhdhoaaGreatDoorJcB
import Derived.Test.YtaplmlldmhdhoaaGreatDoorVeC
import Derived.LaidEql
import Derived.RangeFuncNested
import Derived.RangeFuncBound
import Derived.RangeFuncCalls
import Derived.RangeFuncLeaves
import Derived.RangeFuncBox
import Derived.Shelf.Abstract
import Derived.Shelf.RegionOpen
import Derived.OwnWalkIn
import Derived.TacticsInMore
import Derived.LoopNIn
import Derived.LoopIn
import Derived.Maps.OwnIn
import Derived.Maps.AppendAt
import Derived.OrdersIn
import Derived.OrdersHeld
/- errors.Is of the package's own error; what global variables hold. -/
namespace Go.Proofs.YtaplmlldmhdhoaaGreatDoor
open Go.RowKit Go.Maps Go.Extern.Stop Go.Stop Go.Extern
set_option linter.unusedVariables false
/-- The error that says that it was enough. -/
abbrev enoughV (pe : Addr) : Value := .iface 239 (.pointer (some pe))
/-- What the package's variable holds. -/
def En0 (w : World) (pe : Addr) : Prop := ∃ cs t f, w.heap[0]? = some (.cells cs t f) ∧ cs[0]? = some (enoughV pe)
theorem En0.cell {w : World} {pe : Addr} (h : En0 w pe) : w.cell? ⟨0, 0, none⟩ = some (enoughV pe) := by
  obtain ⟨cs, t, f, h1, h2⟩ := h
  simp [World.cell?, h1, h2]
theorem En0.lt {w : World} {pe : Addr} (h : En0 w pe) : 0 < w.heap.size := let ⟨_, _, _, h1, _⟩ := h; (Array.getElem?_eq_some_iff.1 h1).1
theorem En0.keep {w w' : World} {pe : Addr} (h : En0 w pe) (hk : w'.heap[0]? = w.heap[0]?) : En0 w' pe := let ⟨cs, t, f, h1, h2⟩ := h; ⟨cs, t, f, hk.trans h1, h2⟩
theorem En0.later {w w' : World} {pe : Addr} (h : En0 w pe) (hb : Below w.heap.size w w') : En0 w' pe := h.keep (hb.block _ h.lt)
theorem is_none (pe : Addr) (w : World) : Calls Tryz.prog 25 #[.nilIface, enoughV pe] w fun e w' => e = .returned (.bool false) ∧ w' = w := by
  have hn := run_eql_iface_nil_left (P := Tryz.prog) w 239 (.pointer (some pe)) Tryz.underlying36
  go_enter Tryz.func25, Tryz.ntmps25
  go_wp2
  go_ret
  exact ⟨rfl, rfl⟩
theorem Tryz.isTypeOfP (v : Value) (w : World) : (Extern.ReflectliteType.typeOf #[.iface 239 v]).run Tryz.prog w = .ok (.iface 140 (.agg #[.pointer (some ⟨3, 239, none⟩)])) w := by kernel_rfl
theorem Tryz.isComparableP (w : World) : ((Extern.ReflectliteType.method fun t => do Go.Extern.Rtype.noPackHeld "Comparable" t; (fun a => Value.bool a.comparable) <$> typeInfo t) #[.agg #[.pointer (some ⟨3, 239, none⟩)]]).run Tryz.prog w = .ok (.bool true) w := by kernel_rfl
set_option maxRecDepth 100000 in
set_option maxHeartbeats 1000000 in
theorem is_enough (pe : Addr) (w : World) : Calls Tryz.prog 25 #[enoughV pe, enoughV pe] w fun e w' => e = .returned (.bool true) ∧ w' = w := by
  have h8 := @run_callFunc_extern Tryz.prog 48 _ Extern.ReflectliteType.typeOf Tryz.func48 (by kernel_rfl) (by kernel_rfl) (by kernel_rfl) (by kernel_rfl)
  have h32 := @run_callFunc_extern Tryz.prog 160 _ (Extern.ReflectliteType.method fun t => do Go.Extern.Rtype.noPackHeld "Comparable" t; pure (.bool (← typeInfo t).comparable)) Tryz.func160 (by kernel_rfl) (by kernel_rfl) (by kernel_rfl) (by kernel_rfl)
  have tT := Tryz.isTypeOfP
  have cT := Tryz.isComparableP
  have mR := Tryz.isMethodComparable
  obtain ⟨i1, hi1, hc1⟩ : ∃ i1, Tryz.prog.info? 239 = some i1 ∧ i1.comparable = true := by
    have h : (Tryz.prog.info? 239).map (·.comparable) = some true := by kernel_rfl
    cases e : Tryz.prog.info? 239 with
    | none => rw [e] at h; cases h
    | some x => rw [e] at h; exact ⟨x, rfl, Option.some.inj h⟩
  obtain ⟨j1, hj1⟩ : ∃ j1, Tryz.prog.info? 265 = some j1 := by
    have h : ((Tryz.prog.info? 265).map (·.comparable)).isSome = true := by kernel_rfl
    cases e : Tryz.prog.info? 265 with
    | none => rw [e] at h; cases h
    | some x => exact ⟨x, rfl⟩
  have heq : (binOp .eql 36 (enoughV pe) (enoughV pe)).run Tryz.prog w = .ok (.bool true) w := run_eql_iface_ptr_same (P := Tryz.prog) w pe Tryz.underlying36 Tryz.underlying239 hi1 hc1 hj1
  clear hi1 hc1 hj1
  go_enter Tryz.func25, Tryz.ntmps25
  go_wp2
  refine wp_loop_rounds 1 ?_
  rw [rounds_succ]
  go_wp2
  go_ret
  exact ⟨rfl, rfl⟩
end Go.Proofs.YtaplmlldmhdhoaaGreatDoor

/- slices.Chunk of bytes, by 32. -/
namespace Go.Proofs.YtaplmlldmhdhoaaGreatDoor
open Go.RowKit Go.Shelf
set_option linter.unusedVariables false

attribute [local go_sem] Oper.semAt_some

set_option maxHeartbeats 400000 in
theorem Chunk_any (n : Nat) (b off len cap : Nat) (w : World) : CallsIn Fence.wide n Tryz.prog 71 #[.slice (some ⟨b, off, none⟩) len cap, .int .i64 32] w fun e w' =>
    e = .returned (.func (.func 90) #[] #[.pointer (some ⟨w.heap.size, 0, none⟩), .pointer (some ⟨w.heap.size + 1, 0, none⟩)]) ∧ w' = (w.alloc (.cells #[.slice (some ⟨b, off, none⟩) len cap] 59)).alloc (.cells #[.int .i64 32] 3) := by
  refine callsIn_wide.2 ?_
  go_enter Tryz.func71, Tryz.ntmps71
  go_wp2
  go_ret
  exact ⟨rfl, rfl⟩

/-- What a round keeps for slices.Chunk: its two boxes. -/
def KeepsTwo (Bs Bn : Nat) (W W' : World) : Prop := W'.heap[Bs]? = W.heap[Bs]? ∧ W'.heap[Bn]? = W.heap[Bn]?

set_option maxRecDepth 100000 in
theorem ck_run1 (b off len cap lo : Nat) (h : lo < len) (hc : len ≤ cap) (W : World) : (Instr.slice 59 (.slice (some ⟨b, off, none⟩) len cap) (some (.int .i64 lo)) none none).run Tryz.prog W = .ok (.slice (some ⟨b, off + lo, none⟩) (len - lo) (cap - lo)) W := by
  have hz : (sizeOf 5).run Tryz.prog W = .ok 1 W := by kernel_rfl
  rw [run_slice_l (P := Tryz.prog) W 59 (some ⟨b, off, none⟩) len cap Tryz.underlying59 .i64 lo (by omega) (by omega)]
  have e : Tryz.prog.elem 59 = 5 := by kernel_rfl
  rw [e, hz]
  have h2 : ¬ (cap = lo) := by omega
  simp [sliced, Addr.add, h2]
set_option maxRecDepth 100000 in
theorem ck_run3 (b off len cap lo hi : Nat) (h : lo < hi) (hh : hi ≤ len) (hc : len ≤ cap) (W : World) : (Instr.slice 59 (.slice (some ⟨b, off, none⟩) len cap) (some (.int .i64 lo)) (some (.int .i64 hi)) (some (.int .i64 hi))).run Tryz.prog W = .ok (.slice (some ⟨b, off + lo, none⟩) (hi - lo) (hi - lo)) W := by
  have hz : (sizeOf 5).run Tryz.prog W = .ok 1 W := by kernel_rfl
  rw [run_slice_lhm (P := Tryz.prog) W 59 (some ⟨b, off, none⟩) len cap Tryz.underlying59 .i64 .i64 .i64 lo hi hi (by omega) (by omega) (by omega) (by omega)]
  have e : Tryz.prog.elem 59 = 5 := by kernel_rfl
  rw [e, hz]
  have h2 : ¬ (hi = lo) := by omega
  simp [sliced, Addr.add, h2]

set_option maxRecDepth 100000 in
set_option maxHeartbeats 1000000 in
theorem chunk1_in (n : Nat) (l Bs Bn b off m M cap : Nat) (hM : M = 32 * m) (hm : M ≤ 140737488355328) (hcap : M ≤ cap) (J Jx : List (Fin m) → World → Prop) (hJd : ∀ pre W, J pre W → J pre W.drew)
    (hY : ∀ pre x W, J pre W → pre.length < m → YieldAt Fence.wide (n - 1) Tryz.prog l #[.slice (some ⟨b, off + 32 * x.1, none⟩) 32 32] W fun e W' =>
      (e = .returned (.bool true) ∧ J (pre ++ [x]) W' ∧ KeepsTwo Bs Bn W W') ∨ (e = .returned (.bool false) ∧ Jx (pre ++ [x]) W'))
    (W : World) (h1 : Boxed W Bs 59 (.slice (some ⟨b, off, none⟩) M cap)) (h2 : Boxed W Bn 3 (.int .i64 32)) (h0 : J [] W) :
    CallsIn Fence.wide n Tryz.prog 90 #[.func (.yield l) #[] #[], .pointer (some ⟨Bs, 0, none⟩), .pointer (some ⟨Bn, 0, none⟩)] W fun e W' => (∃ v, e = .returned v) ∧
      ((∃ ys, ys = List.finRange m ∧ J ys W') ∨ (∃ pre, (∃ j, j ≤ m ∧ pre = (List.finRange m).take j) ∧ Jx pre W')) := by
  refine callsIn_of_wp Tryz.func90 rfl trivial ?_ rfl
  simp only [Tryz.ntmps90, List.size_toArray, List.length_cons, List.length_nil, Nat.reduceAdd, Nat.reduceSub, Array.replicate_succ, Array.replicate_zero, List.push_toArray, List.append_toArray, List.nil_append, List.cons_append]
  gi_wp2
  gi_loopw [4] (fun i wr => ∃ k K : Nat, K = 32 * k ∧ k ≤ m ∧ i = .int .i64 K ∧ J ((List.finRange m).take k) wr ∧ Boxed wr Bs 59 (.slice (some ⟨b, off, none⟩) M cap) ∧ Boxed wr Bn 3 (.int .i64 32))
    (fun i _ => M - (RowKit.intOf i).toNat)
  case atStart => exact ⟨0, 0, rfl, Nat.zero_le _, rfl, by simpa using h0, h1, h2⟩
  case round =>
    obtain ⟨k, K, hK, hk, rfl, hJs, hb1, hb2⟩ := hrel
    have hc1 := hb1.cell
    have hc2 := hb2.cell
    have HB1 := hid hb1
    have HB2 := hid hb2
    have HK := hid hK
    have HM := hid hM
    by_cases hlt : k < m
    · obtain ⟨fn, tmps, assign, body, hy, hR⟩ := hY _ ⟨k, hlt⟩ wr.drew (hJd _ _ hJs) (by simp; omega)
      have hs1 := ck_run1 b off M cap K (by omega) hcap
      have hs3 := ck_run3 b off M cap K (K + 32) (by omega) (by omega) hcap
      rw [show K + 32 - K = 32 by omega] at hs3
      rw [show ((K + 32 : Nat) : Int) = (K : Int) + 32 by omega] at hs3
      dsimp only at hy
      rw [← hK] at hy
      have hlt' : (K : Int) < (M : Int) := by omega
      have hmn : min (32 : Int) ((M - K : Nat) : Int) = 32 := by omega
      have hmn2 : (32 : Int) ≤ ((M - K : Nat) : Int) := by omega
      have ew : IntKind.i64.wrap ((K : Int) + 32) = (K : Int) + 32 := IntWalk.i64_in _ (by omega)
      clear hb1 hb2 hK hM
      gi_wp2
      gi_region
      gi_wp2
      refine ⟨(fun h => by simp [Fence.wide] at h), hR.mono ?_⟩
      rintro e W3 (⟨rfl, hJ3, hk3⟩ | ⟨rfl, hJx3⟩)
      · have hb1' : Boxed W3 Bs 59 (.slice (some ⟨b, off, none⟩) M cap) := hk3.1.trans HB1.out
        have hb2' : Boxed W3 Bn 3 (.int .i64 32) := hk3.2.trans HB2.out
        have hc1' := hb1'.cell
        have hc2' := hb2'.cell
        gi_wp2
        go_roundw
        case rel =>
          refine ⟨k + 1, K + 32, by rw [HK.out]; omega, by omega, by go_num, ?_, hb1', hb2'⟩
          rw [List.take_add_one, List.getElem?_eq_getElem (by simpa using hlt)]
          simpa using hJ3
        case measure =>
          have := HK.out
          have := HM.out
          simp [RowKit.intOf]
          omega
      · gi_wp2
        refine bodyPost_ret (results_none rfl _ _ _) rfl ?_
        refine ⟨⟨_, rfl⟩, .inr ⟨_, ⟨k + 1, by omega, ?_⟩, hJx3⟩⟩
        rw [List.take_add_one, List.getElem?_eq_getElem (by simpa using hlt)]
        simp
    · obtain rfl : k = m := by omega
      obtain rfl : K = M := by omega
      gi_wp2
      go_end0
      refine ⟨⟨_, rfl⟩, .inl ⟨_, rfl, ?_⟩⟩
      rw [List.take_of_length_le (by simp)] at hJs
      exact hJs

theorem chunk_stops (n : Nat) (Bs Bn b off m M cap : Nat) (hM : M = 32 * m) (hm : M ≤ 140737488355328) (hcap : M ≤ cap) (w : World) (h1 : Boxed w Bs 59 (.slice (some ⟨b, off, none⟩) M cap)) (h2 : Boxed w Bn 3 (.int .i64 32)) :
    SeqStopsK Fence.wide n Tryz.prog 90 #[.pointer (some ⟨Bs, 0, none⟩), .pointer (some ⟨Bn, 0, none⟩)] (fun x : Fin m => #[Value.slice (some ⟨b, off + 32 * x.1, none⟩) 32 32]) (KeepsTwo Bs Bn) (fun ys => ys = List.finRange m) (fun pre => ∃ j, j ≤ m ∧ pre = (List.finRange m).take j) m w :=
  fun l J Jx W hW hJ _ hY h0 => chunk1_in n l Bs Bn b off m M cap hM hm hcap J Jx (fun pre W h => hJ pre W W.drew none h ⟨rfl, rfl, rfl, Nat.le_refl _, fun _ _ _ => rfl⟩ (fun r e => by cases e)) hY W
    ((hW.block Bs h1.lt).trans h1) ((hW.block Bn h2.lt).trans h2) h0
end Go.Proofs.YtaplmlldmhdhoaaGreatDoor

/- A region that draws its order, in a round of a loop over an iterator: what is shown of it outside of a round holds in it. -/
namespace Go.Proofs.YtaplmlldmhdhoaaGreatDoor
open Go.RowKit Go.Shelf

theorem upon_in {l n : Nat} {P : Program} {o : Oper} {a : Act} {K : Act → World → Prop} {Q : Exit → Act → World → Prop} (r : Result Next) (h : o.upon P a K Q r) : o.uponIn (Fence.wide.inRound l) n P a K Q r := by
  cases r with
  | ok x w' =>
    cases x with
    | value v => exact h
    | skip => exact h
    | defer d => exact h
    | enter f args => exact ⟨(fun h0 => by simp [Fence.wide] at h0), CallsIn.inRound l (callsIn_wide.2 h)⟩
    | row row args => exact ⟨(fun h0 => by simp [Fence.wide] at h0), fun c cs _ => let ⟨v, w', r, s⟩ := h c cs; ⟨v, w', r, stepsIn_wide.2 s⟩⟩
    | _ => exact h.elim
  | halt x w' =>
    cases x <;> first | exact h | exact h.elim

theorem wpOp_in {l n : Nat} {P : Program} {ops : Array Oper} {Q : Exit → Act → World → Prop} {i : Nat} {K : Act → World → Prop} {a : Act} {w : World} (hnd : ∀ o ∈ ops, ∀ c, o.op ≠ .defer c) (hQ : ¬ LetsOut Q)
    (h : wpOp P ops Q i K a w) : wpOpIn (Fence.wide.inRound l) n P ops Q i K a w := by
  unfold wpOpIn
  unfold wpOp at h
  cases ho : ops[i]? with
  | none => rw [ho] at h; exact h
  | some o =>
    rw [ho] at h
    simp only at h ⊢
    split
    · rename_i hw
      rw [if_pos hw] at h
      rcases h with h | ⟨_, h⟩
      · refine ⟨fun _ _ => trivial, ?_⟩
        rw [show (Fence.wide.inRound l).round = some l from rfl, Oper.semAt_some l _ _ (hnd o (Array.mem_of_getElem? ho))]
        exact upon_in _ h
      · exact absurd h hQ
    · rename_i hw
      rw [if_neg hw] at h
      exact ⟨fun _ _ => trivial, h⟩

theorem wpAny_in {l n : Nat} {P : Program} {md : Region.Mode} {ops : Array Oper} {Q : Exit → Act → World → Prop} (hnd : ∀ o ∈ ops, ∀ c, o.op ≠ .defer c) (hQ : ¬ LetsOut Q) :
    ∀ (fuel : Nat) (listed : Array Bool) (a : Act) (w : World), wpAny P md ops Q fuel listed a w → wpAnyIn (Fence.wide.inRound l) n P md ops Q fuel listed a w
  | 0, _, _, _, h => h
  | fuel + 1, _, _, _, h => ⟨h.1, fun i hi => wpOpIn_mono (fun a w h' => wpAny_in hnd hQ fuel _ a w h') (wpOp_in hnd hQ (h.2 i hi))⟩

theorem region_in {l n id : Nat} {P : Program} {ops : Array Oper} {Q : Exit → Act → World → Prop} {S : World → Prop} {a : Act} {w : World} (hm : P.follows .mixedOrders = true) (hnd : ∀ o ∈ ops, ∀ c, o.op ≠ .defer c) (hQ : ¬ LetsOut Q)
    (h : wpAnyH P .any ops Q S ops.size (Array.replicate ops.size false) a w.drew) : (Code.region id ops true).wpIn (Fence.wide.inRound l) n P Q a w :=
  wpIn_region_any hm (wpAny_in hnd hQ _ _ _ _ (wpAny_of_held _ _ _ _ h))

/-- Marks of loops over iterators, all of them open. -/
def Marks (ds : List Nat) (W : World) : Prop := ds.Nodup ∧ ∀ D ∈ ds, W.heap[D]? = some (.deferred (some []))
abbrev markL (ds : List Nat) : List Deferred := ds.map fun D => { target := .collected D, args := #[] }
theorem leaves_marks {F : Fence} {n : Nat} {P : Program} {fn : Func} {tmps : Array Value} {R : Ending → World → Prop} : ∀ (ds : List Nat) (W : World), Marks ds W →
    (∀ W' : World, W'.heap.size = W.heap.size → W'.os = W.os → W'.tape = W.tape → W'.output = W.output → (∀ g, g ∉ ds → W'.heap[g]? = W.heap[g]?) → ∃ v, (results fn tmps).run P W' = .ok v W' ∧ R (.returned v) W') → LeavesInM F n P fn tmps R (markL ds) .returning W
  | [], W, _, h => h W rfl rfl rfl rfl (fun _ _ => rfl)
  | D :: ds, W, hm, h => by
    have hD := hm.2 D (List.mem_cons_self ..)
    have hnd := List.nodup_cons.1 hm.1
    refine ⟨by simp, .inl ⟨D, W.putObj D (.deferred none), rfl, run_takeDeferred hD, ?_⟩⟩
    have hne : ∀ g, g ≠ D → (W.putObj D (.deferred none)).heap[g]? = W.heap[g]? := fun g hg => by simp [World.putObj, Ne.symm hg]
    refine leaves_marks ds _ ⟨hnd.2, fun E hE => ?_⟩ (fun W' h1 h2 h3 h4 h5 => h W' ?_ h2 h3 h4 (fun g hg => ?_))
    · rw [hne E (fun e => hnd.1 (e ▸ hE))]; exact hm.2 E (List.mem_cons_of_mem _ hE)
    · rw [h1]; simp [World.putObj]
    · rw [h5 g (fun e => hg (List.mem_cons_of_mem _ e)), hne g (fun e => hg (e ▸ List.mem_cons_self ..))]
end Go.Proofs.YtaplmlldmhdhoaaGreatDoor
