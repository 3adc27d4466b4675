/- errors.Is of numbers; a ledger's part and place. -/
import Derived.Test.YtoplbmbeadpilaaVeA
import Derived.Lib.IfaceEq
import Derived.Stop.IfaceNil
import Derived.RowKitTokens
import Derived.Deep.RegionHeld3
namespace Go.Proofs.Ytoplbmbeadpilaa
open Go.RowKit Go.Maps Go.Extern.Stop Go.Stop Go.Extern
set_option linter.unusedVariables false

theorem Try.isTypeOf (v : Value) (w : World) : (Extern.ReflectliteType.typeOf #[.iface 49 v]).run Try.prog w = .ok (.iface 114 (.agg #[.pointer (some ⟨0, 49, none⟩)])) w := by kernel_rfl
theorem Try.isComparable (w : World) : ((Extern.ReflectliteType.method fun t => do Go.Extern.Rtype.noPackHeld "Comparable" t; (fun a => Value.bool a.comparable) <$> typeInfo t) #[.agg #[.pointer (some ⟨0, 49, none⟩)]]).run Try.prog w = .ok (.bool true) w := by kernel_rfl
theorem Try.isMethodComparable (v : Value) (w : World) : (Go.method 277 114 v "Comparable").run Try.prog w = .ok (91, v) w := by kernel_rfl
theorem Try.isCompE : (Try.prog.info? 49).map (·.comparable) = some true := by kernel_rfl
theorem Try.noIsE (v : Value) (xT : TypeId) (w : World) : (Instr.typeAssert (.iface 49 v) xT 116 true).run Try.prog w = .ok (.tuple #[.nilIface, .bool false]) w := run_typeAssert_lacksB Try.underlying116 (by kernel_rfl) (by kernel_rfl) v xT w
theorem Try.noUnwrapE (v : Value) (xT : TypeId) (w : World) : (Instr.typeAssert (.iface 49 v) xT 119 true).run Try.prog w = .ok (.tuple #[.nilIface, .bool false]) w := run_typeAssert_lacksB Try.underlying119 (by kernel_rfl) (by kernel_rfl) v xT w
theorem Try.noUnwrapsE (v : Value) (xT : TypeId) (w : World) : (Instr.typeAssert (.iface 49 v) xT 121 true).run Try.prog w = .ok (.tuple #[.nilIface, .bool false]) w := run_typeAssert_lacksB Try.underlying121 (by kernel_rfl) (by kernel_rfl) v xT w
/-- errors.Is(nil, a number). -/
theorem is_nil (b : Int) (w : World) : Calls Try.prog 26 #[.nilIface, .iface 49 (n64 b)] w fun e w' => e = .returned (.bool false) ∧ w' = w := by
  have hn := run_eql_iface_nil_left (P := Try.prog) w 49 (n64 b) Try.underlying37
  go_enter Try.func26, Try.ntmps26
  go_wp2
  go_ret
  exact ⟨rfl, rfl⟩
set_option maxRecDepth 100000 in
set_option maxHeartbeats 1000000 in
/-- errors.Is of two numbers. -/
theorem is_num (a b : Int) (w : World) : Calls Try.prog 26 #[.iface 49 (n64 a), .iface 49 (n64 b)] w fun e w' => e = .returned (.bool (a == b)) ∧ w' = w := by
  have h8 := @run_callFunc_extern Try.prog 39 _ Extern.ReflectliteType.typeOf Try.func39 (by kernel_rfl) (by kernel_rfl) (by kernel_rfl) (by kernel_rfl)
  have h32 := @run_callFunc_extern Try.prog 91 _ (Extern.ReflectliteType.method fun t => do Go.Extern.Rtype.noPackHeld "Comparable" t; pure (.bool (← typeInfo t).comparable)) Try.func91 (by kernel_rfl) (by kernel_rfl) (by kernel_rfl) (by kernel_rfl)
  have tT := Try.isTypeOf
  have cT := Try.isComparable
  have mR := Try.isMethodComparable
  have nE := Try.noIsE
  have uE := Try.noUnwrapE
  have vE := Try.noUnwrapsE
  have heq := Lib.run_eql_iface_int (P := Try.prog) (k := .i64) w a b Try.underlying37 Try.isCompE Try.underlying49
  cases hab : (a == b)
  · rw [hab] at heq
    go_enter Try.func26, Try.ntmps26
    go_wp2
    refine wp_loop_rounds 1 ?_
    rw [rounds_succ]
    go_wp2
    go_ret
    exact ⟨rfl, rfl⟩
  · rw [hab] at heq
    go_enter Try.func26, Try.ntmps26
    go_wp2
    refine wp_loop_rounds 1 ?_
    rw [rounds_succ]
    go_wp2
    go_ret
    exact ⟨rfl, rfl⟩
def ledC (f l e : Int) : Array Value := #[n64 f, n64 l, n64 e]
set_option maxRecDepth 100000 in
set_option maxHeartbeats 1000000 in
theorem place_any (w : World) (f l e : Int) (x : Nat) (h0 : 0 ≤ f) (h1 : f < 1000000) (hx : x < 1000000) :
    Calls Try.prog 44 #[.agg #[n64 f, n64 l, n64 e], n64 x] w fun r w' => r = .returned (.tuple #[n64 (f + ((x / 4096 : Nat) : Int)), n64 ((x % 4096 : Nat) : Int)]) ∧ Below w.heap.size w w' := by
  have hw : IntKind.i64.wrap (f + ((x / 4096 : Nat) : Int)) = f + ((x / 4096 : Nat) : Int) := IntWalk.i64_in _ (by omega)
  have hw' : IntKind.i64.wrap (f + ((x : Int) / 4096)) = f + ((x / 4096 : Nat) : Int) := by rw [IntWalk.i64_in _ (by omega)]; omega
  have em : ((x : Int) % 4096) = ((x % 4096 : Nat) : Int) := by omega
  have HEM := hid em
  clear em
  go_enter Try.func44, Try.ntmps44
  go_wp2
  go_ret2
  exact ⟨by first | rfl | (rw [← HEM.out]; rfl) | (simp [HEM.out]), (Below.refl _ _).alloc (Nat.le_refl _) _⟩
set_option maxRecDepth 100000 in
set_option maxHeartbeats 1000000 in
theorem part_any (w : World) (f l e : Int) (r : Nat) (hl0 : 0 ≤ l) (hl : l < 1000000) (he0 : 0 ≤ e) (he : e < 1000000) (hr : r < 100) :
    Calls Try.prog 41 #[.agg #[n64 f, n64 l, n64 e], n64 r] w fun q w' => q = .returned (.tuple #[n64 (max (l - (r : Int) * 4096) 0), n64 (min (e - (r : Int) * 4096) 4096)]) ∧ Below w.heap.size w w' := by
  have hw1 : IntKind.i64.wrap ((r : Int) * 4096) = (r : Int) * 4096 := IntWalk.i64_in _ (by omega)
  have hw2 : IntKind.i64.wrap (l - (r : Int) * 4096) = l - (r : Int) * 4096 := IntWalk.i64_in _ (by omega)
  have hw3 : IntKind.i64.wrap (e - (r : Int) * 4096) = e - (r : Int) * 4096 := IntWalk.i64_in _ (by omega)
  obtain ⟨W, hW⟩ : ∃ W, W = w.alloc (.cells #[n64 f, n64 l, n64 e] 70) := ⟨_, rfl⟩
  have hh : W.heap[w.heap.size]? = some (.cells #[n64 f, n64 l, n64 e] 70 (0, 0)) := by rw [hW]; exact alloc_new w _
  have c1 : W.drew.cell? ⟨w.heap.size, 1, none⟩ = some (n64 l) := cell_of hh rfl
  have c2 : W.drew.cell? ⟨w.heap.size, 2, none⟩ = some (n64 e) := cell_of hh rfl
  have HB : Hid (Below w.heap.size w W.drew) := hid (by rw [hW]; exact ((Below.refl _ _).alloc (Nat.le_refl _) _).drew)
  clear hh
  go_enter Try.func41, Try.ntmps41
  go_wp2_with (rw [← hW]; clear hW)
  go_region_held3 (fun w' => w'.cell? ⟨w.heap.size, 1, none⟩ = some (n64 l) ∧ w'.cell? ⟨w.heap.size, 2, none⟩ = some (n64 e)) (exact ⟨c1, c2⟩) (fail)
  all_goals
    go_wp2
    go_ret2
    exact ⟨rfl, HB.out⟩
end Go.Proofs.Ytoplbmbeadpilaa
