/- errors.Is of numbers; a ledger's part and place. -/
import Derived.Test.YtbimociijdaahaaDoorVeA
import Derived.Lib.IfaceEq
import Derived.Stop.IfaceNil
import Derived.RowKitTokens
import Derived.Deep.RegionHeld3
namespace Go.Proofs.YtbimociijdaahaaDoor
open Go.RowKit Go.Maps Go.Extern.Stop Go.Stop Go.Extern
set_option linter.unusedVariables false

theorem Tryd.isTypeOf (v : Value) (w : World) : (Extern.ReflectliteType.typeOf #[.iface 31 v]).run Tryd.prog w = .ok (.iface 118 (.agg #[.pointer (some ⟨1, 31, none⟩)])) w := by kernel_rfl
theorem Tryd.isComparable (w : World) : ((Extern.ReflectliteType.method fun t => do Go.Extern.Rtype.noPackHeld "Comparable" t; (fun a => Value.bool a.comparable) <$> typeInfo t) #[.agg #[.pointer (some ⟨1, 31, none⟩)]]).run Tryd.prog w = .ok (.bool true) w := by kernel_rfl
theorem Tryd.isMethodComparable (v : Value) (w : World) : (Go.method 266 118 v "Comparable").run Tryd.prog w = .ok (85, v) w := by kernel_rfl
theorem Tryd.isCompE : (Tryd.prog.info? 31).map (·.comparable) = some true := by kernel_rfl
theorem Tryd.noIsE (v : Value) (xT : TypeId) (w : World) : (Instr.typeAssert (.iface 31 v) xT 120 true).run Tryd.prog w = .ok (.tuple #[.nilIface, .bool false]) w := run_typeAssert_lacksB Tryd.underlying120 (by kernel_rfl) (by kernel_rfl) v xT w
theorem Tryd.noUnwrapE (v : Value) (xT : TypeId) (w : World) : (Instr.typeAssert (.iface 31 v) xT 123 true).run Tryd.prog w = .ok (.tuple #[.nilIface, .bool false]) w := run_typeAssert_lacksB Tryd.underlying123 (by kernel_rfl) (by kernel_rfl) v xT w
theorem Tryd.noUnwrapsE (v : Value) (xT : TypeId) (w : World) : (Instr.typeAssert (.iface 31 v) xT 125 true).run Tryd.prog w = .ok (.tuple #[.nilIface, .bool false]) w := run_typeAssert_lacksB Tryd.underlying125 (by kernel_rfl) (by kernel_rfl) v xT w
/-- errors.Is(nil, a number). -/
theorem is_nil (b : Int) (w : World) : Calls Tryd.prog 49 #[.nilIface, .iface 31 (n64 b)] w fun e w' => e = .returned (.bool false) ∧ w' = w := by
  have hn := run_eql_iface_nil_left (P := Tryd.prog) w 31 (n64 b) Tryd.underlying42
  go_enter Tryd.func49, Tryd.ntmps49
  go_wp2
  go_ret
  exact ⟨rfl, rfl⟩
set_option maxRecDepth 100000 in
set_option maxHeartbeats 1000000 in
/-- errors.Is of two numbers. -/
theorem is_num (a b : Int) (w : World) : Calls Tryd.prog 49 #[.iface 31 (n64 a), .iface 31 (n64 b)] w fun e w' => e = .returned (.bool (a == b)) ∧ w' = w := by
  have h8 := @run_callFunc_extern Tryd.prog 59 _ Extern.ReflectliteType.typeOf Tryd.func59 (by kernel_rfl) (by kernel_rfl) (by kernel_rfl) (by kernel_rfl)
  have h32 := @run_callFunc_extern Tryd.prog 85 _ (Extern.ReflectliteType.method fun t => do Go.Extern.Rtype.noPackHeld "Comparable" t; pure (.bool (← typeInfo t).comparable)) Tryd.func85 (by kernel_rfl) (by kernel_rfl) (by kernel_rfl) (by kernel_rfl)
  have tT := Tryd.isTypeOf
  have cT := Tryd.isComparable
  have mR := Tryd.isMethodComparable
  have nE := Tryd.noIsE
  have uE := Tryd.noUnwrapE
  have vE := Tryd.noUnwrapsE
  have heq := Lib.run_eql_iface_int (P := Tryd.prog) (k := .i64) w a b Tryd.underlying42 Tryd.isCompE Tryd.underlying31
  cases hab : (a == b)
  · rw [hab] at heq
    go_enter Tryd.func49, Tryd.ntmps49
    go_wp2
    refine wp_loop_rounds 1 ?_
    rw [rounds_succ]
    go_wp2
    go_ret
    exact ⟨rfl, rfl⟩
  · rw [hab] at heq
    go_enter Tryd.func49, Tryd.ntmps49
    go_wp2
    refine wp_loop_rounds 1 ?_
    rw [rounds_succ]
    go_wp2
    go_ret
    exact ⟨rfl, rfl⟩
def ledC (f l e : Int) : Array Value := #[n64 f, n64 l, n64 e]
set_option maxRecDepth 100000 in
set_option maxHeartbeats 1000000 in
theorem place_any (w : World) (f l e : Int) (x : Nat) (h0 : 0 ≤ f) (h1 : f < 1000000) (hx : x < 1000000) :
    Calls Tryd.prog 52 #[.agg #[n64 f, n64 l, n64 e], n64 x] w fun r w' => r = .returned (.tuple #[n64 (f + ((x / 4096 : Nat) : Int)), n64 ((x % 4096 : Nat) : Int)]) ∧ Below w.heap.size w w' := by
  have hw : IntKind.i64.wrap (f + ((x / 4096 : Nat) : Int)) = f + ((x / 4096 : Nat) : Int) := IntWalk.i64_in _ (by omega)
  have hw' : IntKind.i64.wrap (f + ((x : Int) / 4096)) = f + ((x / 4096 : Nat) : Int) := by rw [IntWalk.i64_in _ (by omega)]; omega
  have em : ((x : Int) % 4096) = ((x % 4096 : Nat) : Int) := by omega
  have HEM := hid em
  clear em
  go_enter Tryd.func52, Tryd.ntmps52
  go_wp2
  go_ret2
  exact ⟨by first | rfl | (rw [← HEM.out]; rfl) | (simp [HEM.out]), (Below.refl _ _).alloc (Nat.le_refl _) _⟩
set_option maxRecDepth 100000 in
set_option maxHeartbeats 1000000 in
theorem part_any (w : World) (f l e : Int) (r : Nat) (hl0 : 0 ≤ l) (hl : l < 1000000) (he0 : 0 ≤ e) (he : e < 1000000) (hr : r < 100) :
    Calls Tryd.prog 42 #[.agg #[n64 f, n64 l, n64 e], n64 r] w fun q w' => q = .returned (.tuple #[n64 (max (l - (r : Int) * 4096) 0), n64 (min (e - (r : Int) * 4096) 4096)]) ∧ Below w.heap.size w w' := by
  have hw1 : IntKind.i64.wrap ((r : Int) * 4096) = (r : Int) * 4096 := IntWalk.i64_in _ (by omega)
  have hw2 : IntKind.i64.wrap (l - (r : Int) * 4096) = l - (r : Int) * 4096 := IntWalk.i64_in _ (by omega)
  have hw3 : IntKind.i64.wrap (e - (r : Int) * 4096) = e - (r : Int) * 4096 := IntWalk.i64_in _ (by omega)
  obtain ⟨W, hW⟩ : ∃ W, W = w.alloc (.cells #[n64 f, n64 l, n64 e] 72) := ⟨_, rfl⟩
  have hh : W.heap[w.heap.size]? = some (.cells #[n64 f, n64 l, n64 e] 72 (0, 0)) := by rw [hW]; exact alloc_new w _
  have c1 : W.drew.cell? ⟨w.heap.size, 1, none⟩ = some (n64 l) := cell_of hh rfl
  have c2 : W.drew.cell? ⟨w.heap.size, 2, none⟩ = some (n64 e) := cell_of hh rfl
  have HB : Hid (Below w.heap.size w W.drew) := hid (by rw [hW]; exact ((Below.refl _ _).alloc (Nat.le_refl _) _).drew)
  clear hh
  go_enter Tryd.func42, Tryd.ntmps42
  go_wp2_with (rw [← hW]; clear hW)
  go_region_held3 (fun w' => w'.cell? ⟨w.heap.size, 1, none⟩ = some (n64 l) ∧ w'.cell? ⟨w.heap.size, 2, none⟩ = some (n64 e)) (exact ⟨c1, c2⟩) (fail)
  all_goals
    go_wp2
    go_ret2
    exact ⟨rfl, HB.out⟩
end Go.Proofs.YtbimociijdaahaaDoor
