/- VeB, VeC in one text. -/
import Derived.Test.YtaplmlldmhdhoaaGreatDoorVeA
import Derived.Lib.IfaceEq
import Derived.Stop.IfaceNil
import Derived.RowKitTokens
import Derived.Deep.RegionHeld3
/- errors.Is of numbers; a ledger's part and place. -/
namespace Go.Proofs.YtaplmlldmhdhoaaGreatDoor
open Go.RowKit Go.Maps Go.Extern.Stop Go.Stop Go.Extern
set_option linter.unusedVariables false

theorem Tryz.isTypeOf (v : Value) (w : World) : (Extern.ReflectliteType.typeOf #[.iface 57 v]).run Tryz.prog w = .ok (.iface 140 (.agg #[.pointer (some ⟨3, 57, none⟩)])) w := by kernel_rfl
theorem Tryz.isComparable (w : World) : ((Extern.ReflectliteType.method fun t => do Go.Extern.Rtype.noPackHeld "Comparable" t; (fun a => Value.bool a.comparable) <$> typeInfo t) #[.agg #[.pointer (some ⟨3, 57, none⟩)]]).run Tryz.prog w = .ok (.bool true) w := by kernel_rfl
theorem Tryz.isMethodComparable (v : Value) (w : World) : (Go.method 377 140 v "Comparable").run Tryz.prog w = .ok (160, v) w := by kernel_rfl
theorem Tryz.isCompE : (Tryz.prog.info? 57).map (·.comparable) = some true := by kernel_rfl
theorem Tryz.noIsE (v : Value) (xT : TypeId) (w : World) : (Instr.typeAssert (.iface 57 v) xT 159 true).run Tryz.prog w = .ok (.tuple #[.nilIface, .bool false]) w := run_typeAssert_lacksB Tryz.underlying159 (by kernel_rfl) (by kernel_rfl) v xT w
theorem Tryz.noUnwrapE (v : Value) (xT : TypeId) (w : World) : (Instr.typeAssert (.iface 57 v) xT 147 true).run Tryz.prog w = .ok (.tuple #[.nilIface, .bool false]) w := run_typeAssert_lacksB Tryz.underlying147 (by kernel_rfl) (by kernel_rfl) v xT w
theorem Tryz.noUnwrapsE (v : Value) (xT : TypeId) (w : World) : (Instr.typeAssert (.iface 57 v) xT 149 true).run Tryz.prog w = .ok (.tuple #[.nilIface, .bool false]) w := run_typeAssert_lacksB Tryz.underlying149 (by kernel_rfl) (by kernel_rfl) v xT w
/-- errors.Is(nil, a number). -/
theorem is_nil (b : Int) (w : World) : Calls Tryz.prog 25 #[.nilIface, .iface 57 (n64 b)] w fun e w' => e = .returned (.bool false) ∧ w' = w := by
  have hn := run_eql_iface_nil_left (P := Tryz.prog) w 57 (n64 b) Tryz.underlying36
  go_enter Tryz.func25, Tryz.ntmps25
  go_wp2
  go_ret
  exact ⟨rfl, rfl⟩
set_option maxRecDepth 100000 in
set_option maxHeartbeats 1000000 in
/-- errors.Is of two numbers. -/
theorem is_num (a b : Int) (w : World) : Calls Tryz.prog 25 #[.iface 57 (n64 a), .iface 57 (n64 b)] w fun e w' => e = .returned (.bool (a == b)) ∧ w' = w := by
  have h8 := @run_callFunc_extern Tryz.prog 48 _ Extern.ReflectliteType.typeOf Tryz.func48 (by kernel_rfl) (by kernel_rfl) (by kernel_rfl) (by kernel_rfl)
  have h32 := @run_callFunc_extern Tryz.prog 160 _ (Extern.ReflectliteType.method fun t => do Go.Extern.Rtype.noPackHeld "Comparable" t; pure (.bool (← typeInfo t).comparable)) Tryz.func160 (by kernel_rfl) (by kernel_rfl) (by kernel_rfl) (by kernel_rfl)
  have tT := Tryz.isTypeOf
  have cT := Tryz.isComparable
  have mR := Tryz.isMethodComparable
  have nE := Tryz.noIsE
  have uE := Tryz.noUnwrapE
  have vE := Tryz.noUnwrapsE
  have heq := Lib.run_eql_iface_int (P := Tryz.prog) (k := .i64) w a b Tryz.underlying36 Tryz.isCompE Tryz.underlying57
  cases hab : (a == b)
  · rw [hab] at heq
    go_enter Tryz.func25, Tryz.ntmps25
    go_wp2
    refine wp_loop_rounds 1 ?_
    rw [rounds_succ]
    go_wp2
    go_ret
    exact ⟨rfl, rfl⟩
  · rw [hab] at heq
    go_enter Tryz.func25, Tryz.ntmps25
    go_wp2
    refine wp_loop_rounds 1 ?_
    rw [rounds_succ]
    go_wp2
    go_ret
    exact ⟨rfl, rfl⟩
def ledC (f l e : Int) : Array Value := #[n64 f, n64 l, n64 e]
set_option maxRecDepth 100000 in
set_option maxHeartbeats 1000000 in
theorem part_any (w : World) (f l e : Int) (r : Nat) (hl0 : 0 ≤ l) (hl : l < 1000000) (he0 : 0 ≤ e) (he : e < 1000000) (hr : r < 100) :
    Calls Tryz.prog 111 #[.agg #[n64 f, n64 l, n64 e], n64 r] w fun q w' => q = .returned (.tuple #[n64 (max (l - (r : Int) * 4096) 0), n64 (min (e - (r : Int) * 4096) 4096)]) ∧ Below w.heap.size w w' := by
  have hw1 : IntKind.i64.wrap ((r : Int) * 4096) = (r : Int) * 4096 := IntWalk.i64_in _ (by omega)
  have hw2 : IntKind.i64.wrap (l - (r : Int) * 4096) = l - (r : Int) * 4096 := IntWalk.i64_in _ (by omega)
  have hw3 : IntKind.i64.wrap (e - (r : Int) * 4096) = e - (r : Int) * 4096 := IntWalk.i64_in _ (by omega)
  obtain ⟨W, hW⟩ : ∃ W, W = w.alloc (.cells #[n64 f, n64 l, n64 e] 127) := ⟨_, rfl⟩
  have hh : W.heap[w.heap.size]? = some (.cells #[n64 f, n64 l, n64 e] 127 (0, 0)) := by rw [hW]; exact alloc_new w _
  have c1 : W.drew.cell? ⟨w.heap.size, 1, none⟩ = some (n64 l) := cell_of hh rfl
  have c2 : W.drew.cell? ⟨w.heap.size, 2, none⟩ = some (n64 e) := cell_of hh rfl
  have HB : Hid (Below w.heap.size w W.drew) := hid (by rw [hW]; exact ((Below.refl _ _).alloc (Nat.le_refl _) _).drew)
  clear hh
  go_enter Tryz.func111, Tryz.ntmps111
  go_wp2_with (rw [← hW]; clear hW)
  go_region_held3 (fun w' => w'.cell? ⟨w.heap.size, 1, none⟩ = some (n64 l) ∧ w'.cell? ⟨w.heap.size, 2, none⟩ = some (n64 e)) (exact ⟨c1, c2⟩) (fail)
  all_goals
    go_wp2
    go_ret2
    exact ⟨rfl, HB.out⟩
end Go.Proofs.YtaplmlldmhdhoaaGreatDoor

/- How many bits of a part of a row are free. -/
namespace Go.Proofs.YtaplmlldmhdhoaaGreatDoor
open Go.RowKit Go.Maps
set_option linter.unusedVariables false

def popTab : ByteArray := ⟨#[0, 1, 1, 2, 1, 2, 2, 3, 1, 2, 2, 3, 2, 3, 3, 4, 1, 2, 2, 3, 2, 3, 3, 4, 2, 3, 3, 4, 3, 4, 4, 5, 1, 2, 2, 3, 2, 3, 3, 4, 2, 3, 3, 4, 3, 4, 4, 5, 2, 3, 3, 4, 3, 4, 4, 5, 3, 4, 4, 5, 4, 5, 5, 6, 1, 2, 2, 3, 2, 3, 3, 4, 2, 3, 3, 4, 3, 4, 4, 5, 2, 3, 3, 4, 3, 4, 4, 5, 3, 4, 4, 5, 4, 5, 5, 6, 2, 3, 3, 4, 3, 4, 4, 5, 3, 4, 4, 5, 4, 5, 5, 6, 3, 4, 4, 5, 4, 5, 5, 6, 4, 5, 5, 6, 5, 6, 6, 7, 1, 2, 2, 3, 2, 3, 3, 4, 2, 3, 3, 4, 3, 4, 4, 5, 2, 3, 3, 4, 3, 4, 4, 5, 3, 4, 4, 5, 4, 5, 5, 6, 2, 3, 3, 4, 3, 4, 4, 5, 3, 4, 4, 5, 4, 5, 5, 6, 3, 4, 4, 5, 4, 5, 5, 6, 4, 5, 5, 6, 5, 6, 6, 7, 2, 3, 3, 4, 3, 4, 4, 5, 3, 4, 4, 5, 4, 5, 5, 6, 3, 4, 4, 5, 4, 5, 5, 6, 4, 5, 5, 6, 5, 6, 6, 7, 3, 4, 4, 5, 4, 5, 5, 6, 4, 5, 5, 6, 5, 6, 6, 7, 4, 5, 5, 6, 5, 6, 6, 7, 5, 6, 6, 7, 6, 7, 7, 8]⟩
def pop8 (x : Nat) : Nat := x % 2 + x / 2 % 2 + x / 4 % 2 + x / 8 % 2 + x / 16 % 2 + x / 32 % 2 + x / 64 % 2 + x / 128 % 2
theorem popTab_size : popTab.size = 256 := by kernel_rfl
theorem tab_pop : ∀ x : Fin 256, wrap64 ((popTab.data.getD x.val 0).toNat : Int) = (pop8 x.val : Int) := by decide +kernel
theorem pop_eight : ∀ c0 c1 c2 c3 c4 c5 c6 c7 : Bool, (pop8 (eight c0 c1 c2 c3 c4 c5 c6 c7).toNat : Int) = b2 c0 + b2 c1 + b2 c2 + b2 c3 + b2 c4 + b2 c5 + b2 c6 + b2 c7 := by decide +kernel
/-- How many from lo to below k are free. -/
def cnt (f : Nat → Bool) (lo : Nat) : Nat → Nat
  | 0 => 0
  | k + 1 => cnt f lo k + (if lo ≤ k ∧ f k = false then 1 else 0)
theorem cnt_lo (f : Nat → Bool) (lo k : Nat) (h : k ≤ lo) : cnt f lo k = 0 := by
  induction k with
  | zero => rfl
  | succ k ih => rw [cnt, ih (by omega), if_neg (by omega)]
theorem cnt_le (f : Nat → Bool) (lo k : Nat) : cnt f lo k ≤ k := by
  induction k with
  | zero => exact Nat.le_refl _
  | succ k ih => rw [cnt]; split <;> omega
theorem cnt_byte (f : Nat → Bool) (lo m : Nat) (h : lo ≤ 8 * m) : (cnt f lo (8 * m + 8) : Int) = cnt f lo (8 * m) + (8 - (pop8 (by8 f m).toNat : Int)) := by
  have hp := eight_cases _ pop_eight f m
  have hone : ∀ k, lo ≤ k → (cnt f lo (k + 1) : Int) = cnt f lo k + (1 - b2 (f k)) := fun k hk => by
    rw [cnt]
    cases hf : f k
    · rw [if_pos ⟨hk, rfl⟩]; simp [b2]
    · rw [if_neg (by simp)]; simp [b2]
  show (cnt f lo (8 * m + 7 + 1) : Int) = _
  rw [hone _ (by omega)]
  show (cnt f lo (8 * m + 6 + 1) : Int) + _ = _
  rw [hone _ (by omega)]
  show (cnt f lo (8 * m + 5 + 1) : Int) + _ + _ = _
  rw [hone _ (by omega)]
  show (cnt f lo (8 * m + 4 + 1) : Int) + _ + _ + _ = _
  rw [hone _ (by omega)]
  show (cnt f lo (8 * m + 3 + 1) : Int) + _ + _ + _ + _ = _
  rw [hone _ (by omega)]
  show (cnt f lo (8 * m + 2 + 1) : Int) + _ + _ + _ + _ + _ = _
  rw [hone _ (by omega)]
  show (cnt f lo (8 * m + 1 + 1) : Int) + _ + _ + _ + _ + _ + _ = _
  rw [hone _ (by omega), hone _ (by omega)]
  have e : (pop8 (by8 f m).toNat : Int) = b2 (f (8 * m)) + b2 (f (8 * m + 1)) + b2 (f (8 * m + 2)) + b2 (f (8 * m + 3)) + b2 (f (8 * m + 4)) + b2 (f (8 * m + 5)) + b2 (f (8 * m + 6)) + b2 (f (8 * m + 7)) := hp
  rw [e]
  omega
theorem cnt_congr {f g : Nat → Bool} {lo k : Nat} (h : ∀ j, lo ≤ j → j < k → f j = g j) : cnt f lo k = cnt g lo k := by
  induction k with
  | zero => rfl
  | succ k ih =>
    rw [cnt, cnt, ih (fun j h1 h2 => h j h1 (by omega))]
    by_cases hk : lo ≤ k
    · rw [h k hk (by omega)]
    · rw [if_neg (by omega), if_neg (by omega)]
end Go.Proofs.YtaplmlldmhdhoaaGreatDoor
