/- Records in memory. -/
import Derived.Test.YtbfdkbdjipiliaaDoorYaH
import Derived.Test.YtbfdkbdjipiliaaDoorXbC
import Derived.Test.YtbfdkbdjipiliaaDoorQaD
namespace Go.Proofs.YtbfdkbdjipiliaaDoor
open Go.RowKit Go.Maps
set_option linter.unusedVariables false

/-- A stream's records at block p: its own blocks lie in S. -/
structure RcX (w : World) (p : Nat) (S : Nat → Prop) (s : Pc) (vm vr : Value) : Prop where
  box : w.heap[p]? = some (.cells #[vm, .int .i64 s.lf, .bool s.la, vr, .bool s.dd] 60 (0, 0))
  rm : RW w 5 1 vm s.mr.length (u8s s.mr)
  rr : RW w 5 1 vr s.b.length (u8s s.b)
  im : ∀ x ∈ s.mr, IsB x
  ib : ∀ x ∈ s.b, IsB x
  ne : ∀ b, blkV vm = some b → blkV vr = some b → False
  sp : S p
  sm : ∀ b, blkV vm = some b → S b
  sr : ∀ b, blkV vr = some b → S b
  slt : ∀ b, S b → b < w.heap.size
def RcAt (w : World) (p : Nat) (S : Nat → Prop) (s : Pc) : Prop := ∃ vm vr, RcX w p S s vm vr
section
variable {w w' : World} {p : Nat} {S S' : Nat → Prop} {s : Pc} {vm vr : Value}
theorem RcX.keep (h : RcX w p S s vm vr) (hk : ∀ b, S b → w'.heap[b]? = w.heap[b]?) (hs : w.heap.size ≤ w'.heap.size) : RcX w' p S s vm vr :=
  ⟨(hk p h.sp).trans h.box, h.rm.keep (fun b hb => hk b (h.sm b hb)), h.rr.keep (fun b hb => hk b (h.sr b hb)), h.im, h.ib, h.ne, h.sp, h.sm, h.sr, fun b hb => Nat.lt_of_lt_of_le (h.slt b hb) hs⟩
theorem RcX.later (h : RcX w p S s vm vr) (hb : Below w.heap.size w w') : RcX w' p S s vm vr := h.keep (fun b hb2 => hb.block b (h.slt b hb2)) hb.size
theorem RcAt.later (h : RcAt w p S s) (hb : Below w.heap.size w w') : RcAt w' p S s := let ⟨vm, vr, h1⟩ := h; ⟨vm, vr, h1.later hb⟩
theorem RcAt.keep (h : RcAt w p S s) (hk : ∀ b, S b → w'.heap[b]? = w.heap[b]?) (hs : w.heap.size ≤ w'.heap.size) : RcAt w' p S s := let ⟨vm, vr, h1⟩ := h; ⟨vm, vr, h1.keep hk hs⟩
theorem RcX.nop {v : Value} {n : Nat} {X : List Value} (h : RcX w p S s vm vr) (hr : RW w 5 1 v n X) {b : Nat} (hb : blkV v = some b) : b ≠ p := fun e => by
  obtain ⟨cur, hh⟩ := hr.kind hb
  rw [e, h.box] at hh
  simp only [Option.some.injEq, Obj.cells.injEq] at hh
  exact absurd hh.2.1 (by decide)
theorem RcX.lt (h : RcX w p S s vm vr) : p < w.heap.size := (Array.getElem?_eq_some_iff.1 h.box).1
/-- The block itself has turned: the rows are as they were. -/
theorem RcX.turn {s' : Pc} (h : RcX w p S s vm vr) (hm : Mods (fun b => b = p) w w') (hb : w'.heap[p]? = some (.cells #[vm, .int .i64 s'.lf, .bool s'.la, vr, .bool s'.dd] 60 (0, 0))) (e1 : s'.mr = s.mr) (e2 : s'.b = s.b) : RcX w' p S s' vm vr :=
  ⟨hb, by rw [e1]; exact h.rm.keep (fun b hb2 => hm.block b (h.rm.lt hb2) (h.nop h.rm hb2)), by rw [e2]; exact h.rr.keep (fun b hb2 => hm.block b (h.rr.lt hb2) (h.nop h.rr hb2)), by rw [e1]; exact h.im, by rw [e2]; exact h.ib, h.ne, h.sp, h.sm, h.sr, fun b hb2 => Nat.lt_of_lt_of_le (h.slt b hb2) hm.size⟩
/-- All of it is new. -/
theorem RcX.fresh (h : RcX w p S s vm vr) (hm : Mods (fun b => b = p) w w') {s' : Pc} (hb : w'.heap[p]? = some (.cells #[.slice none 0 0, .int .i64 s'.lf, .bool s'.la, .slice none 0 0, .bool s'.dd] 60 (0, 0))) (e1 : s'.mr = []) (e2 : s'.b = []) : RcX w' p S s' (.slice none 0 0) (.slice none 0 0) :=
  ⟨hb, by rw [e1]; exact RW.nil _ _ _, by rw [e2]; exact RW.nil _ _ _, by rw [e1]; simp, by rw [e2]; simp, fun b hb => by simp [blkV] at hb, h.sp, fun b hb => by simp [blkV] at hb, fun b hb => by simp [blkV] at hb, fun b hb2 => Nat.lt_of_lt_of_le (h.slt b hb2) hm.size⟩
end
theorem andNot31 (v : Int) (h0 : 0 ≤ v) (h1 : v < 4294967296) : bits .andNot .u32 v 2147483648 = v % 2147483648 := by
  rw [u32_andNot v 2147483648 h0 h1 (by decide) (by decide)]
  have e : v.toNat &&& (4294967295 - (2147483648 : Int).toNat) = v.toNat % 2147483648 := by
    rw [show 4294967295 - (2147483648 : Int).toNat = 2 ^ 31 - 1 from rfl, Nat.and_two_pow_sub_one_eq_mod]
  rw [e]
  omega
theorem and31 (v : Int) (h0 : 0 ≤ v) (h1 : v < 4294967296) : (bits .and .u32 v 2147483648 == 0) = !decide (2147483648 ≤ v) := by
  rw [u32_and v 2147483648 h0 h1 (by decide) (by decide)]
  have e0 (b : Bool) (hb : v.toNat.testBit 31 = b) : v.toNat &&& 2 ^ 31 = if b then 2 ^ 31 else 0 := by
    apply Nat.eq_of_testBit_eq
    intro i
    rw [Nat.testBit_and, Nat.testBit_two_pow]
    by_cases hi : 31 = i
    · subst hi
      rw [hb]
      cases b with
      | true => rw [if_pos rfl, Nat.testBit_two_pow]; simp
      | false => rw [if_neg (by decide)]; simp
    · cases b with
      | true => rw [if_pos rfl, Nat.testBit_two_pow]; simp [hi]
      | false => rw [if_neg (by decide)]; simp [hi]
  have e : v.toNat &&& (2147483648 : Int).toNat = if 2147483648 ≤ v then 2147483648 else 0 := by
    by_cases h : 2147483648 ≤ v
    · rw [if_pos h]
      exact e0 true (by rw [Nat.testBit_eq_decide_div_mod_eq]; simp; omega)
    · rw [if_neg h]
      exact e0 false (Nat.testBit_lt_two_pow (by omega))
  rw [e]
  by_cases h : 2147483648 ≤ v
  · rw [if_pos h]; simp [h]
  · rw [if_neg h]; simp [h]
set_option maxRecDepth 100000 in
set_option maxHeartbeats 1000000 in
theorem marked_any {w : World} {p : Nat} {S : Nat → Prop} {s : Pc} {vm vr : Value} (h : RcX w p S s vm vr) : Calls Tryd.prog 16 #[.pointer (some ⟨p, 0, none⟩)] w fun e w' => e = .returned (.bool (decide (s.mr.length = 4))) ∧ w' = w := by
  obtain ⟨m, hm⟩ : ∃ m, s.mr.length = m := ⟨_, rfl⟩
  have hr := h.rm
  rw [hm] at hr
  obtain ⟨a, c, rfl⟩ := hr.shape
  have c0 : w.cell? ⟨p, 0, none⟩ = some (.slice a m c) := cell_of h.box rfl
  rw [hm]
  clear h hr hm
  go_enter Tryd.func16, Tryd.ntmps16
  go_wp2
  go_ret
  refine ⟨?_, rfl⟩
  by_cases h4 : m = 4
  · subst h4; rfl
  · have e1 : ((m : Int) == 4) = false := by simp; omega
    have e2 : decide (m = 4) = false := by simpa using h4
    rw [e2]
    show Ending.returned (.bool ((m : Int) == 4)) = _
    rw [e1]
end Go.Proofs.YtbfdkbdjipiliaaDoor
