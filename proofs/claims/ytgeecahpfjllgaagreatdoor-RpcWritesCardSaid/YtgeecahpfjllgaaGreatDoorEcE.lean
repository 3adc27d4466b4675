/- EcA, EcB, EcC, EcD, EcE in one text. -/
import Derived.Test.YtgeecahpfjllgaaGreatDoorEbS
import Derived.Deep.Upon
/- Six bytes as an array: firstSix, head. -/
namespace Go.Proofs.YtgeecahpfjllgaaGreatDoor
open Go.RowKit Go.Maps
set_option linter.unusedVariables false

structure Mac where
  a : Int
  b : Int
  c : Int
  d : Int
  e : Int
  f : Int
deriving DecidableEq
def Mac.l (m : Mac) : List Int := [m.a, m.b, m.c, m.d, m.e, m.f]
def Mac.ok (m : Mac) : Prop := ∀ x ∈ m.l, IsB x
abbrev macC (m : Mac) : Array Value := #[.int .u8 m.a, .int .u8 m.b, .int .u8 m.c, .int .u8 m.d, .int .u8 m.e, .int .u8 m.f]
abbrev zero6 : Array Value := #[.int .u8 0, .int .u8 0, .int .u8 0, .int .u8 0, .int .u8 0, .int .u8 0]
def macOf (l : List Int) : Mac := ⟨l.getD 0 0, l.getD 1 0, l.getD 2 0, l.getD 3 0, l.getD 4 0, l.getD 5 0⟩
theorem macOf_l (l : List Int) (h : 6 ≤ l.length) : (macOf l).l = l.take 6 := by
  match l, h with
  | a :: b :: c :: d :: e :: f :: r, _ => simp [macOf, Mac.l]
theorem macOf_ok (l : List Int) (h : 6 ≤ l.length) (hl : ∀ x ∈ l, IsB x) : (macOf l).ok := by
  unfold Mac.ok; rw [macOf_l l h]; exact fun x hx => hl x (List.mem_of_mem_take hx)
theorem Mac.len (m : Mac) : m.l.length = 6 := rfl
theorem macOf_mac (m : Mac) (r : List Int) : macOf (m.l ++ r) = m := rfl
theorem Mac.ext_l {m k : Mac} (h : m.l = k.l) : m = k := by
  cases m; cases k; simp only [Mac.l, List.cons.injEq] at h; simp [h]
theorem below_alloc {B : Nat} {w0 w : World} (h : Below B w0 w) (hB : B ≤ w.heap.size) (o : Obj) : Below B w0 (w.alloc o) := h.alloc hB o

theorem macC_one (m : Mac) : (macC m).all (·.oneCell') = true := by simp [Value.oneCell']
theorem row6 {w : World} {g : Nat} {t : TypeId} {f : Nat → Value} (h : w.rowIs g t 6 f) : w.heap[g]? = some (.cells #[f 0, f 1, f 2, f 3, f 4, f 5] t (0, 0)) := by
  obtain ⟨c, hh, hs, hc⟩ := h
  have e : c = #[f 0, f 1, f 2, f 3, f 4, f 5] := by
    apply Array.ext_getElem?
    intro i
    by_cases hi : i < 6
    · rw [hc i hi]
      rcases (show i = 0 ∨ i = 1 ∨ i = 2 ∨ i = 3 ∨ i = 4 ∨ i = 5 by omega) with rfl | rfl | rfl | rfl | rfl | rfl <;> rfl
    · rw [Array.getElem?_eq_none (by omega), Array.getElem?_eq_none (by simp; omega)]
  rw [← e]; exact hh
/-- What each message begins with. -/
def headM : Mac := ⟨0, 1, 8, 0, 6, 4⟩
theorem set6_heap {w : World} {g : Nat} {z0 z1 z2 z3 z4 z5 : Value} {t : TypeId} (h : w.heap[g]? = some (.cells #[z0, z1, z2, z3, z4, z5] t (0, 0))) (a0 a1 a2 a3 a4 a5 : Value) : ((((((w.setCell ⟨g, 0, none⟩ a0).setCell ⟨g, 1, none⟩ a1).setCell ⟨g, 2, none⟩ a2).setCell ⟨g, 3, none⟩ a3).setCell ⟨g, 4, none⟩ a4).setCell ⟨g, 5, none⟩ a5).heap[g]? = some (.cells #[a0, a1, a2, a3, a4, a5] t (0, 0)) := by
  have k0 := setc h 0 a0
  have k1 := setc k0 1 a1
  have k2 := setc k1 2 a2
  have k3 := setc k2 3 a3
  have k4 := setc k3 4 a4
  have k5 := setc k4 5 a5
  rw [k5]; rfl
theorem eqS {d e c : Nat} {xs ys : Array Value} {i : Nat} {is : List Nat} {k : IntKind} (x y : Int) {r : Bool} {w : World} (hu : Tryz.prog.underlying e = some (.int k)) (ha : (part e xs (i * c)).run Tryz.prog w = .ok (.int k x) w) (hb : (part e ys (i * c)).run Tryz.prog w = .ok (.int k y) w)
    (hs : (Op.eqItems (d + 1) e c xs ys is).run Tryz.prog w = .ok r w) : (Op.eqItems (d + 1) e c xs ys (i :: is)).run Tryz.prog w = .ok (decide (x = y) && r) w := by
  unfold Op.eqItems
  simp only [Sem.run_bind, ha, hb, Result.andThen_ok, run_equalIn_int w d e k k x y hu]
  by_cases h : x = y
  · subst h
    simpa using hs
  · simp [h]
theorem item6 (x0 x1 x2 x3 x4 x5 : Value) (w : World) : (part 5 #[x0, x1, x2, x3, x4, x5] (0 * 1)).run Tryz.prog w = .ok x0 w ∧ (part 5 #[x0, x1, x2, x3, x4, x5] (1 * 1)).run Tryz.prog w = .ok x1 w ∧ (part 5 #[x0, x1, x2, x3, x4, x5] (2 * 1)).run Tryz.prog w = .ok x2 w ∧ (part 5 #[x0, x1, x2, x3, x4, x5] (3 * 1)).run Tryz.prog w = .ok x3 w ∧ (part 5 #[x0, x1, x2, x3, x4, x5] (4 * 1)).run Tryz.prog w = .ok x4 w ∧ (part 5 #[x0, x1, x2, x3, x4, x5] (5 * 1)).run Tryz.prog w = .ok x5 w := by
  refine ⟨?_, ?_, ?_, ?_, ?_, ?_⟩ <;> kernel_rfl
end Go.Proofs.YtgeecahpfjllgaaGreatDoor

/- Hosts: hostOf. -/
namespace Go.Proofs.YtgeecahpfjllgaaGreatDoor
open Go.RowKit Go.Maps
set_option linter.unusedVariables false

abbrev hostC (m : Mac) (ip : Int) : Array Value := #[.int .u8 m.a, .int .u8 m.b, .int .u8 m.c, .int .u8 m.d, .int .u8 m.e, .int .u8 m.f, .int .u32 ip]
theorem hostC_one (m : Mac) (ip : Int) : (hostC m ip).all (·.oneCell') = true := by simp [Value.oneCell']
/-- The number of four bytes at a place. -/
def ipAt (l : List Int) (k : Nat) : Int := beOf ((l.drop k).take 4)
theorem isB_cut {l : List Int} (h : ∀ x ∈ l, IsB x) (k n : Nat) : ∀ x ∈ (l.drop k).take n, IsB x := fun x hx => h x (List.mem_of_mem_drop (List.mem_of_mem_take hx))
theorem be_cut_bd (l : List Int) (k n : Nat) (h : ∀ x ∈ l, IsB x) (hk : k + n ≤ l.length) : 0 ≤ beOf ((l.drop k).take n) ∧ beOf ((l.drop k).take n) < 256 ^ n := by
  have := beOf_bd _ (isB_cut h k n)
  rwa [show ((l.drop k).take n).length = n by simp; omega] at this
theorem ipAt_bd (l : List Int) (k : Nat) (h : ∀ x ∈ l, IsB x) (hk : k + 4 ≤ l.length) : IsU (ipAt l k) := by
  have := be_cut_bd l k 4 h hk
  unfold IsU ipAt; omega
/-- num.Be where the bytes are. -/
theorem be_in (w : World) (a : Option Addr) (n c : Nat) (l : List Int) (k m : Nat) (hn : l.length = n) (hc : n ≤ c) (hm : n ≤ maxLen) (hw : widB m = true) (hk : k + m ≤ n) (hb : Bytes w a l) :
    Calls Tryz.prog 82 #[.slice a n c, .int .i64 k, .int .i64 m] w fun e w' => e = .returned (.tuple #[.int .u64 (beOf ((l.drop k).take m)), .int .i64 0]) ∧ Below w.heap.size w w' := by
  refine (numBe_at a n c l k m w hn (by omega) hc hb).mono ?_
  rintro e w' ⟨rfl, q, rfl⟩
  have hi : insB l.length k m = true := by simp [insB]; omega
  obtain ⟨e1, _, e2⟩ := rd_yes l k m hw hi
  rw [← hn, e1, e2]
  exact ⟨rfl, below_drewN (Below.refl _ _) q⟩
end Go.Proofs.YtgeecahpfjllgaaGreatDoor

/- readMessage. -/
namespace Go.Proofs.YtgeecahpfjllgaaGreatDoor
open Go.RowKit Go.Maps
set_option linter.unusedVariables false

abbrev msgC (what : Int) (m : Mac) (i : Int) (k : Mac) (j : Int) : Array Value := #[.int .i64 what, .int .u8 m.a, .int .u8 m.b, .int .u8 m.c, .int .u8 m.d, .int .u8 m.e, .int .u8 m.f, .int .u32 i, .int .u8 k.a, .int .u8 k.b, .int .u8 k.c, .int .u8 k.d, .int .u8 k.e, .int .u8 k.f, .int .u32 j]
abbrev msg0 : Array Value := #[.int .i64 0, .int .u8 0, .int .u8 0, .int .u8 0, .int .u8 0, .int .u8 0, .int .u8 0, .int .u32 0, .int .u8 0, .int .u8 0, .int .u8 0, .int .u8 0, .int .u8 0, .int .u8 0, .int .u32 0]
theorem msgC_one (what : Int) (m : Mac) (i : Int) (k : Mac) (j : Int) : (msgC what m i k j).all (·.oneCell') = true := by simp [Value.oneCell']
theorem msg0_one : msg0.all (·.oneCell') = true := by simp [Value.oneCell']
/-- What a message is: 1 or 2. -/
def opOf (l : List Int) : Int := beOf ((l.drop 6).take 2)
def badM (l : List Int) : Prop := macOf l ≠ headM ∨ (opOf l ≠ 1 ∧ opOf l ≠ 2)
theorem opOf_bd (l : List Int) (h : ∀ x ∈ l, IsB x) (hk : 8 ≤ l.length) : 0 ≤ opOf l ∧ opOf l < 65536 := by
  have := be_cut_bd l 6 2 h (by omega)
  unfold opOf; omega
set_option maxRecDepth 100000 in
theorem cutLa (b off len cap lo : Nat) (h : lo ≤ len) (hc : len ≤ cap) : ∃ ad : Addr, (∀ W : World, (Instr.slice 26 (.slice (some ⟨b, off, none⟩) len cap) (some (.int .i64 lo)) none none).run Tryz.prog W = .ok (.slice (some ad) (len - lo) (cap - lo)) W) ∧ ∀ (w : World) (l : List Int), l.length = len → Bytes w (some ⟨b, off, none⟩) l → Bytes w (some ad) (l.drop lo) := by
  by_cases h2 : cap = lo
  · refine ⟨⟨b, off, none⟩, fun W => ?_, fun w l hl _ => ?_⟩
    · have hz : (sizeOf 5).run Tryz.prog W = .ok 1 W := by kernel_rfl
      rw [run_slice_l (P := Tryz.prog) W 26 (some ⟨b, off, none⟩) len cap Tryz.underlying26 .i64 lo (by omega) (by omega)]
      have e : Tryz.prog.elem 26 = 5 := by kernel_rfl
      rw [e, hz]
      simp [sliced, h2]
    · rw [List.drop_of_length_le (by omega)]; exact Bytes.nil_ _ _
  · refine ⟨⟨b, off + lo, none⟩, fun W => ?_, fun w l hl hb => ?_⟩
    · have hz : (sizeOf 5).run Tryz.prog W = .ok 1 W := by kernel_rfl
      rw [run_slice_l (P := Tryz.prog) W 26 (some ⟨b, off, none⟩) len cap Tryz.underlying26 .i64 lo (by omega) (by omega)]
      have e : Tryz.prog.elem 26 = 5 := by kernel_rfl
      rw [e, hz]
      simp [sliced, Addr.add, h2]
    · have := hb.cut lo (len - lo)
      rwa [List.take_of_length_le (by simp; omega)] at this
theorem cutL (b off len cap lo : Nat) (h : lo ≤ len) (hc : len ≤ cap) : ∃ a', (∀ W : World, (Instr.slice 26 (.slice (some ⟨b, off, none⟩) len cap) (some (.int .i64 lo)) none none).run Tryz.prog W = .ok (.slice a' (len - lo) (cap - lo)) W) ∧ ∀ (w : World) (l : List Int), l.length = len → Bytes w (some ⟨b, off, none⟩) l → Bytes w a' (l.drop lo) := by
  obtain ⟨ad, h1, h2⟩ := cutLa b off len cap lo h hc
  exact ⟨some ad, h1, h2⟩
theorem cutLs (b off len cap lo : Nat) (h : lo ≤ len) (hc : len ≤ cap) : ∃ a', (∀ W : World, (Instr.slice 26 (.slice (some ⟨b, off, none⟩) len cap) (some (.int .i64 lo)) none none).run Tryz.prog W = .ok (.slice a' (len - lo) (cap - lo)) W) ∧ (∀ (w : World) (l : List Int), l.length = len → Bytes w (some ⟨b, off, none⟩) l → Bytes w a' (l.drop lo)) ∧ ∃ ad, a' = some ad := by
  obtain ⟨ad, h1, h2⟩ := cutLa b off len cap lo h hc
  exact ⟨some ad, h1, h2, ad, rfl⟩
end Go.Proofs.YtgeecahpfjllgaaGreatDoor

/- bytes.Clone; Parse. -/
namespace Go.Proofs.YtgeecahpfjllgaaGreatDoor
open Go.RowKit Go.Maps
set_option linter.unusedVariables false

abbrev frC (m : Mac) (k : Mac) (kind : Int) (v : Value) : Array Value := #[.int .u8 m.a, .int .u8 m.b, .int .u8 m.c, .int .u8 m.d, .int .u8 m.e, .int .u8 m.f, .int .u8 k.a, .int .u8 k.b, .int .u8 k.c, .int .u8 k.d, .int .u8 k.e, .int .u8 k.f, .int .i64 kind, v]
def mac0 : Mac := ⟨0, 0, 0, 0, 0, 0⟩
theorem frC_one (m k : Mac) (kind : Int) (v : Value) (hv : v.oneCell' = true) : (frC m k kind v).all (·.oneCell') = true := by
  have h1 : (frC m k kind v).all (·.oneCell') = (v.oneCell') := by simp [Value.oneCell']
  rw [h1, hv]
/-- A frame's kind. -/
def kindOf (l : List Int) : Int := beOf ((l.drop 12).take 2)
theorem kindOf_bd (l : List Int) (h : ∀ x ∈ l, IsB x) (hk : 14 ≤ l.length) : 0 ≤ kindOf l ∧ kindOf l < 65536 := by
  have := be_cut_bd l 12 2 h (by omega)
  unfold kindOf; omega
/-- 'append([]byte{}, d...)', whatever d is. -/
theorem twinY (W : World) (a : Option Addr) (n c : Nat) (d : List Int) (hn : d.length = n) (hl : n ≤ 900000) (h : Bytes W a d) (ty : TypeId) :
    ∃ a2 c2 w2, (Builtin.append_ #[26, 26] ty #[.slice (some ⟨W.heap.size, 0, none⟩) 0 0, .slice a n c]).run Tryz.prog (W.alloc (.cells #[] 5)) = .ok (.slice a2 n c2) w2 ∧ By w2 (New W) a2 d ∧ n ≤ c2 ∧ Below W.heap.size W w2 := by
  have hb1 : Below W.heap.size W (W.alloc (.cells #[] 5)) := (Below.refl _ _).alloc (Nat.le_refl _) _
  by_cases hp : 0 < n
  · have hg : Gr (W.alloc (.cells #[] 5)) W.heap.size (.slice (some ⟨W.heap.size, 0, none⟩) 0 0) [] := by
      refine ⟨fun x hx => by simp at hx, .inl ⟨by simp, .inr ⟨W.heap.size, 0, #[], rfl, Nat.le_refl _, alloc_new W _, by simp, by simp, by simp, by simp⟩⟩⟩
    obtain ⟨b, off, rfl, hcur⟩ := h.open_ (by omega)
    obtain ⟨a2, c2, w2, hap, hg2, ho2, hb2, _, _⟩ := hg.push (by simp) d h.isB (by omega) ⟨b, off, none⟩ n c hn (fun j u hj => by
      have hj2 : j < d.length := by have := (List.getElem?_eq_some_iff.1 hj).1; simpa using this
      rw [u8s_get hj2] at hj
      rw [add_addr]
      refine cell_later hb1 ?_
      rw [hcur j hj2]
      simpa using hj) (by simp; omega) ty
    simp only [List.length_nil, Nat.zero_add, List.nil_append] at hap hg2 ho2
    obtain ⟨a3, c3, e3, h3, _, h4⟩ := By.of_owns (S := New W) ho2 h.isB (fun g hg => (owns_lt ho2 hg).2)
    simp only [Value.slice.injEq, true_and] at e3
    obtain ⟨rfl, rfl⟩ := e3
    exact ⟨a2, c2, w2, hap, h4, h3, hb1.trans hb2⟩
  · obtain rfl : n = 0 := by omega
    obtain rfl : d = [] := List.eq_nil_of_length_eq_zero hn
    refine ⟨some ⟨W.heap.size, 0, none⟩, 0, W.alloc (.cells #[] 5), ?_, By.nil _ _ _, Nat.le_refl _, hb1⟩
    obtain ⟨i0, hi, hz0, hz1, hz2⟩ := info5b
    have hs : Src Tryz.prog i0.size 26 (.slice a 0 c) 0 [] (W.alloc (.cells #[] 5)) := by
      cases a with
      | none => exact Src.ofNil _ Tryz.underlying26 c
      | some ad => exact Src.ofSlice _ Tryz.underlying26 ad 0 c [] (by simp) (fun j u hj => by simp at hj) (fun u hu => by simp at hu)
    exact run_append_nothing _ 26 26 ty 5 i0 Tryz.underlying26 hi _ 0 0 (Nat.le_refl _) _ hs
set_option maxRecDepth 100000 in
set_option maxHeartbeats 1000000 in
theorem Clone_y (w : World) (a : Addr) (n c : Nat) (l : List Int) (hn : l.length = n) (hl : n ≤ 900000) (hb : Bytes w (some a) l) :
    Calls Tryz.prog 29 #[.slice (some a) n c] w fun e w' => ∃ a2 c2, e = .returned (.slice a2 n c2) ∧ By w' (New w) a2 l ∧ n ≤ c2 ∧ Below w.heap.size w w' := by
  obtain ⟨a2, c2, w2, hap, hy, hc, hb2⟩ := twinY w (some a) n c l hn hl hb 26
  have qT : ∀ (w : World) (a : Option Addr) (n c n' c' : Nat), (binOp .eql 26 (.slice a n c) (.slice none n' c')).run Tryz.prog w = .ok (.bool a.isNone) w := fun w a n c n' c' => Lib.run_eql_slice_nil w _ _ a n c n' c' Tryz.underlying26
  have HY := hid hy
  have HB2 := hid hb2
  clear hy hb2 hb hn
  go_enter Tryz.func29, Tryz.ntmps29
  go_wp2_with (at_builtin; refine wpList_append_run rfl _ _ 26 rfl rfl rfl hap ?_)
  go_ret
  exact ⟨a2, c2, rfl, HY.out, hc, HB2.out⟩
end Go.Proofs.YtgeecahpfjllgaaGreatDoor

/- slices.Grow, slices.Concat of bytes. -/
namespace Go.Proofs.YtgeecahpfjllgaaGreatDoor
open Go.RowKit Go.Maps
set_option linter.unusedVariables false

theorem zeroCells_u8 (n : Nat) : Builtin.zeroCells #[Value.int .u8 0] n = (List.replicate n (Value.int .u8 0)).toArray := by
  unfold Builtin.zeroCells
  apply Array.ext
  · simp
  · intro i h1 h2
    simp [Nat.mod_one]
section
variable (w : World)
set_option maxRecDepth 100000 in
theorem append_zeros_nil (i : TypeInfo) (hi : Tryz.prog.info? 5 = some i) (hz : i.zero = some (.int .u8 0)) (hs : i.size = 1) (hb : i.bytes = 1) (ty : TypeId) (n : Nat) (h0 : 0 < n) (hn : n ≤ 140737488355328) :
    (Builtin.append_ #[26, 3] ty #[.slice none 0 0, .int .i64 n]).run Tryz.prog w =
      .ok (.slice (some ⟨w.heap.size, 0, none⟩) n (grownCap w n 0 5)) (w.drew.alloc (.cells ((List.replicate n (Value.int .u8 0)).toArray ++ Builtin.zeroCells #[Value.int .u8 0] (grownCap w n 0 5 - n)) 5)) := by
  have hn0 : n ≠ 0 := by omega
  have h63' : ¬ (9223372036854775807 < (n : Int)) := by omega
  have h48' : ¬ (281474976710656 < Builtin.nextslicecap n 0) := by rw [nextslicecap_zero h0]; omega
  have hw : IntKind.i64.wrap (n : Int) = n := IntWalk.i64_in _ (by omega)
  have h1 : ¬ ((n : Int) < 0) := by omega
  have h2 : ¬ ((281474976710656 : Int) < (n : Int)) := by omega
  have h4 : max (n : Int) 0 = n := by omega
  simp [Builtin.append_, run_underlying Tryz.underlying26, run_underlying Tryz.underlying3, sizeOf, typeInfo, zeroValue, hi, hz, hs, hb, asInt, asIntOf, hw, h1, h2, h4, hn0, h63', h48', Question.forced, run_firstCells_none, newRow, grownCap, zeroCells_u8, Value.cells]
end
/-- A row of bytes of one's own. -/
def GO (w : World) (B : Nat) (v : Value) (l : List Int) : Prop := (∀ x ∈ l, IsB x) ∧ w.ownsRow B 5 1 v l.length (u8s l)
theorem GO.gr {w : World} {B : Nat} {v : Value} {l : List Int} (h : GO w B v l) : Gr w B v l := ⟨h.1, .inl h.2⟩
theorem GO.by_ {w : World} {B : Nat} {v : Value} {l : List Int} (h : GO w B v l) {S : Nat → Prop} (hS : ∀ b, B ≤ b → S b) : ∃ a c, v = .slice a l.length c ∧ l.length ≤ c ∧ By w S a l := by
  obtain ⟨a, c, e, h1, _, h2⟩ := By.of_owns (S := S) h.2 h.1 (fun g hg => hS g (owns_lt h.2 hg).2)
  exact ⟨a, c, e, h1, h2⟩
/-- 'append' of bytes, some or none. -/
theorem GO.push {w : World} {B : Nat} {a0 : Option Addr} {k c0 : Nat} {l : List Int} (h : GO w B (.slice a0 k c0) l) (hk : l.length = k) (hB : B ≤ w.heap.size) (m : List Int) (a : Option Addr) (n c : Nat) (hn : m.length = n) (hm : Bytes w a m) (hl : k + n ≤ 900000) (ty : TypeId) :
    ∃ a' c' w', (Builtin.append_ #[26, 26] ty #[.slice a0 k c0, .slice a n c]).run Tryz.prog w = .ok (.slice a' (k + n) c') w' ∧ GO w' B (.slice a' (k + n) c') (l ++ m) ∧ Below B w w' := by
  subst hk
  by_cases hp : 0 < n
  · obtain ⟨b, off, rfl, hcur⟩ := hm.open_ (by omega)
    obtain ⟨a2, c2, w2, hap, hg2, ho2, hb2, _, _⟩ := h.gr.push hB m hm.isB (by omega) ⟨b, off, none⟩ n c hn (fun j u hj => by
      have hj2 : j < m.length := by have := (List.getElem?_eq_some_iff.1 hj).1; simpa using this
      rw [u8s_get hj2] at hj
      rw [add_addr, hcur j hj2]
      simpa using hj) (by omega) ty
    exact ⟨a2, c2, w2, hap, ⟨hg2.1, by rw [List.length_append, hn]; exact ho2⟩, hb2⟩
  · obtain rfl : n = 0 := by omega
    obtain rfl : m = [] := List.eq_nil_of_length_eq_zero hn
    obtain ⟨i0, hi, hz0, hz1, hz2⟩ := info5b
    have hs : Src Tryz.prog i0.size 26 (.slice a 0 c) 0 [] w := by
      cases a with
      | none => exact Src.ofNil _ Tryz.underlying26 c
      | some ad => exact Src.ofSlice _ Tryz.underlying26 ad 0 c [] (by simp) (fun j u hj => by simp at hj) (fun u hu => by simp at hu)
    obtain ⟨a1, c1, e1, h1, _⟩ := h.by_ (S := fun _ => True) (fun _ _ => trivial)
    simp only [Value.slice.injEq, true_and] at e1
    obtain ⟨rfl, rfl⟩ := e1
    refine ⟨a0, c0, w, run_append_nothing _ 26 26 ty 5 i0 Tryz.underlying26 hi _ _ _ h1 _ hs, ?_, Below.refl _ _⟩
    rw [List.append_nil, Nat.add_zero]
    exact h
set_option maxRecDepth 100000 in
theorem cutH_run (a : Option Addr) (len cap hi : Nat) (hh : hi ≤ cap) (W : World) : (Instr.slice 26 (.slice a len cap) none (some (.int .i64 hi)) none).run Tryz.prog W = .ok (.slice a hi cap) W := by
  have hz : (sizeOf 5).run Tryz.prog W = .ok 1 W := by kernel_rfl
  rw [run_slice_h (P := Tryz.prog) W 26 a len cap Tryz.underlying26 .i64 hi (by omega) (by omega)]
  have e : Tryz.prog.elem 26 = 5 := by kernel_rfl
  rw [e, hz]
  cases a <;> simp [sliced, Addr.add]
theorem wpList_append_run2 {P : Program} {w : World} {ops : Array Oper} {rest : List Oper} {o : Oper} {a : Act} {Q : Exit → Act → World → Prop} (hgd : o.guard = none) (s x : Operand) (t u : TypeId)
    (ho : o.op = .call { callee := .builtin .append, args := #[s, x], argTypes := #[t, u] }) {v y v' : Value} {w' : World} (hs : a.eval s = v) (hx : a.eval x = y)
    (hrun : (Builtin.append_ #[t, u] o.type #[v, y]).run P w = .ok v' w') (h : wpList P ops Q rest (a.put o.dst v') w') : wpList P ops Q (o :: rest) a w := by
  refine wpList_plain hgd fun K hK => ?_
  unfold Oper.wp execOp
  simp only [ho, resolve, invoke, builtin, Sem.run_bind, Sem.run_pure, Result.andThen_ok, List.map_toArray, List.map_cons, List.map_nil, hs, hx, hrun]
  exact hK _ _ h
theorem flat_snoc (ls : List (List Int)) (k : Nat) (h : k < ls.length) : (ls.take (k + 1)).flatten = (ls.take k).flatten ++ ls.getD k [] := by
  have e : ls.getD k [] = ls[k] := by simp [List.getD, h]
  rw [e, List.take_succ_eq_append_getElem h, List.flatten_append, List.flatten_cons, List.flatten_nil, List.append_nil]
end Go.Proofs.YtgeecahpfjllgaaGreatDoor
