/- EcA, EcB, EcC in one text. -/
import Derived.Test.YtbfdkbdjipiliaaDoorEbS
/- Six bytes as an array: firstSix, head. -/
namespace Go.Proofs.YtbfdkbdjipiliaaDoor
open Go.RowKit Go.Maps
set_option linter.unusedVariables false

structure Mac where
  a : Int
  b : Int
  c : Int
  d : Int
  e : Int
  f : Int
deriving DecidableEq
def Mac.l (m : Mac) : List Int := [m.a, m.b, m.c, m.d, m.e, m.f]
def Mac.ok (m : Mac) : Prop := ∀ x ∈ m.l, IsB x
abbrev macC (m : Mac) : Array Value := #[.int .u8 m.a, .int .u8 m.b, .int .u8 m.c, .int .u8 m.d, .int .u8 m.e, .int .u8 m.f]
abbrev zero6 : Array Value := #[.int .u8 0, .int .u8 0, .int .u8 0, .int .u8 0, .int .u8 0, .int .u8 0]
def macOf (l : List Int) : Mac := ⟨l.getD 0 0, l.getD 1 0, l.getD 2 0, l.getD 3 0, l.getD 4 0, l.getD 5 0⟩
theorem macOf_l (l : List Int) (h : 6 ≤ l.length) : (macOf l).l = l.take 6 := by
  match l, h with
  | a :: b :: c :: d :: e :: f :: r, _ => simp [macOf, Mac.l]
theorem macOf_ok (l : List Int) (h : 6 ≤ l.length) (hl : ∀ x ∈ l, IsB x) : (macOf l).ok := by
  unfold Mac.ok; rw [macOf_l l h]; exact fun x hx => hl x (List.mem_of_mem_take hx)
theorem Mac.len (m : Mac) : m.l.length = 6 := rfl
theorem macOf_mac (m : Mac) (r : List Int) : macOf (m.l ++ r) = m := rfl
theorem Mac.ext_l {m k : Mac} (h : m.l = k.l) : m = k := by
  cases m; cases k; simp only [Mac.l, List.cons.injEq] at h; simp [h]
theorem below_alloc {B : Nat} {w0 w : World} (h : Below B w0 w) (hB : B ≤ w.heap.size) (o : Obj) : Below B w0 (w.alloc o) := h.alloc hB o

theorem macC_one (m : Mac) : (macC m).all (·.oneCell') = true := by simp [Value.oneCell']
theorem row6 {w : World} {g : Nat} {t : TypeId} {f : Nat → Value} (h : w.rowIs g t 6 f) : w.heap[g]? = some (.cells #[f 0, f 1, f 2, f 3, f 4, f 5] t (0, 0)) := by
  obtain ⟨c, hh, hs, hc⟩ := h
  have e : c = #[f 0, f 1, f 2, f 3, f 4, f 5] := by
    apply Array.ext_getElem?
    intro i
    by_cases hi : i < 6
    · rw [hc i hi]
      rcases (show i = 0 ∨ i = 1 ∨ i = 2 ∨ i = 3 ∨ i = 4 ∨ i = 5 by omega) with rfl | rfl | rfl | rfl | rfl | rfl <;> rfl
    · rw [Array.getElem?_eq_none (by omega), Array.getElem?_eq_none (by simp; omega)]
  rw [← e]; exact hh
/-- What each message begins with. -/
def headM : Mac := ⟨0, 1, 8, 0, 6, 4⟩
theorem set6_heap {w : World} {g : Nat} {z0 z1 z2 z3 z4 z5 : Value} {t : TypeId} (h : w.heap[g]? = some (.cells #[z0, z1, z2, z3, z4, z5] t (0, 0))) (a0 a1 a2 a3 a4 a5 : Value) : ((((((w.setCell ⟨g, 0, none⟩ a0).setCell ⟨g, 1, none⟩ a1).setCell ⟨g, 2, none⟩ a2).setCell ⟨g, 3, none⟩ a3).setCell ⟨g, 4, none⟩ a4).setCell ⟨g, 5, none⟩ a5).heap[g]? = some (.cells #[a0, a1, a2, a3, a4, a5] t (0, 0)) := by
  have k0 := setc h 0 a0
  have k1 := setc k0 1 a1
  have k2 := setc k1 2 a2
  have k3 := setc k2 3 a3
  have k4 := setc k3 4 a4
  have k5 := setc k4 5 a5
  rw [k5]; rfl
theorem eqS {d e c : Nat} {xs ys : Array Value} {i : Nat} {is : List Nat} {k : IntKind} (x y : Int) {r : Bool} {w : World} (hu : Tryd.prog.underlying e = some (.int k)) (ha : (part e xs (i * c)).run Tryd.prog w = .ok (.int k x) w) (hb : (part e ys (i * c)).run Tryd.prog w = .ok (.int k y) w)
    (hs : (Op.eqItems (d + 1) e c xs ys is).run Tryd.prog w = .ok r w) : (Op.eqItems (d + 1) e c xs ys (i :: is)).run Tryd.prog w = .ok (decide (x = y) && r) w := by
  unfold Op.eqItems
  simp only [Sem.run_bind, ha, hb, Result.andThen_ok, run_equalIn_int w d e k k x y hu]
  by_cases h : x = y
  · subst h
    simpa using hs
  · simp [h]
theorem item6 (x0 x1 x2 x3 x4 x5 : Value) (w : World) : (part 5 #[x0, x1, x2, x3, x4, x5] (0 * 1)).run Tryd.prog w = .ok x0 w ∧ (part 5 #[x0, x1, x2, x3, x4, x5] (1 * 1)).run Tryd.prog w = .ok x1 w ∧ (part 5 #[x0, x1, x2, x3, x4, x5] (2 * 1)).run Tryd.prog w = .ok x2 w ∧ (part 5 #[x0, x1, x2, x3, x4, x5] (3 * 1)).run Tryd.prog w = .ok x3 w ∧ (part 5 #[x0, x1, x2, x3, x4, x5] (4 * 1)).run Tryd.prog w = .ok x4 w ∧ (part 5 #[x0, x1, x2, x3, x4, x5] (5 * 1)).run Tryd.prog w = .ok x5 w := by
  refine ⟨?_, ?_, ?_, ?_, ?_, ?_⟩ <;> kernel_rfl
end Go.Proofs.YtbfdkbdjipiliaaDoor

/- Hosts: hostOf. -/
namespace Go.Proofs.YtbfdkbdjipiliaaDoor
open Go.RowKit Go.Maps
set_option linter.unusedVariables false

abbrev hostC (m : Mac) (ip : Int) : Array Value := #[.int .u8 m.a, .int .u8 m.b, .int .u8 m.c, .int .u8 m.d, .int .u8 m.e, .int .u8 m.f, .int .u32 ip]
theorem hostC_one (m : Mac) (ip : Int) : (hostC m ip).all (·.oneCell') = true := by simp [Value.oneCell']
/-- The number of four bytes at a place. -/
def ipAt (l : List Int) (k : Nat) : Int := beOf ((l.drop k).take 4)
theorem isB_cut {l : List Int} (h : ∀ x ∈ l, IsB x) (k n : Nat) : ∀ x ∈ (l.drop k).take n, IsB x := fun x hx => h x (List.mem_of_mem_drop (List.mem_of_mem_take hx))
theorem be_cut_bd (l : List Int) (k n : Nat) (h : ∀ x ∈ l, IsB x) (hk : k + n ≤ l.length) : 0 ≤ beOf ((l.drop k).take n) ∧ beOf ((l.drop k).take n) < 256 ^ n := by
  have := beOf_bd _ (isB_cut h k n)
  rwa [show ((l.drop k).take n).length = n by simp; omega] at this
theorem ipAt_bd (l : List Int) (k : Nat) (h : ∀ x ∈ l, IsB x) (hk : k + 4 ≤ l.length) : IsU (ipAt l k) := by
  have := be_cut_bd l k 4 h hk
  unfold IsU ipAt; omega
/-- num.Be where the bytes are. -/
theorem be_in (w : World) (a : Option Addr) (n c : Nat) (l : List Int) (k m : Nat) (hn : l.length = n) (hc : n ≤ c) (hm : n ≤ maxLen) (hw : widB m = true) (hk : k + m ≤ n) (hb : Bytes w a l) :
    Calls Tryd.prog 69 #[.slice a n c, .int .i64 k, .int .i64 m] w fun e w' => e = .returned (.tuple #[.int .u64 (beOf ((l.drop k).take m)), .int .i64 0]) ∧ Below w.heap.size w w' := by
  refine (numBe_at a n c l k m w hn (by omega) hc hb).mono ?_
  rintro e w' ⟨rfl, q, rfl⟩
  have hi : insB l.length k m = true := by simp [insB]; omega
  obtain ⟨e1, _, e2⟩ := rd_yes l k m hw hi
  rw [← hn, e1, e2]
  exact ⟨rfl, below_drewN (Below.refl _ _) q⟩
end Go.Proofs.YtbfdkbdjipiliaaDoor

/- readMessage. -/
namespace Go.Proofs.YtbfdkbdjipiliaaDoor
open Go.RowKit Go.Maps
set_option linter.unusedVariables false

abbrev msgC (what : Int) (m : Mac) (i : Int) (k : Mac) (j : Int) : Array Value := #[.int .i64 what, .int .u8 m.a, .int .u8 m.b, .int .u8 m.c, .int .u8 m.d, .int .u8 m.e, .int .u8 m.f, .int .u32 i, .int .u8 k.a, .int .u8 k.b, .int .u8 k.c, .int .u8 k.d, .int .u8 k.e, .int .u8 k.f, .int .u32 j]
abbrev msg0 : Array Value := #[.int .i64 0, .int .u8 0, .int .u8 0, .int .u8 0, .int .u8 0, .int .u8 0, .int .u8 0, .int .u32 0, .int .u8 0, .int .u8 0, .int .u8 0, .int .u8 0, .int .u8 0, .int .u8 0, .int .u32 0]
theorem msgC_one (what : Int) (m : Mac) (i : Int) (k : Mac) (j : Int) : (msgC what m i k j).all (·.oneCell') = true := by simp [Value.oneCell']
theorem msg0_one : msg0.all (·.oneCell') = true := by simp [Value.oneCell']
/-- What a message is: 1 or 2. -/
def opOf (l : List Int) : Int := beOf ((l.drop 6).take 2)
def badM (l : List Int) : Prop := macOf l ≠ headM ∨ (opOf l ≠ 1 ∧ opOf l ≠ 2)
theorem opOf_bd (l : List Int) (h : ∀ x ∈ l, IsB x) (hk : 8 ≤ l.length) : 0 ≤ opOf l ∧ opOf l < 65536 := by
  have := be_cut_bd l 6 2 h (by omega)
  unfold opOf; omega
set_option maxRecDepth 100000 in
theorem cutLa (b off len cap lo : Nat) (h : lo ≤ len) (hc : len ≤ cap) : ∃ ad : Addr, (∀ W : World, (Instr.slice 27 (.slice (some ⟨b, off, none⟩) len cap) (some (.int .i64 lo)) none none).run Tryd.prog W = .ok (.slice (some ad) (len - lo) (cap - lo)) W) ∧ ∀ (w : World) (l : List Int), l.length = len → Bytes w (some ⟨b, off, none⟩) l → Bytes w (some ad) (l.drop lo) := by
  by_cases h2 : cap = lo
  · refine ⟨⟨b, off, none⟩, fun W => ?_, fun w l hl _ => ?_⟩
    · have hz : (sizeOf 5).run Tryd.prog W = .ok 1 W := by kernel_rfl
      rw [run_slice_l (P := Tryd.prog) W 27 (some ⟨b, off, none⟩) len cap Tryd.underlying27 .i64 lo (by omega) (by omega)]
      have e : Tryd.prog.elem 27 = 5 := by kernel_rfl
      rw [e, hz]
      simp [sliced, h2]
    · rw [List.drop_of_length_le (by omega)]; exact Bytes.nil_ _ _
  · refine ⟨⟨b, off + lo, none⟩, fun W => ?_, fun w l hl hb => ?_⟩
    · have hz : (sizeOf 5).run Tryd.prog W = .ok 1 W := by kernel_rfl
      rw [run_slice_l (P := Tryd.prog) W 27 (some ⟨b, off, none⟩) len cap Tryd.underlying27 .i64 lo (by omega) (by omega)]
      have e : Tryd.prog.elem 27 = 5 := by kernel_rfl
      rw [e, hz]
      simp [sliced, Addr.add, h2]
    · have := hb.cut lo (len - lo)
      rwa [List.take_of_length_le (by simp; omega)] at this
theorem cutL (b off len cap lo : Nat) (h : lo ≤ len) (hc : len ≤ cap) : ∃ a', (∀ W : World, (Instr.slice 27 (.slice (some ⟨b, off, none⟩) len cap) (some (.int .i64 lo)) none none).run Tryd.prog W = .ok (.slice a' (len - lo) (cap - lo)) W) ∧ ∀ (w : World) (l : List Int), l.length = len → Bytes w (some ⟨b, off, none⟩) l → Bytes w a' (l.drop lo) := by
  obtain ⟨ad, h1, h2⟩ := cutLa b off len cap lo h hc
  exact ⟨some ad, h1, h2⟩
theorem cutLs (b off len cap lo : Nat) (h : lo ≤ len) (hc : len ≤ cap) : ∃ a', (∀ W : World, (Instr.slice 27 (.slice (some ⟨b, off, none⟩) len cap) (some (.int .i64 lo)) none none).run Tryd.prog W = .ok (.slice a' (len - lo) (cap - lo)) W) ∧ (∀ (w : World) (l : List Int), l.length = len → Bytes w (some ⟨b, off, none⟩) l → Bytes w a' (l.drop lo)) ∧ ∃ ad, a' = some ad := by
  obtain ⟨ad, h1, h2⟩ := cutLa b off len cap lo h hc
  exact ⟨some ad, h1, h2, ad, rfl⟩
end Go.Proofs.YtbfdkbdjipiliaaDoor
