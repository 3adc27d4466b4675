/- Sums, prefixes, numbers at places: the program's. -/
import Derived.Test.YtbimociijdaahaaDoorVbA
import Derived.Lib.SlBytesConst
import Derived.Laws.BytesArg
import Derived.Lib.Bytes
namespace Go.Proofs.YtbimociijdaahaaDoor
open Go.RowKit Go.Maps
set_option linter.unusedVariables false

theorem Tab.later {w w' : World} (h : Tab w) (hb : Below w.heap.size w w') : Tab w' := fun i hi => cell_later hb (h i hi)
theorem rows_new (w : World) (l : List Int) (a : Option Addr) (c n : Nat) (hn : n = l.length) (h : Bytes w a l) : RowsOf (w.alloc (.cells #[.slice a n c] 23)) (some ⟨w.heap.size, 0, none⟩) [l] := by
  subst hn
  intro i hi
  obtain rfl : i = 0 := by simp at hi; omega
  refine ⟨w.heap.size, 0, a, c, rfl, ?_, ?_⟩
  · rw [Nat.zero_add, new_cell _ _ _ _ 0 (by simp)]; simp
  · exact h.later ((Below.refl _ _).alloc (Nat.le_refl _) _)
/-- num.Crc of one row. -/
theorem crc1 (w : World) (a : Option Addr) (n c cc : Nat) (l : List Int) (hn : n = l.length) (hl : n ≤ 1000000) (h : Bytes w a l) (hT : Tab w) :
    Calls Tryd.prog 24 #[.slice (some ⟨w.heap.size, 0, none⟩) 1 cc] (w.alloc (.cells #[.slice a n c] 23)) fun e w' => e = .returned (.int .u32 (crcL l)) ∧ w' = w.alloc (.cells #[.slice a n c] 23) := by
  have hb : Below w.heap.size w (w.alloc (.cells #[.slice a n c] 23)) := (Below.refl _ _).alloc (Nat.le_refl _) _
  have := crc_any (some ⟨w.heap.size, 0, none⟩) cc [l] (w.alloc (.cells #[.slice a n c] 23)) (by simp) (by simp; omega) (rows_new w l a c n hn h) (hT.later hb)
  simpa [crcL] using this
theorem bytesOf_inj : ∀ (l m : List Int), (∀ x ∈ l, IsB x) → (∀ x ∈ m, IsB x) → Lib.bytesOf l = Lib.bytesOf m → l = m := by
  intro l
  induction l with
  | nil => intro m _ _ h; cases m with
    | nil => rfl
    | cons y m => simp [Lib.bytesOf] at h
  | cons x l ih => intro m hl hm h; cases m with
    | nil => simp [Lib.bytesOf] at h
    | cons y m =>
      simp only [Lib.bytesOf, List.map_cons, List.cons.injEq] at h
      have e1 := ih m (fun z hz => hl z (by simp [hz])) (fun z hz => hm z (by simp [hz])) h.2
      have hx := hl x (by simp)
      have hy := hm y (by simp)
      unfold IsB at hx hy
      have e2 := congrArg UInt8.toNat h.1
      simp at e2
      have : x = y := by omega
      rw [this, e1]
theorem bytes_conv {w : World} {a : Option Addr} {cap k : Nat} {l : List Int} (h : Bytes w a l) (hk : l.length = k) : ∀ q : Nat, (convert 23 9 (.slice a k cap)).run Tryd.prog (w.drewN q) = .ok (.string (strOfNums l)) (w.drewN q) := by
  intro q
  by_cases hp : 0 < l.length
  · obtain ⟨b, off, rfl, hc⟩ := h.open_ hp
    exact run_convert_bytes_arg (w.drewN q) (P := Tryd.prog) 23 5 Tryd.underlying23 Tryd.underlying5 b off k cap l hk (fun i hi => hc i (by omega)) 9 Tryd.underlying9
  · obtain rfl : l = [] := List.eq_nil_of_length_eq_zero (by omega)
    simp at hk
    subst hk
    cases a with
    | none => exact run_convert_bytes_nil (w.drewN q) 23 5 Tryd.underlying23 Tryd.underlying5 0 cap 9 Tryd.underlying9
    | some a =>
      show (convert 23 9 (.slice (some a) 0 cap)).run Tryd.prog (w.drewN q) = _
      rw [run_convert_bytes_string (w.drewN q) 23 9 5 _ _ cap Tryd.underlying23 Tryd.underlying5 Tryd.underlying9, run_bytesToString (w.drewN q) a 0 cap [] (by simpa using run_loadCells_list (P := Tryd.prog) (w.drewN q) a [] (fun j v hj => by simp at hj))]
      rfl
theorem conv0 {w : World} {a : Option Addr} {cap k : Nat} {l : List Int} (h : Bytes w a l) (hk : l.length = k) : (convert 23 9 (.slice a k cap)).run Tryd.prog w = .ok (.string (strOfNums l)) w := bytes_conv h hk 0
theorem str_eq {l m : List Int} (hl : ∀ x ∈ l, IsB x) (hm : ∀ x ∈ m, IsB x) : ((strOfNums l).toList == (strOfNums m).toList) = decide (l = m) := by
  rw [Lib.strOfNums_toList, Lib.strOfNums_toList]
  by_cases h : l = m
  · subst h; simp
  · rw [decide_eq_false h, beq_eq_false_iff_ne]
    exact fun e => h (bytesOf_inj l m hl hm e)
set_option maxRecDepth 100000 in
set_option maxHeartbeats 400000 in
theorem Equal_any (w : World) (a b : Option Addr) (n k ca cb : Nat) (l m : List Int) (hl : l.length = n) (hm : m.length = k) (h1 : Bytes w a l) (h2 : Bytes w b m) :
    Calls Tryd.prog 36 #[.slice a n ca, .slice b k cb] w fun e w' => e = .returned (.bool (decide (l = m))) ∧ w' = w := by
  have c1 := conv0 (cap := ca) h1 hl
  have c2 := conv0 (cap := cb) h2 hm
  rw [← str_eq h1.isB h2.isB]
  generalize strOfNums l = s1 at *
  generalize strOfNums m = s2 at *
  clear hl hm h1 h2
  go_enter Tryd.func36, Tryd.ntmps36
  go_wp2
  go_ret
  exact ⟨rfl, rfl⟩
set_option maxRecDepth 100000 in
theorem cutH_run (a : Option Addr) (len cap hi : Nat) (hh : hi ≤ cap) (W : World) : (Instr.slice 23 (.slice a len cap) none (some (.int .i64 hi)) none).run Tryd.prog W = .ok (.slice a hi cap) W := by
  have hz : (sizeOf 5).run Tryd.prog W = .ok 1 W := by kernel_rfl
  rw [run_slice_h (P := Tryd.prog) W 23 a len cap Tryd.underlying23 .i64 hi (by omega) (by omega)]
  have e : Tryd.prog.elem 23 = 5 := by kernel_rfl
  rw [e, hz]
  cases a <;> simp [sliced, Addr.add]
set_option maxRecDepth 100000 in
set_option maxHeartbeats 1000000 in
theorem HasPrefix_any (w : World) (a b : Option Addr) (n k ca cb : Nat) (l m : List Int) (hl : l.length = n) (hm : m.length = k) (hle : k ≤ n) (hc : n ≤ ca) (hn : n ≤ 1000000) (h1 : Bytes w a l) (h2 : Bytes w b m) :
    Calls Tryd.prog 23 #[.slice a n ca, .slice b k cb] w fun e w' => e = .returned (.bool (decide (l.take k = m))) ∧ w' = w := by
  have hcut := cutH_run a n ca k (by omega) w
  have HC := hid (Equal_any w a b k k ca cb (l.take k) m (by rw [List.length_take]; omega) hm (h1.take k) h2)
  have hki : (k : Int) ≤ n := by omega
  generalize decide (l.take k = m) = r at *
  clear hl hm h1 h2
  go_enter Tryd.func23, Tryd.ntmps23
  go_wp2_with (go_at_call 36; refine HC.out.mono ?_; rintro e w1 ⟨rfl, hw1⟩; rw [hw1]; clear hw1)
  go_ret
  exact ⟨rfl, rfl⟩
/-- A number of n bytes at a place of bytes. -/
def rdN (l : List Int) (p n : Nat) : Int := leOf ((l.drop p).take n)
theorem rdN_bd (l : List Int) (p n : Nat) (h : ∀ x ∈ l, IsB x) (hn : n ≤ 8) : 0 ≤ rdN l p n ∧ rdN l p n < 256 ^ n := by
  have hb := leOf_bd ((l.drop p).take n) (fun x hx => h x (List.mem_of_mem_drop (List.mem_of_mem_take hx)))
  refine ⟨hb.1, Int.lt_of_lt_of_le hb.2 ?_⟩
  have hle : ((l.drop p).take n).length ≤ n := by simp; omega
  have h3 : ((256 ^ ((l.drop p).take n).length : Nat) : Int) ≤ ((256 ^ n : Nat) : Int) := Int.ofNat_le.2 (Nat.pow_le_pow_right (by decide : 0 < 256) hle)
  rw [Int.natCast_pow, Int.natCast_pow] at h3
  exact h3
theorem le_at (w : World) (a : Option Addr) (n cap p k : Nat) (x y : Int) (l : List Int) (hx : x = p) (hy : y = k) (hl : l.length = n) (hc : n ≤ cap) (hn : n ≤ 1000000) (hk : k = 4 ∨ k = 8) (hp : p + k ≤ n) (h : Bytes w a l) :
    Calls Tryd.prog 22 #[.slice a n cap, .int .i64 x, .int .i64 y] w fun e w' => e = .returned (.tuple #[.int .u64 (rdN l p k), .int .i64 0]) ∧ ∃ q, w' = w.drewN q := by
  subst hx hy hl
  have hw : widB ((k : Nat) : Int) = true := by rcases hk with rfl | rfl <;> rfl
  have := numLe_any a cap l p k w (by unfold maxLen; omega) hc h
  obtain ⟨e1, e2, _⟩ := rd_yes l p k hw (by simp [insB]; omega)
  rw [e1, e2] at this
  simp only [cutOf, Int.toNat_natCast] at this
  exact this
theorem strW {X Y : List Int} {B : List UInt8} (hX : ∀ x ∈ X, IsB x) (hY : ∀ x ∈ Y, IsB x) (e : (strOfNums Y).toList = B) : (strOfNums X).toList = B ↔ X = Y := by
  have := str_eq hX hY
  rw [e] at this
  constructor
  · intro h
    rw [h] at this
    simpa using this.symm
  · intro h
    rw [h]; exact e
theorem supW_str : (strOfNums supW).toList = [85, 78, 68, 67, 82, 79, 70, 49] := by rw [Lib.strOfNums_toList]; rfl
end Go.Proofs.YtbimociijdaahaaDoor
