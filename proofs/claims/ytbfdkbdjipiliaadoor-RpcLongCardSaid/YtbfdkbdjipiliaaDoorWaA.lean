/- The readers and writers of package num at this program: a number of 1, 2, 4 or 8 bytes is read and written, the lowest byte first. -/
import Derived.Test.YtbfdkbdjipiliaaDoorCcA
namespace Go.Proofs.YtbfdkbdjipiliaaDoor
open Go.RowKit
set_option linter.unusedVariables false
/-- A row of bytes as a number, the lowest byte first. -/
def leOf : List Int → Int
  | [] => 0
  | x :: l => x + 256 * leOf l
/-- The highest byte first, onto what there is. -/
def beOn (v : Int) : List Int → Int
  | [] => v
  | x :: l => beOn (v * 256 + x) l
def beOf (l : List Int) : Int := beOn 0 l
def widB (n : Int) : Bool := n == 1 || n == 2 || n == 4 || n == 8
theorem widB_cases {n : Int} (h : widB n = true) : n = 1 ∨ n = 2 ∨ n = 4 ∨ n = 8 := by
  simp [widB] at h; omega
def insB (len : Int) (at_ n : Int) : Bool := decide (0 ≤ at_) && decide (at_ + n ≤ len)
/-- What a reading answers beside the number. -/
def rdErr (len : Nat) (at_ n : Int) : Int := if widB n then (if insB len at_ n then 0 else 11) else 1
def cutOf (l : List Int) (at_ n : Int) : List Int := (l.drop at_.toNat).take n.toNat
def rdLe (l : List Int) (at_ n : Int) : Int := if widB n && insB l.length at_ n then leOf (cutOf l at_ n) else 0
def rdBe (l : List Int) (at_ n : Int) : Int := if widB n && insB l.length at_ n then beOf (cutOf l at_ n) else 0
def IsB (x : Int) : Prop := 0 ≤ x ∧ x < 256
theorem beOn_append (v : Int) (l : List Int) (x : Int) : beOn v (l ++ [x]) = beOn v l * 256 + x := by
  induction l generalizing v with
  | nil => rfl
  | cons y l ih => simp [beOn, ih]
theorem beOn_bd (v : Int) (l : List Int) (k : Nat) (h0 : 0 ≤ v) (h1 : v < 256 ^ k) (hl : ∀ x ∈ l, IsB x) : 0 ≤ beOn v l ∧ beOn v l < 256 ^ (k + l.length) := by
  induction l generalizing v k with
  | nil => exact ⟨h0, by simpa [beOn] using h1⟩
  | cons x l ih =>
    have hx := hl x (by simp)
    unfold IsB at hx
    have h2 : v * 256 + x < 256 ^ (k + 1) := by rw [Int.pow_succ]; omega
    have := ih (v * 256 + x) (k + 1) (by omega) h2 (fun y hy => hl y (by simp [hy]))
    simp only [beOn, List.length_cons]
    rw [show k + (l.length + 1) = k + 1 + l.length by omega]
    exact this
theorem beOf_bd (l : List Int) (hl : ∀ x ∈ l, IsB x) : 0 ≤ beOf l ∧ beOf l < 256 ^ l.length := by
  have := beOn_bd 0 l 0 (by omega) (by simp) hl
  simpa [beOf] using this
theorem take_snoc (l : List Int) (k : Nat) (h : k < l.length) : l.take (k + 1) = l.take k ++ [l.getD k 0] := by
  rw [List.take_succ_eq_append_getElem h]; simp [List.getD, h]
theorem beOf_snoc (l : List Int) (k : Nat) (h : k < l.length) : beOf (l.take (k + 1)) = beOf (l.take k) * 256 + l.getD k 0 := by
  rw [take_snoc l k h]; exact beOn_append _ _ _
theorem mem_getD (l : List Int) (P : Int → Prop) (h : ∀ x ∈ l, P x) (k : Nat) (hk : k < l.length) : P (l.getD k 0) := by
  have : l.getD k 0 = l[k] := by simp [List.getD, hk]
  rw [this]; exact h _ (List.getElem_mem hk)
/-- The one order is the other turned about: 'beOf' of a row of at most n bytes, its lowest byte taken off again and again. -/
def turnAbout (v u : Int) : Nat → Int
  | 0 => u
  | n + 1 => turnAbout (v / 256) (u * 256 + v % 256) n
theorem turnAbout_snoc (v u : Int) (n : Nat) : turnAbout v u (n + 1) = turnAbout v u n * 256 + v / 256 ^ n % 256 := by
  induction n generalizing v u with
  | zero => simp [turnAbout]
  | succ n ih =>
    rw [turnAbout, ih]
    rw [turnAbout]
    congr 2
    rw [Int.ediv_ediv_of_nonneg (by decide)]
    rw [Int.pow_succ, Int.mul_comm]
theorem leOf_append (l : List Int) (x : Int) : leOf (l ++ [x]) = leOf l + 256 ^ l.length * x := by
  induction l with
  | nil => simp [leOf]
  | cons y l ih =>
    simp only [List.cons_append, leOf, ih, List.length_cons, Int.pow_succ]
    rw [Int.mul_add, ← Int.mul_assoc, Int.add_assoc, Int.mul_comm 256 (256 ^ l.length)]
theorem turnAbout_be (l : List Int) (hl : ∀ x ∈ l, IsB x) (u : Int) : turnAbout (beOf l) u l.length = u * 256 ^ l.length + leOf l := by
  obtain ⟨n, hn⟩ : ∃ n, l.length = n := ⟨_, rfl⟩
  induction n generalizing l u with
  | zero => obtain rfl := List.eq_nil_of_length_eq_zero hn; simp [turnAbout, leOf]
  | succ n ih =>
    have hne : l ≠ [] := by intro e; simp [e] at hn
    obtain ⟨m, x, rfl⟩ : ∃ m x, l = m ++ [x] := ⟨l.dropLast, l.getLast hne, (List.dropLast_concat_getLast hne).symm⟩
    have hm : m.length = n := by simpa using hn
    have hx := hl x (by simp)
    unfold IsB at hx
    have hb : beOf (m ++ [x]) = beOf m * 256 + x := beOn_append _ _ _
    have e1 : (beOf m * 256 + x) / 256 = beOf m := by omega
    have e2 : (beOf m * 256 + x) % 256 = x := by omega
    rw [hn, turnAbout, hb, e1, e2, ← hm, ih m (fun y hy => hl y (by simp [hy])) _ hm, leOf_append, hm, Int.pow_succ, Int.add_mul, Int.mul_assoc, Int.mul_comm 256 (256 ^ n), Int.mul_comm x]
    omega
theorem ret_int {k : IntKind} {a b : Int} (h : a = b) : Ending.returned (.int k a) = .returned (.int k b) := by rw [h]
theorem ret_bool {a b : Bool} (h : a = b) : Ending.returned (.bool a) = .returned (.bool b) := by rw [h]
theorem ret_int2 {k k' : IntKind} {a b c d : Int} (h : a = b) (h' : c = d) : Ending.returned (.tuple #[.int k a, .int k' c]) = .returned (.tuple #[.int k b, .int k' d]) := by rw [h, h']
/-- A row of bytes in memory: what a slice of 'l.length' bytes with address 'a' holds. -/
def Bytes (w : World) (a : Option Addr) (l : List Int) : Prop :=
  ∀ i, i < l.length → ∃ b off, a = some ⟨b, off, none⟩ ∧ w.cell? ⟨b, off + i, none⟩ = some (.int .u8 (l.getD i 0)) ∧ IsB (l.getD i 0)
theorem Bytes.open_ {w : World} {a : Option Addr} {l : List Int} (h : Bytes w a l) (hp : 0 < l.length) :
    ∃ b off, a = some ⟨b, off, none⟩ ∧ ∀ i, i < l.length → w.cell? ⟨b, off + i, none⟩ = some (.int .u8 (l.getD i 0)) := by
  obtain ⟨b, off, ha, _, _⟩ := h 0 hp
  refine ⟨b, off, ha, fun i hi => ?_⟩
  obtain ⟨b', off', ha', hc, _⟩ := h i hi
  rw [ha] at ha'
  simp at ha'
  obtain ⟨rfl, rfl⟩ := ha'
  exact hc
theorem Bytes.isB {w : World} {a : Option Addr} {l : List Int} (h : Bytes w a l) : ∀ x ∈ l, IsB x := by
  intro x hx
  obtain ⟨i, hi, rfl⟩ := List.getElem_of_mem hx
  obtain ⟨_, _, _, _, hb⟩ := h i hi
  simpa [List.getD, hi] using hb
theorem Bytes.mk_ {w : World} {b off : Nat} {l : List Int} (hl : ∀ x ∈ l, IsB x) (h : ∀ i, i < l.length → w.cell? ⟨b, off + i, none⟩ = some (.int .u8 (l.getD i 0))) : Bytes w (some ⟨b, off, none⟩) l :=
  fun i hi => ⟨b, off, rfl, h i hi, mem_getD l IsB hl i hi⟩
theorem Bytes.later {w w' : World} {a : Option Addr} {l : List Int} (h : Bytes w a l) (hb : Below w.heap.size w w') : Bytes w' a l := by
  intro i hi
  obtain ⟨b, off, ha, hc, hx⟩ := h i hi
  exact ⟨b, off, ha, cell_later hb hc, hx⟩
theorem Bytes.drewN {w : World} {a : Option Addr} {l : List Int} (h : Bytes w a l) (n : Nat) : Bytes (w.drewN n) a l := h
theorem getD_cut (l : List Int) (k n i : Nat) (hi : i < n) : ((l.drop k).take n).getD i 0 = l.getD (k + i) 0 := by
  simp [List.getD, hi]
theorem Bytes.cut {w : World} {b off : Nat} {l : List Int} (h : Bytes w (some ⟨b, off, none⟩) l) (k n : Nat) : Bytes w (some ⟨b, off + k, none⟩) ((l.drop k).take n) := by
  intro i hi
  simp at hi
  obtain ⟨b', off', ha, hc, hx⟩ := h (k + i) (by omega)
  simp at ha
  obtain ⟨rfl, rfl⟩ := ha
  rw [getD_cut l k n i (by omega)]
  exact ⟨b, off + k, rfl, by rw [Nat.add_assoc]; exact hc, hx⟩
theorem Bytes.take {w : World} {a : Option Addr} {l : List Int} (h : Bytes w a l) (n : Nat) : Bytes w a (l.take n) := by
  intro i hi
  simp at hi
  obtain ⟨b, off, ha, hc, hx⟩ := h i (by omega)
  have e : (l.take n).getD i 0 = l.getD i 0 := by
    have h1 : i < n := by omega
    have h2 : i < l.length := by omega
    simp [List.getD, h1, h2]
  rw [e]
  exact ⟨b, off, ha, hc, hx⟩
theorem Bytes.nil_ (w : World) (a : Option Addr) : Bytes w a [] := fun i hi => by simp at hi
theorem or_u64 (i : Nat) (x y : Int) (hi : i ≤ 64) (hx0 : 0 ≤ x) (hx : x % 2 ^ i = 0) (hx1 : x < 2 ^ 64) (hy0 : 0 ≤ y) (hy : y < 2 ^ i) : bits .or .u64 x y = x + y :=
  bits_join .u64 64 (by decide) (fun n h0 h1 => by rw [IntKind.wrap_u64]; omega) i x y hx0 hx hx1 hy0 hy (by
    have h2 : (2 : Int) ^ i ≤ 2 ^ 64 := by exact_mod_cast Nat.pow_le_pow_right (by decide) hi
    exact Int.lt_of_lt_of_le hy h2)
theorem or_zero_u64 (y : Int) (hy0 : 0 ≤ y) (hy : y < 18446744073709551616) : bits .or .u64 0 y = y := by
  have := or_u64 64 0 y (by decide) (by decide) (by decide) (by decide) hy0 hy
  simpa using this
set_option maxHeartbeats 400000 in
theorem isWidth_any (n : Int) (w : World) : Calls Tryd.prog 59 #[.int .i64 n] w fun e w' => e = .returned (.bool (widB n)) ∧ w' = w := by
  cases hw : widB n
  · have g1 : (n == 1) = false := by simp [widB] at hw; simp [hw]
    have g2 : (n == 2) = false := by simp [widB] at hw; simp [hw]
    have g4 : (n == 4) = false := by simp [widB] at hw; simp [hw]
    have g8 : (n == 8) = false := by simp [widB] at hw; simp [hw]
    clear hw
    go_enter Tryd.func59, Tryd.ntmps59
    go_wp2
    go_ret
    exact ⟨rfl, rfl⟩
  · rcases widB_cases hw with rfl | rfl | rfl | rfl
    all_goals
      clear hw
      go_enter Tryd.func59, Tryd.ntmps59
      go_wp2
      go_ret
      exact ⟨rfl, rfl⟩
theorem ret_sl2 {a : Option Addr} {n m c : Nat} {k : IntKind} {x : Int} (h : n = m) : Ending.returned (.tuple #[.slice a n c, .int k x]) = .returned (.tuple #[.slice a m c, .int k x]) := by rw [h]
theorem Bytes.at_ {w : World} {b off : Nat} {l : List Int} (h : Bytes w (some ⟨b, off, none⟩) l) (i : Nat) (hi : i < l.length) : w.cell? ⟨b, off + i, none⟩ = some (.int .u8 (l.getD i 0)) := by
  obtain ⟨b', off', ha, hc, _⟩ := h i hi
  simp at ha
  obtain ⟨rfl, rfl⟩ := ha
  exact hc
theorem low4 (x0 x1 x2 x3 : Int) (h0 : IsB x0) (h1 : IsB x1) (h2 : IsB x2) (h3 : IsB x3) :
    bits .or .u64 (bits .or .u64 (bits .or .u64 0 (bits .or .u64 (x3 * 16777216) (x2 * 65536))) (x1 * 256)) x0 = leOf [x0, x1, x2, x3] := by
  unfold IsB at *
  rw [or_u64 24 (x3 * 16777216) (x2 * 65536) (by decide) (by omega) (by omega) (by omega) (by omega) (by omega), or_zero_u64 _ (by omega) (by omega), or_u64 16 _ (x1 * 256) (by decide) (by omega) (by omega) (by omega) (by omega) (by omega), or_u64 8 _ x0 (by decide) (by omega) (by omega) (by omega) (by omega) (by omega)]
  simp only [leOf]; omega
theorem low8 (x0 x1 x2 x3 x4 x5 x6 x7 : Int) (h0 : IsB x0) (h1 : IsB x1) (h2 : IsB x2) (h3 : IsB x3) (h4 : IsB x4) (h5 : IsB x5) (h6 : IsB x6) (h7 : IsB x7) :
    bits .or .u64 (bits .or .u64 (bits .or .u64 (bits .or .u64 (bits .or .u64 (bits .or .u64 (x7 * 72057594037927936) (x6 * 281474976710656)) (x5 * 1099511627776)) (x4 * 4294967296)) (bits .or .u64 (x3 * 16777216) (x2 * 65536))) (x1 * 256)) x0 = leOf [x0, x1, x2, x3, x4, x5, x6, x7] := by
  unfold IsB at *
  rw [or_u64 24 (x3 * 16777216) (x2 * 65536) (by decide) (by omega) (by omega) (by omega) (by omega) (by omega)]
  rw [or_u64 56 (x7 * 72057594037927936) _ (by decide) (by omega) (by omega) (by omega) (by omega) (by omega)]
  rw [or_u64 48 _ (x5 * 1099511627776) (by decide) (by omega) (by omega) (by omega) (by omega) (by omega)]
  rw [or_u64 40 _ (x4 * 4294967296) (by decide) (by omega) (by omega) (by omega) (by omega) (by omega)]
  rw [or_u64 32 _ (x3 * 16777216 + x2 * 65536) (by decide) (by omega) (by omega) (by omega) (by omega) (by omega)]
  rw [or_u64 16 _ (x1 * 256) (by decide) (by omega) (by omega) (by omega) (by omega) (by omega)]
  rw [or_u64 8 _ x0 (by decide) (by omega) (by omega) (by omega) (by omega) (by omega)]
  simp only [leOf]; omega
set_option maxHeartbeats 400000 in
theorem piece_width (a : Option Addr) (len cap : Nat) (at_ n : Int) (w : World) (hn : widB n = false) :
    Calls Tryd.prog 72 #[.slice a len cap, .int .i64 at_, .int .i64 n] w fun e w' => e = .returned (.tuple #[.slice none 0 0, .int .i64 1]) ∧ w' = w := by
  have HN : Hid _ := hn
  clear hn
  go_enter Tryd.func72, Tryd.ntmps72
  go_wp2_with fail
  refine (isWidth_any _ _).mono ?_
  rintro e w' ⟨rfl, rfl⟩
  rw [HN.out]
  go_wp2
  go_ret2
  exact ⟨rfl, rfl⟩
set_option maxHeartbeats 400000 in
theorem piece_out (a : Option Addr) (len cap : Nat) (at_ n : Int) (w : World) (hl : len ≤ maxLen) (hn : widB n = true) (hi : insB len at_ n = false) :
    Calls Tryd.prog 72 #[.slice a len cap, .int .i64 at_, .int .i64 n] w fun e w' => e = .returned (.tuple #[.slice none 0 0, .int .i64 11]) ∧ w' = w := by
  have HN : Hid _ := hn
  unfold maxLen at hl
  have hb : 1 ≤ n ∧ n ≤ 8 := by rcases widB_cases hn with e | e | e | e <;> omega
  simp [insB] at hi
  clear hn
  by_cases h0 : at_ < 0
  · clear hi
    go_enter Tryd.func72, Tryd.ntmps72
    go_wp2_with fail
    refine (isWidth_any _ _).mono ?_
    rintro e w' ⟨rfl, rfl⟩
    rw [HN.out]
    go_wp2
    go_ret2
    exact ⟨rfl, rfl⟩
  · have h1 : 0 ≤ at_ := by omega
    have h2 : (len : Int) - n < at_ := by have := hi h1; omega
    clear hi h0
    go_enter Tryd.func72, Tryd.ntmps72
    go_wp2_with fail
    refine (isWidth_any _ _).mono ?_
    rintro e w' ⟨rfl, rfl⟩
    rw [HN.out]
    go_wp2
    go_ret2
    exact ⟨rfl, rfl⟩
set_option maxHeartbeats 400000 in
theorem piece_yes (b off len cap : Nat) (at_ n : Nat) (w : World) (hl : len ≤ maxLen) (hc : len ≤ cap) (hn : widB n = true) (hi : at_ + n ≤ len) :
    Calls Tryd.prog 72 #[.slice (some ⟨b, off, none⟩) len cap, .int .i64 at_, .int .i64 n] w fun e w' => e = .returned (.tuple #[.slice (some ⟨b, off + at_, none⟩) n (cap - at_), .int .i64 0]) ∧ w' = w := by
  have HN : Hid _ := hn
  unfold maxLen at hl
  have hb : 1 ≤ n ∧ n ≤ 8 := by rcases widB_cases hn with e | e | e | e <;> omega
  clear hn
  have h2 : ¬ ((len : Int) - n < at_) := by omega
  go_enter Tryd.func72, Tryd.ntmps72
  go_wp2_with fail
  refine (isWidth_any _ _).mono ?_
  rintro e w' ⟨rfl, rfl⟩
  rw [HN.out]
  go_wp2
  go_ret2
  exact ⟨ret_sl2 (by omega), rfl⟩
theorem rd_no (l : List Int) (at_ n : Int) (h : widB n = false) : rdErr l.length at_ n = 1 ∧ rdLe l at_ n = 0 ∧ rdBe l at_ n = 0 := by
  simp [rdErr, rdLe, rdBe, h]
theorem rd_out (l : List Int) (at_ n : Int) (h : widB n = true) (h' : insB l.length at_ n = false) : rdErr l.length at_ n = 11 ∧ rdLe l at_ n = 0 ∧ rdBe l at_ n = 0 := by
  simp [rdErr, rdLe, rdBe, h, h']
theorem rd_yes (l : List Int) (at_ n : Int) (h : widB n = true) (h' : insB l.length at_ n = true) : rdErr l.length at_ n = 0 ∧ rdLe l at_ n = leOf (cutOf l at_ n) ∧ rdBe l at_ n = beOf (cutOf l at_ n) := by
  simp [rdErr, rdLe, rdBe, h, h']
theorem info5 : (Tryd.prog.info? 5).map (fun i => (i.zero, i.size, i.bytes)) = some (some (.int .u8 0), 1, 1) := by kernel_rfl
theorem size5 : (Tryd.prog.info? 5).map (·.size) = some 1 := by kernel_rfl
/-- 'copy' into a row of the call's own, from its head on. -/
theorem wpList_copy_rowIs {P : Program} {w : World} {ops : Array Oper} {rest : List Oper} {o : Oper} {a : Act} {Q : Exit → Act → World → Prop} (hgd : o.guard = none) (d s : Operand) (dT sT : TypeId)
    (ho : o.op = .call { callee := .builtin .copy, args := #[d, s], argTypes := #[dT, sT] }) (elem : TypeId) (hu : P.underlying dT = some (.slice elem)) (hsz : (P.info? elem).map (·.size) = some 1)
    (dp sp : Option Addr) (dLen dCap sLen sCap : Nat) (hd : a.eval d = .slice dp dLen dCap) (hs : a.eval s = .slice sp sLen sCap)
    (g n : Nat) (f : Nat → Value) (t : TypeId) (hr : w.rowIs g t n f) (cs : List Value) (hn : cs.length = Nat.min sLen dLen)
    (hpos : 0 < cs.length → dp = some ⟨g, 0, none⟩ ∧ ∃ b off, sp = some ⟨b, off, none⟩ ∧ ∀ j v, cs[j]? = some v → w.cell? ⟨b, off + j, none⟩ = some v)
    (hfit : cs.length ≤ n) (h1 : ∀ v ∈ cs, v.oneCell' = true)
    (B : Nat) (w0 : World) (hB : B ≤ g) (hbel : Below B w0 w)
    (h : ∀ w', Hid (w'.rowIs g t n (fun i => (cs[i]?).getD (f i))) → Below B w0 w' → Hid (w'.heap.size = w.heap.size) → wpList P ops Q rest (a.put o.dst (goInt cs.length)) w') :
    wpList P ops Q (o :: rest) a w := by
  by_cases h0 : cs.length = 0
  · obtain rfl : cs = [] := List.eq_nil_of_length_eq_zero h0
    refine wpList_copy_nothing hgd d s dT sT ho elem hu hsz dp sp dLen dCap sLen sCap hd hs (by simpa using hn.symm) ?_
    exact h w (show World.rowIs _ _ _ _ _ by simpa using hr) hbel (show _ = _ from rfl)
  · obtain ⟨rfl, b, off, rfl, hsrc⟩ := hpos (by omega)
    obtain ⟨cur, hg, hcn, hcur⟩ := hr
    refine wpList_copy_own hgd d s dT sT ho elem hu hsz g 0 dLen dCap ⟨b, off, none⟩ sLen sCap hd hs cur t hg cs hn (fun j v hj => by
      have := hsrc j v hj
      have e : (⟨b, off, none⟩ : Addr).add j = ⟨b, off + j, none⟩ := by unfold Addr.add; split <;> simp_all
      rw [e]; exact this) (by omega) h1 ?_
    refine h _ (show World.rowIs _ _ _ _ _ from ⟨_, setRow_heap w g _ _ t _ hg, by simp; omega, fun i hi => ?_⟩) (below_setRow hbel hB _) (show _ = _ by simp [World.setRow])
    by_cases hi2 : i < cs.length
    · simp [hi2, List.getElem?_append]
    · have h3 := hcur i hi
      have e : cs[i]? = none := List.getElem?_eq_none (by omega)
      simp only [e, Option.getD_none]
      rw [← h3]
      have e2 : cs.length + (i - cs.length) = i := by omega
      simp [List.getElem?_append, hi2, e2]
/-- A row of numbers of eight bytes in memory. -/
def IsW (x : Int) : Prop := 0 ≤ x ∧ x < 18446744073709551616
def Words (w : World) (a : Option Addr) (l : List Int) : Prop :=
  ∀ i, i < l.length → ∃ b off, a = some ⟨b, off, none⟩ ∧ w.cell? ⟨b, off + i, none⟩ = some (.int .u64 (l.getD i 0)) ∧ IsW (l.getD i 0)
theorem Words.open_ {w : World} {a : Option Addr} {l : List Int} (h : Words w a l) (hp : 0 < l.length) :
    ∃ b off, a = some ⟨b, off, none⟩ ∧ ∀ i, i < l.length → w.cell? ⟨b, off + i, none⟩ = some (.int .u64 (l.getD i 0)) := by
  obtain ⟨b, off, ha, _, _⟩ := h 0 hp
  refine ⟨b, off, ha, fun i hi => ?_⟩
  obtain ⟨b', off', ha', hc, _⟩ := h i hi
  rw [ha] at ha'
  simp at ha'
  obtain ⟨rfl, rfl⟩ := ha'
  exact hc
theorem Words.isW {w : World} {a : Option Addr} {l : List Int} (h : Words w a l) : ∀ x ∈ l, IsW x := by
  intro x hx
  obtain ⟨i, hi, rfl⟩ := List.getElem_of_mem hx
  obtain ⟨_, _, _, _, hb⟩ := h i hi
  simpa [List.getD, hi] using hb
theorem Words.later {w w' : World} {a : Option Addr} {l : List Int} (h : Words w a l) (hb : Below w.heap.size w w') : Words w' a l := by
  intro i hi
  obtain ⟨b, off, ha, hc, hx⟩ := h i hi
  exact ⟨b, off, ha, cell_later hb hc, hx⟩
def fitB (n v : Int) : Bool := v / 256 ^ n.toNat == 0
def fitsB (n : Int) (l : List Int) : Bool := l.all (fitB n)
theorem fits_snoc (n : Int) (l : List Int) (k : Nat) (hk : k < l.length) : fitsB n (l.take (k + 1)) = (fitsB n (l.take k) && fitB n (l.getD k 0)) := by
  rw [take_snoc l k hk]; simp [fitsB]
theorem fits_not (n : Int) (l : List Int) (k : Nat) (hk : k < l.length) (h : fitB n (l.getD k 0) = false) : fitsB n l = false := by
  unfold fitsB
  rw [List.all_eq_false]
  refine ⟨l.getD k 0, by simp [List.getD, hk], ?_⟩
  rw [h]; decide
set_option maxHeartbeats 400000 in
theorem allFit_1 (a : Option Addr) (cap : Nat) (l : List Int) (w : World) (hl : l.length ≤ 140737488355328) (h : Words w a l) :
    Calls Tryd.prog 60 #[.int .i64 1, .slice a l.length cap] w fun e w' => e = .returned (.bool (fitsB 1 l)) ∧ w' = w := by
  have HW := hid h
  clear h
  obtain ⟨len, hlen⟩ : ∃ len, l.length = len := ⟨_, rfl⟩
  have HL := hid hlen
  rw [hlen] at hl ⊢
  clear hlen
  go_enter Tryd.func60, Tryd.ntmps60
  go_wp2
  go_loop [9] (fun i => ∃ k : Nat, k ≤ len ∧ i = .int .i64 k ∧ Hid (fitsB 1 (l.take k) = true)) (fun i => len - (intOf i).toNat)
  case atStart => exact ⟨0, Nat.zero_le _, rfl, hid rfl⟩
  case round =>
    obtain ⟨k, hk, rfl, hf⟩ := hrel
    by_cases hlt : k < len
    · have hkl : k < l.length := by rw [HL.out]; exact hlt
      obtain ⟨b, off, rfl, hcs⟩ := HW.out.open_ (by omega)
      have hc := hcs k hkl
      have hx := mem_getD l IsW HW.out.isW k hkl
      obtain ⟨x, hxe⟩ : ∃ x, l.getD k 0 = x := ⟨_, rfl⟩
      rw [hxe] at hc hx
      unfold IsW at hx
      clear hcs
      cases hb : fitB 1 x
      · have H1 := hid (fits_not 1 l k hkl (by rw [hxe]; exact hb))
        have ht : (x / 256 != 0) = true := by simp [fitB] at hb; simp [hb]
        clear hxe hb
        go_wp2
        go_ret
        exact ⟨ret_bool H1.out.symm, rfl⟩
      · have H1 := hid (show fitsB 1 (l.take (k + 1)) = true by rw [fits_snoc 1 l k hkl, hf.out, hxe, hb]; rfl)
        have ht : (x / 256 != 0) = false := by simp [fitB] at hb; simp [hb]
        clear hxe hb
        go_wp2
        go_round
        case rel => exact ⟨k + 1, by omega, by go_num, H1.out⟩
        case measure => simp [intOf]; omega
    · go_wp2
      go_ret
      have e : l.take k = l := List.take_of_length_le (by rw [HL.out]; omega)
      rw [e] at hf
      exact ⟨ret_bool hf.out.symm, rfl⟩
set_option maxHeartbeats 400000 in
theorem allFit_2 (a : Option Addr) (cap : Nat) (l : List Int) (w : World) (hl : l.length ≤ 140737488355328) (h : Words w a l) :
    Calls Tryd.prog 60 #[.int .i64 2, .slice a l.length cap] w fun e w' => e = .returned (.bool (fitsB 2 l)) ∧ w' = w := by
  have HW := hid h
  clear h
  obtain ⟨len, hlen⟩ : ∃ len, l.length = len := ⟨_, rfl⟩
  have HL := hid hlen
  rw [hlen] at hl ⊢
  clear hlen
  go_enter Tryd.func60, Tryd.ntmps60
  go_wp2
  go_loop [9] (fun i => ∃ k : Nat, k ≤ len ∧ i = .int .i64 k ∧ Hid (fitsB 2 (l.take k) = true)) (fun i => len - (intOf i).toNat)
  case atStart => exact ⟨0, Nat.zero_le _, rfl, hid rfl⟩
  case round =>
    obtain ⟨k, hk, rfl, hf⟩ := hrel
    by_cases hlt : k < len
    · have hkl : k < l.length := by rw [HL.out]; exact hlt
      obtain ⟨b, off, rfl, hcs⟩ := HW.out.open_ (by omega)
      have hc := hcs k hkl
      have hx := mem_getD l IsW HW.out.isW k hkl
      obtain ⟨x, hxe⟩ : ∃ x, l.getD k 0 = x := ⟨_, rfl⟩
      rw [hxe] at hc hx
      unfold IsW at hx
      clear hcs
      cases hb : fitB 2 x
      · have H1 := hid (fits_not 2 l k hkl (by rw [hxe]; exact hb))
        have ht : (x / 65536 != 0) = true := by simp [fitB] at hb; simp [hb]
        clear hxe hb
        go_wp2
        go_ret
        exact ⟨ret_bool H1.out.symm, rfl⟩
      · have H1 := hid (show fitsB 2 (l.take (k + 1)) = true by rw [fits_snoc 2 l k hkl, hf.out, hxe, hb]; rfl)
        have ht : (x / 65536 != 0) = false := by simp [fitB] at hb; simp [hb]
        clear hxe hb
        go_wp2
        go_round
        case rel => exact ⟨k + 1, by omega, by go_num, H1.out⟩
        case measure => simp [intOf]; omega
    · go_wp2
      go_ret
      have e : l.take k = l := List.take_of_length_le (by rw [HL.out]; omega)
      rw [e] at hf
      exact ⟨ret_bool hf.out.symm, rfl⟩
set_option maxHeartbeats 400000 in
theorem allFit_4 (a : Option Addr) (cap : Nat) (l : List Int) (w : World) (hl : l.length ≤ 140737488355328) (h : Words w a l) :
    Calls Tryd.prog 60 #[.int .i64 4, .slice a l.length cap] w fun e w' => e = .returned (.bool (fitsB 4 l)) ∧ w' = w := by
  have HW := hid h
  clear h
  obtain ⟨len, hlen⟩ : ∃ len, l.length = len := ⟨_, rfl⟩
  have HL := hid hlen
  rw [hlen] at hl ⊢
  clear hlen
  go_enter Tryd.func60, Tryd.ntmps60
  go_wp2
  go_loop [9] (fun i => ∃ k : Nat, k ≤ len ∧ i = .int .i64 k ∧ Hid (fitsB 4 (l.take k) = true)) (fun i => len - (intOf i).toNat)
  case atStart => exact ⟨0, Nat.zero_le _, rfl, hid rfl⟩
  case round =>
    obtain ⟨k, hk, rfl, hf⟩ := hrel
    by_cases hlt : k < len
    · have hkl : k < l.length := by rw [HL.out]; exact hlt
      obtain ⟨b, off, rfl, hcs⟩ := HW.out.open_ (by omega)
      have hc := hcs k hkl
      have hx := mem_getD l IsW HW.out.isW k hkl
      obtain ⟨x, hxe⟩ : ∃ x, l.getD k 0 = x := ⟨_, rfl⟩
      rw [hxe] at hc hx
      unfold IsW at hx
      clear hcs
      cases hb : fitB 4 x
      · have H1 := hid (fits_not 4 l k hkl (by rw [hxe]; exact hb))
        have ht : (x / 4294967296 != 0) = true := by simp [fitB] at hb; simp [hb]
        clear hxe hb
        go_wp2
        go_ret
        exact ⟨ret_bool H1.out.symm, rfl⟩
      · have H1 := hid (show fitsB 4 (l.take (k + 1)) = true by rw [fits_snoc 4 l k hkl, hf.out, hxe, hb]; rfl)
        have ht : (x / 4294967296 != 0) = false := by simp [fitB] at hb; simp [hb]
        clear hxe hb
        go_wp2
        go_round
        case rel => exact ⟨k + 1, by omega, by go_num, H1.out⟩
        case measure => simp [intOf]; omega
    · go_wp2
      go_ret
      have e : l.take k = l := List.take_of_length_le (by rw [HL.out]; omega)
      rw [e] at hf
      exact ⟨ret_bool hf.out.symm, rfl⟩
set_option maxHeartbeats 400000 in
theorem allFit_8 (a : Option Addr) (cap : Nat) (l : List Int) (w : World) (hl : l.length ≤ 140737488355328) (h : Words w a l) :
    Calls Tryd.prog 60 #[.int .i64 8, .slice a l.length cap] w fun e w' => e = .returned (.bool (fitsB 8 l)) ∧ w' = w := by
  have HW := hid h
  clear h
  obtain ⟨len, hlen⟩ : ∃ len, l.length = len := ⟨_, rfl⟩
  have HL := hid hlen
  rw [hlen] at hl ⊢
  clear hlen
  go_enter Tryd.func60, Tryd.ntmps60
  go_wp2
  go_loop [9] (fun i => ∃ k : Nat, k ≤ len ∧ i = .int .i64 k ∧ Hid (fitsB 8 (l.take k) = true)) (fun i => len - (intOf i).toNat)
  case atStart => exact ⟨0, Nat.zero_le _, rfl, hid rfl⟩
  case round =>
    obtain ⟨k, hk, rfl, hf⟩ := hrel
    by_cases hlt : k < len
    · have hkl : k < l.length := by rw [HL.out]; exact hlt
      obtain ⟨b, off, rfl, hcs⟩ := HW.out.open_ (by omega)
      have hc := hcs k hkl
      have hx := mem_getD l IsW HW.out.isW k hkl
      obtain ⟨x, hxe⟩ : ∃ x, l.getD k 0 = x := ⟨_, rfl⟩
      rw [hxe] at hc hx
      unfold IsW at hx
      clear hcs
      have hb : fitB 8 x = true := by
        have h0 : x / 18446744073709551616 = 0 := by omega
        simp [fitB, h0]
      have H1 := hid (show fitsB 8 (l.take (k + 1)) = true by rw [fits_snoc 8 l k hkl, hf.out, hxe, hb]; rfl)
      clear hxe hb
      go_wp2
      go_round
      case rel => exact ⟨k + 1, by omega, by go_num, H1.out⟩
      case measure => simp [intOf]; omega
    · go_wp2
      go_ret
      have e : l.take k = l := List.take_of_length_le (by rw [HL.out]; omega)
      rw [e] at hf
      exact ⟨ret_bool hf.out.symm, rfl⟩
theorem allFit_any (a : Option Addr) (cap : Nat) (n : Int) (l : List Int) (w : World) (hl : l.length ≤ 140737488355328) (hn : widB n = true) (h : Words w a l) :
    Calls Tryd.prog 60 #[.int .i64 n, .slice a l.length cap] w fun e w' => e = .returned (.bool (fitsB n l)) ∧ w' = w := by
  rcases widB_cases hn with rfl | rfl | rfl | rfl
  · exact allFit_1 a cap l w hl h
  · exact allFit_2 a cap l w hl h
  · exact allFit_4 a cap l w hl h
  · exact allFit_8 a cap l w hl h
set_option maxRecDepth 100000 in
set_option maxHeartbeats 400000 in
theorem grown_any (a : Option Addr) (cap : Nat) (l : List Int) (more : Nat) (w : World) (hl : l.length ≤ 140737488355328) (hm : more ≤ 140737488355328) (h : Bytes w a l) :
    Calls Tryd.prog 61 #[.slice a l.length cap, .int .i64 more] w fun e w' => e = .returned (.slice (some ⟨w.heap.size, 0, none⟩) (l.length + more) (l.length + more)) ∧ Below w.heap.size w w' ∧ w'.heap.size = w.heap.size + 1 ∧
      w'.rowIs w.heap.size 5 (l.length + more) (fun i => .int .u8 (l.getD i 0)) := by
  have hmk := run_make_row' (P := Tryd.prog) 27 5 (.int .u8 0) 1 Tryd.underlying27 info5 rfl .i64 .i64 (l.length + more) (by omega) (by omega)
  have ec : ((l.length + more : Nat) : Int) = (l.length : Int) + more := by omega
  rw [ec] at hmk
  clear ec
  have hcs : ∀ i, i < l.length + more → ((l.map (fun x => Value.int .u8 x))[i]?).getD (.int .u8 0) = .int .u8 (l.getD i 0) := by
    intro i hi
    by_cases h2 : i < l.length
    · simp [h2, List.getD]
    · simp [h2]
  obtain ⟨cs, hcs0⟩ : ∃ cs, cs = l.map (fun x => Value.int .u8 x) := ⟨_, rfl⟩
  rw [← hcs0] at hcs
  have hcl : cs.length = l.length := by rw [hcs0]; simp
  have hco : ∀ v ∈ cs, v.oneCell' = true := by rw [hcs0]; intro v hv; simp at hv; obtain ⟨x, _, rfl⟩ := hv; rfl
  have hsrc : 0 < cs.length → ∃ b off, a = some ⟨b, off, none⟩ ∧ ∀ j v, cs[j]? = some v → w.cell? ⟨b, off + j, none⟩ = some v := by
    intro hp
    obtain ⟨b, off, ha, hc⟩ := h.open_ (by omega)
    refine ⟨b, off, ha, fun j v hj => ?_⟩
    rw [hcs0] at hj
    simp at hj
    obtain ⟨x, hx, rfl⟩ := hj
    have hj2 : j < l.length := (List.getElem?_eq_some_iff.1 hx).1
    rw [hc j hj2]
    simp [List.getD, hx]
  have HS := hid hcs
  have HC := hid hcl
  have HO := hid hco
  have HR := hid hsrc
  clear hcs hcs0 hcl hco hsrc
  go_enter Tryd.func61, Tryd.ntmps61
  go_wp2_with (show wpList _ _ _ ({ dst := _, op := .call { callee := .builtin .copy, args := #[.tmp 11, .tmp 12], argTypes := #[27, 27] }, type := _, pos := _, after := _, guard := none } :: _) _ _; refine wpList_copy_rowIs rfl (.tmp 11) (.tmp 12) 27 27 rfl 5 Tryd.underlying27 size5 _ _ _ _ _ _ rfl rfl w.heap.size (l.length + more) _ 5 (World.rowIs_made _ _ _ _) cs ?c1 ?c2 ?c3 HO.out w.heap.size w (Nat.le_refl _) ((Below.refl _ _).alloc (Nat.le_refl _) _) ?_; rotate_left 3; intro w1 hr1 hb1 hs1)
  case c1 => rw [HC.out]; exact (Nat.min_eq_left (by omega)).symm
  case c2 =>
    intro hp
    obtain ⟨b, off, ha, hc⟩ := HR.out hp
    exact ⟨b, off, ha, fun j v hj => cell_later ((Below.refl _ _).alloc (Nat.le_refl _) _) (hc j v hj)⟩
  case c3 => rw [HC.out]; omega
  go_ret
  exact ⟨rfl, hb1, hs1.out.trans (by simp), hr1.out.congr HS.out⟩
/-- A number's bytes, n of them, the lowest first, the highest first. -/
def bytesLe (n : Nat) (v : Int) : List Int := (List.range n).map fun i => v / 256 ^ i % 256
theorem len_le (n : Nat) (v : Int) : (bytesLe n v).length = n := by simp [bytesLe]
theorem below_set {g p : Nat} {a w : World} (h : Below g a w) (v : Value) : Below g a (w.setCell ⟨g, p, none⟩ v) := h.setCell (Nat.le_refl g) v
theorem getD_le (n : Nat) (v : Int) (j : Nat) (h : j < n) : (bytesLe n v).getD j 0 = v / 256 ^ j % 256 := by simp [bytesLe, List.getD, h]
theorem getD_out (l : List Int) (j : Nat) (h : l.length ≤ j) : l.getD j 0 = 0 := by simp [List.getD, h]
theorem getD_app (L M : List Int) (i : Nat) : (L ++ M).getD i 0 = if i < L.length then L.getD i 0 else M.getD (i - L.length) 0 := by
  by_cases h : i < L.length
  · rw [if_pos h]; simp [List.getD, h, List.getElem?_append]
  · rw [if_neg h]; simp [List.getD, List.getElem?_append, h]
theorem grown_int (a : Option Addr) (cap : Nat) (l : List Int) (x : Int) (more : Nat) (w : World) (e : x = more) (hl : l.length ≤ 140737488355328) (hm : more ≤ 140737488355328) (h : Bytes w a l) :
    Calls Tryd.prog 61 #[.slice a l.length cap, .int .i64 x] w fun e w' => e = .returned (.slice (some ⟨w.heap.size, 0, none⟩) (l.length + more) (l.length + more)) ∧ Below w.heap.size w w' ∧ w'.heap.size = w.heap.size + 1 ∧
      w'.rowIs w.heap.size 5 (l.length + more) (fun i => .int .u8 (l.getD i 0)) := by
  subst e; exact grown_any a cap l more w hl hm h
def outLe (b : List Int) (n : Nat) (l : List Int) : List Int := b ++ l.flatMap (bytesLe n)
theorem outLe_snoc (b : List Int) (n : Nat) (l : List Int) (k : Nat) (h : k < l.length) : outLe b n (l.take (k + 1)) = outLe b n (l.take k) ++ bytesLe n (l.getD k 0) := by
  rw [take_snoc l k h]; simp [outLe]
theorem outLe_len (b : List Int) (n : Nat) (l : List Int) : (outLe b n l).length = b.length + n * l.length := by
  unfold outLe
  induction l with
  | nil => simp
  | cons x l ih =>
    simp only [List.length_append, List.flatMap_cons, len_le, List.length_cons, Nat.mul_add] at *
    omega
theorem leOf_bytes (n : Nat) (v : Int) : leOf (bytesLe n v) = v % 256 ^ n := by
  induction n with
  | zero => simp [bytesLe, leOf, Int.emod_one]
  | succ n ih =>
    have e : bytesLe (n + 1) v = bytesLe n v ++ [v / 256 ^ n % 256] := by simp [bytesLe, List.range_succ]
    rw [e, leOf_append, ih, len_le, Int.pow_succ, Int.emod_def v (256 ^ n * 256), Int.emod_def v (256 ^ n), Int.emod_def (v / 256 ^ n) 256, ← Int.ediv_ediv_of_nonneg (Int.pow_nonneg (by decide)), Int.mul_sub, ← Int.mul_assoc]
    generalize 256 ^ n * (v / 256 ^ n) = x
    generalize 256 ^ n * 256 * (v / 256 ^ n / 256) = y
    omega
theorem leOf_bd (l : List Int) (hl : ∀ x ∈ l, IsB x) : 0 ≤ leOf l ∧ leOf l < 256 ^ l.length := by
  induction l with
  | nil => simp [leOf]
  | cons x l ih =>
    have := ih (fun y hy => hl y (by simp [hy]))
    have hx := hl x (by simp)
    unfold IsB at hx
    simp only [leOf, List.length_cons, Int.pow_succ]
    omega
theorem new_cell (w : World) (c : Array Value) (t : TypeId) (fr : Nat × Nat) (i : Nat) (h : i < c.size) : (w.alloc (.cells c t fr)).cell? ⟨w.heap.size, i, none⟩ = some c[i] := by
  have := (MapKept.heap_alloc w (.cells c t fr)).1
  unfold World.cell?
  simp only [this]
  exact Array.getElem?_eq_getElem h
theorem pow8 (k : Nat) (h : k ≤ 8) : (256 : Int) ^ k ≤ 18446744073709551616 := by
  rcases (show k = 0 ∨ k = 1 ∨ k = 2 ∨ k = 3 ∨ k = 4 ∨ k = 5 ∨ k = 6 ∨ k = 7 ∨ k = 8 by omega) with rfl | rfl | rfl | rfl | rfl | rfl | rfl | rfl | rfl <;> decide
set_option maxRecDepth 100000 in
theorem cut_run (g off len cap lo hi : Nat) (h : lo < hi) (hh : hi ≤ len) (hc : len ≤ cap) (W : World) : (Instr.slice 27 (.slice (some ⟨g, off, none⟩) len cap) (some (.int .i64 lo)) (some (.int .i64 hi)) none).run Tryd.prog W = .ok (.slice (some ⟨g, off + lo, none⟩) (hi - lo) (cap - lo)) W := by
  have hz : (sizeOf 5).run Tryd.prog W = .ok 1 W := by kernel_rfl
  rw [run_slice_lh (P := Tryd.prog) W 27 (some ⟨g, off, none⟩) len cap Tryd.underlying27 .i64 .i64 lo hi (by omega) (by omega) (by omega)]
  have e : Tryd.prog.elem 27 = 5 := by kernel_rfl
  rw [e, hz]
  have h2 : ¬ (cap = lo) := by omega
  simp [sliced, Addr.add, h2]

end Go.Proofs.YtbfdkbdjipiliaaDoor
