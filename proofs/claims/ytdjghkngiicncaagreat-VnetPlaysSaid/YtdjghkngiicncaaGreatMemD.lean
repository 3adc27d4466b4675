/- MemA, MemB, MemC, MemD in one text. -/
import Derived.Test.YtdjghkngiicncaaGreatNumA
import Derived.Deep.RegionHeld3
import Derived.Lib.SliceRun
/- Memory as a row of bytes: a number is read from it, and laid into it (number, lay). -/
namespace Go.Proofs.YtdjghkngiicncaaGreat
open Go.RowKit

/-- Nothing but 'al' and new blocks has turned. -/
structure Mods (al : Nat → Prop) (w w' : World) : Prop where
  os : w'.os = w.os
  tape : w'.tape = w.tape
  output : w'.output = w.output
  size : w.heap.size ≤ w'.heap.size
  block : ∀ b, b < w.heap.size → ¬ al b → w'.heap[b]? = w.heap[b]?
theorem Mods.of_below {al : Nat → Prop} {w w' : World} (h : Below w.heap.size w w') : Mods al w w' := ⟨h.os, h.tape, h.output, h.size, fun b hb _ => h.block b hb⟩
theorem Mods.refl (al : Nat → Prop) (w : World) : Mods al w w := .of_below (Below.refl _ _)
theorem Mods.trans {al al' : Nat → Prop} {w w' w'' : World} (h : Mods al w w') (h' : Mods al' w' w'') (ha : ∀ b, al' b → al b ∨ w.heap.size ≤ b) : Mods al w w'' :=
  ⟨h'.os.trans h.os, h'.tape.trans h.tape, h'.output.trans h.output, Nat.le_trans h.size h'.size, fun b hb hn =>
    (h'.block b (Nat.lt_of_lt_of_le hb h.size) (fun h2 => by rcases ha b h2 with h3 | h3; exact hn h3; omega)).trans (h.block b hb hn)⟩
theorem Mods.tr {al : Nat → Prop} {w w' w'' : World} (h : Mods al w w') (h' : Mods al w' w'') : Mods al w w'' := h.trans h' (fun _ hb => .inl hb)
theorem Mods.weak {al al' : Nat → Prop} {w w' : World} (h : Mods al w w') (ha : ∀ b, al b → al' b ∨ w.heap.size ≤ b) : Mods al' w w' :=
  ⟨h.os, h.tape, h.output, h.size, fun b hb hn => h.block b hb (fun h2 => by rcases ha b h2 with h3 | h3; exact hn h3; omega)⟩
theorem Mods.to_below {al : Nat → Prop} {B : Nat} {w0 w w' : World} (h : Mods al w w') (h0 : Below B w0 w) (hB : B ≤ w.heap.size) (ha : ∀ b, al b → B ≤ b) : Below B w0 w' :=
  ⟨h.os.trans h0.os, h.tape.trans h0.tape, h.output.trans h0.output, Nat.le_trans h0.size h.size, fun b hb => (h.block b (by omega) (fun h2 => by have := ha b h2; omega)).trans (h0.block b hb)⟩
theorem Mods.below {al : Nat → Prop} {w w' w'' : World} (h : Mods al w w') (h' : Below w'.heap.size w' w'') : Mods al w w'' := h.trans (al' := fun _ => False) (.of_below h') (fun _ hb => hb.elim)
theorem Mods.drew {al : Nat → Prop} {w w' : World} (h : Mods al w w') : Mods al w w'.drew := h.below ((Below.refl _ _).drew)
theorem Mods.alloc {al : Nat → Prop} {w w' : World} (h : Mods al w w') (o : Obj) : Mods al w (w'.alloc o) := h.below ((Below.refl _ _).alloc (Nat.le_refl _) _)

/-- Block g is memory of N bytes, byte i is f i. -/
def Mem (w : World) (g N : Nat) (f : Nat → Int) : Prop := (∃ c : Array Value, w.heap[g]? = some (.cells c 5 (0, 0)) ∧ N ≤ c.size ∧ ∀ i, i < N → c[i]? = some (.int .u8 (f i))) ∧ ∀ i, i < N → IsB (f i)
theorem Mem.of_row {w : World} {g N : Nat} {f : Nat → Int} (h : w.rowIs g 5 N (fun i => .int .u8 (f i))) (hB : ∀ i, i < N → IsB (f i)) : Mem w g N f := let ⟨c, h1, h2, h3⟩ := h; ⟨⟨c, h1, Nat.le_of_eq h2.symm, h3⟩, hB⟩
theorem Mem.cell {w : World} {g N : Nat} {f : Nat → Int} (h : Mem w g N f) {i : Nat} (hi : i < N) : w.cell? ⟨g, i, none⟩ = some (.int .u8 (f i)) := by
  obtain ⟨⟨c, h1, _, h3⟩, _⟩ := h
  unfold World.cell?
  simp [h1, h3 i hi]
theorem Mem.frozen {w : World} {g N : Nat} {f : Nat → Int} (h : Mem w g N f) (i : Nat) : w.frozen? ⟨g, i, none⟩ = false := by
  obtain ⟨⟨c, h1, _, _⟩, _⟩ := h
  simp [World.frozen?, h1]
theorem Mem.keep {w w' : World} {g N : Nat} {f : Nat → Int} (h : Mem w g N f) (hb : w'.heap[g]? = w.heap[g]?) : Mem w' g N f := let ⟨⟨c, h1, h2⟩, h3⟩ := h; ⟨⟨c, hb.trans h1, h2⟩, h3⟩
theorem Mem.lt {w : World} {g N : Nat} {f : Nat → Int} (h : Mem w g N f) : g < w.heap.size := let ⟨⟨_, h1, _⟩, _⟩ := h; (Array.getElem?_eq_some_iff.1 h1).1
theorem Mem.below {w w' : World} {g N : Nat} {f : Nat → Int} (h : Mem w g N f) (hb : Below w.heap.size w w') : Mem w' g N f := h.keep (hb.block g h.lt)
theorem Mem.mods {w w' : World} {g N : Nat} {f : Nat → Int} {al : Nat → Prop} (h : Mem w g N f) (hb : Mods al w w') (hn : ¬ al g) : Mem w' g N f := h.keep (hb.block g h.lt hn)
theorem Mem.congr {w : World} {g N : Nat} {f f' : Nat → Int} (h : Mem w g N f) (he : ∀ i, i < N → f i = f' i) : Mem w g N f' := by
  obtain ⟨⟨c, h1, h2, h3⟩, h4⟩ := h
  exact ⟨⟨c, h1, h2, fun i hi => by rw [h3 i hi, he i hi]⟩, fun i hi => by rw [← he i hi]; exact h4 i hi⟩

def at_ (f : Nat → Int) (a n : Nat) : List Int := (List.range n).map fun i => f (a + i)
theorem at_len (f : Nat → Int) (a n : Nat) : (at_ f a n).length = n := by simp [at_]
theorem at_get (f : Nat → Int) (a n i : Nat) (h : i < n) : (at_ f a n).getD i 0 = f (a + i) := by simp [at_, List.getD, h]
/-- A number of n bytes at a. -/
def rd (f : Nat → Int) (a n : Nat) : Int := leOf (at_ f a n)
/-- v laid at a, in n bytes. -/
def wr (f : Nat → Int) (a n : Nat) (v : Int) : Nat → Int := fun i => if a ≤ i ∧ i < a + n then v / 256 ^ (i - a) % 256 else f i
theorem at_cut (f : Nat → Int) (o len a n : Nat) (h : a + n ≤ len) : ((at_ f o len).drop a).take n = at_ f (o + a) n := by
  apply List.ext_getElem
  · simp [at_]; omega
  · intro i h1 h2
    simp [at_, Nat.add_assoc]
theorem at_cut0 (f : Nat → Int) (o len n : Nat) (h : n ≤ len) : (at_ f o len).take n = at_ f o n := by
  have := at_cut f o len 0 n (by omega)
  simpa using this
theorem rd_congr {f f' : Nat → Int} {a n : Nat} (h : ∀ i, i < n → f (a + i) = f' (a + i)) : rd f a n = rd f' a n := by
  unfold rd at_
  congr 1
  apply List.map_congr_left
  intro i hi
  exact h i (by simpa using hi)
theorem rd_wr_other (f : Nat → Int) (a n b m : Nat) (v : Int) (h : b + m ≤ a ∨ a + n ≤ b) : rd (wr f a n v) b m = rd f b m := by
  refine rd_congr fun i hi => ?_
  unfold wr
  rw [if_neg (by omega)]
theorem leOf_bytes (n : Nat) (v : Int) : leOf (bytesLe n v) = v % 256 ^ n := by
  induction n with
  | zero => simp [bytesLe, leOf, Int.emod_one]
  | succ n ih =>
    have e : bytesLe (n + 1) v = bytesLe n v ++ [v / 256 ^ n % 256] := by simp [bytesLe, List.range_succ]
    rw [e, leOf_append, ih, len_le, Int.pow_succ, Int.emod_def v (256 ^ n * 256), Int.emod_def v (256 ^ n), Int.emod_def (v / 256 ^ n) 256, ← Int.ediv_ediv_of_nonneg (Int.pow_nonneg (by decide)), Int.mul_sub, ← Int.mul_assoc]
    generalize 256 ^ n * (v / 256 ^ n) = x
    generalize 256 ^ n * 256 * (v / 256 ^ n / 256) = y
    omega
theorem at_wr_same (f : Nat → Int) (a n : Nat) (v : Int) : at_ (wr f a n v) a n = bytesLe n v := by
  unfold at_ bytesLe
  apply List.map_congr_left
  intro i hi
  have hi : i < n := by simpa using hi
  unfold wr
  rw [if_pos (by omega), Nat.add_sub_cancel_left]
theorem rd_wr_same (f : Nat → Int) (a n : Nat) (v : Int) (h0 : 0 ≤ v) (h1 : v < 256 ^ n) : rd (wr f a n v) a n = v := by
  unfold rd
  rw [at_wr_same, leOf_bytes, Int.emod_eq_of_lt h0 h1]
theorem leOf_bd (l : List Int) (hl : ∀ x ∈ l, IsB x) : 0 ≤ leOf l ∧ leOf l < 256 ^ l.length := by
  induction l with
  | nil => simp [leOf]
  | cons x l ih =>
    have := ih (fun y hy => hl y (by simp [hy]))
    have hx := hl x (by simp)
    unfold IsB at hx
    simp only [leOf, List.length_cons, Int.pow_succ]
    omega
theorem rd_bd {w : World} {g N : Nat} {f : Nat → Int} (h : Mem w g N f) (a n : Nat) (hn : a + n ≤ N) : 0 ≤ rd f a n ∧ rd f a n < 256 ^ n := by
  have := leOf_bd (at_ f a n) (fun x hx => by
    simp only [at_, List.mem_map, List.mem_range] at hx
    obtain ⟨i, hi, rfl⟩ := hx
    exact h.2 _ (by omega))
  rwa [at_len] at this
theorem wr_isB {f : Nat → Int} {N a n : Nat} {v : Int} (h : ∀ i, i < N → IsB (f i)) : ∀ i, i < N → IsB (wr f a n v i) := by
  intro i hi
  unfold wr
  split
  · unfold IsB; omega
  · exact h i hi

theorem Mem.bytes {w : World} {g N : Nat} {f : Nat → Int} (h : Mem w g N f) (off len : Nat) (hl : off + len ≤ N) : Bytes w (some ⟨g, off, none⟩) (at_ f off len) :=
  Bytes.mk_ (fun x hx => by
    simp only [at_, List.mem_map, List.mem_range] at hx
    obtain ⟨i, hi, rfl⟩ := hx
    exact h.2 _ (by omega)) (fun i hi => by
    rw [at_len] at hi
    rw [at_get f off len i hi]
    exact h.cell (by omega))

def Wid (n : Nat) : Prop := n = 2 ∨ n = 4 ∨ n = 8
theorem Wid.wid {n : Nat} (h : Wid n) : widB n = true := by rcases h with rfl | rfl | rfl <;> rfl

set_option maxHeartbeats 400000 in
theorem number_any (w : World) (g N off len cap a n : Nat) (f : Nat → Int) (h : Mem w g N f) (hl : off + len ≤ N) (hc : len ≤ cap) (hm : len ≤ maxLen) (ha : a + n ≤ len) (hn : Wid n) :
    Calls Tryz.prog 82 #[.slice (some ⟨g, off, none⟩) len cap, .int .i64 a, .int .i64 n] w fun e w' => e = .returned (.int .u64 (rd f (off + a) n)) ∧ ∃ q, w' = w.drewN q := by
  have hcon := numLe_any (some ⟨g, off, none⟩) cap (at_ f off len) a n w (by rw [at_len]; exact hm) (by rw [at_len]; exact hc) (h.bytes off len hl)
  have hb : 1 ≤ n ∧ n ≤ 8 := by rcases hn with rfl | rfl | rfl <;> omega
  obtain ⟨e1, e2, _⟩ := rd_yes (at_ f off len) a n hn.wid (by rw [at_len]; simp [insB]; omega)
  rw [e1, e2] at hcon
  simp only [cutOf, Int.toNat_natCast] at hcon
  rw [at_cut f off len a n ha, at_len] at hcon
  have HC := hid hcon
  clear hcon e1 e2 h
  unfold rd
  generalize leOf (at_ f (off + a) n) = v at *
  go_enter Tryz.func82, Tryz.ntmps82
  go_wp2_with fail
  refine HC.out.mono ?_
  rintro e w' ⟨rfl, q, rfl⟩
  go_wp2
  go_ret
  exact ⟨rfl, q, rfl⟩

theorem new_cell (w : World) (c : Array Value) (t : TypeId) (fr : Nat × Nat) (i : Nat) (h : i < c.size) : (w.alloc (.cells c t fr)).cell? ⟨w.heap.size, i, none⟩ = some c[i] := by
  have := (MapKept.heap_alloc w (.cells c t fr)).1
  unfold World.cell?
  simp only [this]
  exact Array.getElem?_eq_getElem h
theorem pow8 (k : Nat) (h : k ≤ 8) : (256 : Int) ^ k ≤ 18446744073709551616 := by
  rcases (show k = 0 ∨ k = 1 ∨ k = 2 ∨ k = 3 ∨ k = 4 ∨ k = 5 ∨ k = 6 ∨ k = 7 ∨ k = 8 by omega) with rfl | rfl | rfl | rfl | rfl | rfl | rfl | rfl | rfl <;> decide
theorem put_one (w : World) (b off cap2 n : Nat) (v : Int) (hc : w.cell? ⟨b, off, none⟩ = some (.int .u64 v)) (h0 : 0 ≤ v) (h1 : v < 256 ^ n) (hn : Wid n) :
    Calls Tryz.prog 108 #[.slice none 0 0, .int .i64 n, .slice (some ⟨b, off, none⟩) 1 cap2] w fun e w' => e = .returned (.tuple #[.slice (some ⟨w.heap.size, 0, none⟩) n n, .int .i64 0]) ∧ Below w.heap.size w w' ∧ w'.heap.size = w.heap.size + 1 ∧
      w'.rowIs w.heap.size 5 n (fun i => .int .u8 ((bytesLe n v).getD i 0)) := by
  have hp := pow8 n (by rcases hn with rfl | rfl | rfl <;> omega)
  have := putLe_yes none (some ⟨b, off, none⟩) 0 cap2 n [] [v] w (by simp) (by simp) (Bytes.nil_ w none) (fun i hi => by
    obtain rfl : i = 0 := by simpa using hi
    exact ⟨b, off, rfl, hc, h0, by simp; omega⟩) hn.wid (by rcases hn with rfl | rfl | rfl <;> omega) (by
    simp only [fitsB, List.all_cons, List.all_nil, Bool.and_true, fitB, Int.toNat_natCast, beq_iff_eq]
    exact Int.ediv_eq_zero_of_lt h0 h1)
  simp only [List.length_nil, List.length_cons, Nat.zero_add, Nat.mul_one, outLe, List.nil_append, List.flatMap_cons, List.flatMap_nil, List.append_nil] at this
  exact this

set_option maxRecDepth 100000 in
theorem cut_run (g off len cap lo hi : Nat) (h : lo < hi) (hh : hi ≤ len) (hc : len ≤ cap) (W : World) : (Instr.slice 25 (.slice (some ⟨g, off, none⟩) len cap) (some (.int .i64 lo)) (some (.int .i64 hi)) none).run Tryz.prog W = .ok (.slice (some ⟨g, off + lo, none⟩) (hi - lo) (cap - lo)) W := by
  have hz : (sizeOf 5).run Tryz.prog W = .ok 1 W := by kernel_rfl
  rw [run_slice_lh (P := Tryz.prog) W 25 (some ⟨g, off, none⟩) len cap Tryz.underlying25 .i64 .i64 lo hi (by omega) (by omega) (by omega)]
  have e : Tryz.prog.elem 25 = 5 := by kernel_rfl
  rw [e, hz]
  have h2 : ¬ (cap = lo) := by omega
  simp [sliced, Addr.add, h2]

/-- 'copy' of a row of bytes into memory. -/
theorem wpList_copy_mem {w : World} {ops : Array Oper} {rest : List Oper} {o : Oper} {a : Act} {Q : Exit → Act → World → Prop} (hgd : o.guard = none) (d s : Operand)
    (ho : o.op = .call { callee := .builtin .copy, args := #[d, s], argTypes := #[25, 25] })
    (g N p n dCap r sCap : Nat) (f : Nat → Int) (v : Int) (hd : a.eval d = .slice (some ⟨g, p, none⟩) n dCap) (hs : a.eval s = .slice (some ⟨r, 0, none⟩) n sCap)
    (hm : Mem w g N f) (hr : w.rowIs r 5 n (fun i => .int .u8 ((bytesLe n v).getD i 0))) (hp : p + n ≤ N)
    (h : ∀ w', Hid (Mem w' g N (wr f p n v)) → Hid (Mods (fun b => b = g) w w') → wpList Tryz.prog ops Q rest (a.put o.dst (goInt n)) w') :
    wpList Tryz.prog ops Q (o :: rest) a w := by
  obtain ⟨⟨cur, hg, hcn, hcur⟩, hB⟩ := hm
  have hlen : ((bytesLe n v).map fun x => Value.int .u8 x).length = n := by rw [List.length_map, len_le]
  refine wpList_copy_own hgd d s 25 25 ho 5 Tryz.underlying25 size5 g p n dCap ⟨r, 0, none⟩ n sCap hd hs cur 5 hg ((bytesLe n v).map fun x => Value.int .u8 x) (by rw [hlen]; exact (Nat.min_self n).symm) (fun j u hj => ?_) (by rw [hlen]; omega) (fun u hu => by simp only [List.mem_map] at hu; obtain ⟨y, _, rfl⟩ := hu; rfl) ?_
  · have hj2 : j < n := by have := (List.getElem?_eq_some_iff.1 hj).1; rwa [hlen] at this
    have e : (⟨r, 0, none⟩ : Addr).add j = ⟨r, 0 + j, none⟩ := by unfold Addr.add; split <;> simp_all
    rw [e, Nat.zero_add, hr.cell hj2]
    rw [List.getElem?_map] at hj
    simp only [Option.map_eq_some_iff] at hj
    obtain ⟨x, hx, rfl⟩ := hj
    simp [List.getD, hx]
  · rw [hlen]
    refine h _ (hid ⟨⟨_, setRow_heap w g _ _ 5 _ hg, by simp [len_le]; omega, fun i hi => ?_⟩, wr_isB hB⟩) (hid ⟨rfl, rfl, rfl, by simp [World.setRow], fun b _ hb => setRow_other w g b _ hb⟩)
    have h5 := hcur i hi
    simp only [List.getElem?_toArray]
    unfold wr
    by_cases h6 : p ≤ i
    · by_cases h7 : i < p + n
      · rw [if_pos ⟨h6, h7⟩, List.getElem?_append_right (by simp; omega), List.getElem?_append_left (by simp [len_le]; omega)]
        have : min p cur.size = p := by omega
        simp only [List.length_take, Array.length_toList, this, List.getElem?_map]
        rw [show (bytesLe n v)[i - p]? = some ((bytesLe n v).getD (i - p) 0) by simp [List.getD, len_le, show i - p < n by omega], getD_le n v (i - p) (by omega)]
        rfl
      · rw [if_neg (by omega), List.getElem?_append_right (by simp; omega), List.getElem?_append_right (by simp [len_le]; omega)]
        have e1 : min p cur.size = p := by omega
        have e2 : p + n + (i - p - n) = i := by omega
        simp [e1, len_le, e2, h5]
    · rw [if_neg (by omega), List.getElem?_append_left (by simp; omega), List.getElem?_take]
      simp [show i < p by omega, h5]

theorem pow_i {n : Nat} (hn : Wid n) : (256 : Int) ^ n ≤ 18446744073709551616 := pow8 n (by rcases hn with rfl | rfl | rfl <;> omega)

set_option maxRecDepth 100000 in
set_option maxHeartbeats 400000 in
theorem lay_any (w : World) (g N off len cap p n : Nat) (f : Nat → Int) (v : Int) (h : Mem w g N f) (hl : off + len ≤ N) (hc : len ≤ cap) (hm : len ≤ 1099511627776) (ha : p + n ≤ len) (hn : Wid n) (h0 : 0 ≤ v) (h1 : v < 256 ^ n) (h2 : v < 9223372036854775808) :
    Calls Tryz.prog 88 #[.slice (some ⟨g, off, none⟩) len cap, .int .i64 p, .int .i64 n, .int .i64 v] w fun e w' => e = .returned (.tuple #[]) ∧ Mem w' g N (wr f (off + p) n v) ∧ Mods (fun b => b = g) w w' := by
  have hb : 2 ≤ n ∧ n ≤ 8 := by rcases hn with rfl | rfl | rfl <;> omega
  have hw0 : IntKind.u64.wrap v = v := by rw [IntKind.wrap_u64]; omega
  have hw1 : IntKind.i64.wrap ((p : Int) + n) = (p : Int) + n := IntWalk.i64_in _ (by omega)
  have hcut := cut_run g off len cap p (p + n) (by omega) ha hc
  rw [show ((p + n : Nat) : Int) = (p : Int) + n by omega, Nat.add_sub_cancel_left] at hcut
  have hcon := put_one (w.alloc (.cells #[.int .u64 v] 140)) w.heap.size 0 1 n v (new_cell w _ _ _ 0 (by simp)) h0 h1 hn
  have HC := hid hcon
  have HM := hid h
  have HN := hid hn
  have H1 := hid h1
  clear hcon h hn h1
  go_enter Tryz.func88, Tryz.ntmps88
  go_wp2_with fail
  refine HC.out.mono ?_
  rintro e w1 ⟨rfl, hb1, hs1, hr1⟩
  have HB1 := hid hb1
  rw [show (w.alloc (.cells #[.int .u64 v] 140)).heap.size = w.heap.size + 1 by simp] at hr1
  have HR1 := hid hr1
  clear hb1 hs1 hr1
  have hm1 : Mods (fun b => b = g) w w1 := ((Mods.refl _ w).alloc _).below HB1.out
  have HMO := hid hm1
  have HM1 := hid (Mem.below (w := w.alloc (.cells #[.int .u64 v] 140)) (HM.out.below ((Below.refl _ _).alloc (Nat.le_refl _) _)) HB1.out)
  clear hm1 HC
  go_wp2_with (show wpList _ _ _ ({ dst := _, op := .call { callee := .builtin .copy, args := #[.tmp 23, .tmp 24], argTypes := #[25, 25] }, type := _, pos := _, after := _, guard := none } :: _) _ _; refine wpList_copy_mem rfl (.tmp 23) (.tmp 24) rfl g N (off + p) n _ _ _ f v rfl rfl HM1.out HR1.out (by omega) ?_; intro w2 hm2 hmo2)
  go_end0
  exact ⟨rfl, hm2.out, HMO.out.tr hmo2.out⟩
end Go.Proofs.YtdjghkngiicncaaGreat

/- Places of the rings and of the descriptors: element, descriptor, index, setIndex. -/
namespace Go.Proofs.YtdjghkngiicncaaGreat
open Go.RowKit

set_option maxRecDepth 100000 in
theorem cut3_run (g off len cap lo hi : Nat) (h : lo < hi) (hh : hi ≤ len) (hc : len ≤ cap) (W : World) : (Instr.slice 25 (.slice (some ⟨g, off, none⟩) len cap) (some (.int .i64 lo)) (some (.int .i64 hi)) (some (.int .i64 hi))).run Tryz.prog W = .ok (.slice (some ⟨g, off + lo, none⟩) (hi - lo) (hi - lo)) W := by
  have hz : (sizeOf 5).run Tryz.prog W = .ok 1 W := by kernel_rfl
  rw [run_slice_lhm (P := Tryz.prog) W 25 (some ⟨g, off, none⟩) len cap Tryz.underlying25 .i64 .i64 .i64 lo hi hi (by omega) (by omega) (by omega) (by omega)]
  have e : Tryz.prog.elem 25 = 5 := by kernel_rfl
  rw [e, hz]
  have h2 : ¬ (hi = lo) := by omega
  simp [sliced, Addr.add, h2]

theorem below_drewN {B : Nat} {w0 w : World} (h : Below B w0 w) (n : Nat) : Below B w0 (w.drewN n) := ⟨h.os, h.tape, h.output, h.size, h.block⟩

set_option maxRecDepth 100000 in
set_option maxHeartbeats 400000 in
theorem element_2 (w : World) (g p n c k L : Nat) (hn : 1 ≤ n) (hn2 : n ≤ 256) (hk : k = c % n) (hc : c < 65536) (hL : L = 4 + n * 2) :
    Calls Tryz.prog 83 #[.agg #[.slice (some ⟨g, p, none⟩) L L, .int .i64 n, .int .i64 2], .int .u16 c] w fun e w' => e = .returned (.slice (some ⟨g, p + (4 + k * 2), none⟩) 2 2) ∧ Below w.heap.size w w' := by
  have hkn : k < n := by rw [hk]; exact Nat.mod_lt _ hn
  have hn0 : ¬ ((n : Int) = 0) := by omega
  have hmod : Int.tmod (c : Int) (n : Int) = (k : Int) := by rw [hk]; exact (Int.ofNat_tmod c n).symm
  have hcv : IntKind.i64.wrap (c : Int) = c := IntWalk.i64_in _ (by omega)
  have e1 : IntKind.i64.wrap ((k : Int) * 2) = (k : Int) * 2 := IntWalk.i64_in _ (by omega)
  have e2 : IntKind.i64.wrap (4 + (k : Int) * 2) = 4 + (k : Int) * 2 := IntWalk.i64_in _ (by omega)
  have e3 : IntKind.i64.wrap (4 + (k : Int) * 2 + 2) = 4 + (k : Int) * 2 + 2 := IntWalk.i64_in _ (by omega)
  have hcut := cut3_run g p L L (4 + k * 2) (4 + k * 2 + 2) (by omega) (by omega) (Nat.le_refl _)
  rw [show ((4 + k * 2 : Nat) : Int) = 4 + (k : Int) * 2 by omega, show ((4 + k * 2 + 2 : Nat) : Int) = 4 + (k : Int) * 2 + 2 by omega, Nat.add_sub_cancel_left] at hcut
  clear hk hL
  go_enter Tryz.func83, Tryz.ntmps83
  go_wp2
  go_quiet (fail)
  go_wp2
  go_ret
  exact ⟨rfl, below_drewN ((Below.refl _ _).alloc (Nat.le_refl _) _) _⟩
set_option maxRecDepth 100000 in
set_option maxHeartbeats 400000 in
theorem element_8 (w : World) (g p n c k L : Nat) (hn : 1 ≤ n) (hn2 : n ≤ 256) (hk : k = c % n) (hc : c < 65536) (hL : L = 4 + n * 8) :
    Calls Tryz.prog 83 #[.agg #[.slice (some ⟨g, p, none⟩) L L, .int .i64 n, .int .i64 8], .int .u16 c] w fun e w' => e = .returned (.slice (some ⟨g, p + (4 + k * 8), none⟩) 8 8) ∧ Below w.heap.size w w' := by
  have hkn : k < n := by rw [hk]; exact Nat.mod_lt _ hn
  have hn0 : ¬ ((n : Int) = 0) := by omega
  have hmod : Int.tmod (c : Int) (n : Int) = (k : Int) := by rw [hk]; exact (Int.ofNat_tmod c n).symm
  have hcv : IntKind.i64.wrap (c : Int) = c := IntWalk.i64_in _ (by omega)
  have e1 : IntKind.i64.wrap ((k : Int) * 8) = (k : Int) * 8 := IntWalk.i64_in _ (by omega)
  have e2 : IntKind.i64.wrap (4 + (k : Int) * 8) = 4 + (k : Int) * 8 := IntWalk.i64_in _ (by omega)
  have e3 : IntKind.i64.wrap (4 + (k : Int) * 8 + 8) = 4 + (k : Int) * 8 + 8 := IntWalk.i64_in _ (by omega)
  have hcut := cut3_run g p L L (4 + k * 8) (4 + k * 8 + 8) (by omega) (by omega) (Nat.le_refl _)
  rw [show ((4 + k * 8 : Nat) : Int) = 4 + (k : Int) * 8 by omega, show ((4 + k * 8 + 8 : Nat) : Int) = 4 + (k : Int) * 8 + 8 by omega, Nat.add_sub_cancel_left] at hcut
  clear hk hL
  go_enter Tryz.func83, Tryz.ntmps83
  go_wp2
  go_quiet (fail)
  go_wp2
  go_ret
  exact ⟨rfl, below_drewN ((Below.refl _ _).alloc (Nat.le_refl _) _) _⟩

/-- Where the parts of a queue lie in memory of N bytes. -/
structure Geo (base n N po pu Ld Lo Lu : Nat) : Prop where
  n1 : 1 ≤ n
  n2 : n ≤ 256
  epo : po = base + 16 * n
  epu : pu = base + 18 * n + 4
  eLd : Ld = 16 * n
  eLo : Lo = 4 + 2 * n
  eLu : Lu = 4 + 8 * n
  fit : base + 26 * n + 8 ≤ N
  big : N ≤ 1099511627776

def memC (g base n po pu Ld Lo Lu : Nat) : List Value := [.int .i64 n, .slice (some ⟨g, base, none⟩) Ld Ld, .slice (some ⟨g, po, none⟩) Lo Lo, .int .i64 n, .int .i64 2, .slice (some ⟨g, pu, none⟩) Lu Lu, .int .i64 n, .int .i64 8]

set_option maxRecDepth 100000 in
set_option maxHeartbeats 400000 in
theorem index_any (w : World) (g N p L : Nat) (x y : Value) (f : Nat → Int) (h : Mem w g N f) (hl : p + L ≤ N) (hb : N ≤ 1099511627776) (h4 : 4 ≤ L) :
    Calls Tryz.prog 63 #[.agg #[.slice (some ⟨g, p, none⟩) L L, x, y]] w fun e w' => e = .returned (.int .u16 (rd f (p + 2) 2)) ∧ Below w.heap.size w w' := by
  have hbd := rd_bd h (p + 2) 2 (by omega)
  have hw : IntKind.u16.wrap (rd f (p + 2) 2) = rd f (p + 2) 2 := by rw [IntKind.wrap_u16]; omega
  have hcon := number_any (w.alloc (.cells #[.slice (some ⟨g, p, none⟩) L L, x, y] 117)) g N p L L 2 2 f (h.below ((Below.refl _ _).alloc (Nat.le_refl _) _)) hl (Nat.le_refl _) (by unfold maxLen; omega) (by omega) (.inl rfl)
  have HC := hid hcon
  clear hcon hbd h
  generalize rd f (p + 2) 2 = v at *
  go_enter Tryz.func63, Tryz.ntmps63
  go_wp2_with fail
  refine HC.out.mono ?_
  rintro e w' ⟨rfl, q, rfl⟩
  go_wp2
  go_ret
  exact ⟨rfl, below_drewN ((Below.refl _ _).alloc (Nat.le_refl _) _) _⟩

set_option maxRecDepth 100000 in
set_option maxHeartbeats 400000 in
theorem setIndex_any (w : World) (g N p L : Nat) (x y : Value) (c : Nat) (f : Nat → Int) (h : Mem w g N f) (hl : p + L ≤ N) (hb : N ≤ 1099511627776) (h4 : 4 ≤ L) (hc : c < 65536) :
    Calls Tryz.prog 89 #[.agg #[.slice (some ⟨g, p, none⟩) L L, x, y], .int .u16 c] w fun e w' => e = .returned (.tuple #[]) ∧ Mem w' g N (wr f (p + 2) 2 c) ∧ Mods (fun b => b = g) w w' := by
  have hw : IntKind.i64.wrap (c : Int) = c := IntWalk.i64_in _ (by omega)
  have hcon := lay_any (w.alloc (.cells #[.slice (some ⟨g, p, none⟩) L L, x, y] 117)) g N p L L 2 2 f c (h.below ((Below.refl _ _).alloc (Nat.le_refl _) _)) hl (Nat.le_refl _) (by omega) (by omega) (.inl rfl) (by omega) (by omega) (by omega)
  have HC := hid hcon
  clear hcon h
  go_enter Tryz.func89, Tryz.ntmps89
  go_wp2_with fail
  refine HC.out.mono ?_
  rintro e w' ⟨rfl, hm, hmo⟩
  have HM := hid hm
  have HMO := hid hmo
  clear hm hmo
  go_wp2
  go_end0
  exact ⟨rfl, HM.out, ((Mods.refl _ w).alloc _).tr HMO.out⟩

set_option maxRecDepth 100000 in
set_option maxHeartbeats 400000 in
theorem descriptor_any (w : World) (g base n N po pu Ld Lo Lu i : Nat) (G : Geo base n N po pu Ld Lo Lu) (hi : i < n) :
    Calls Tryz.prog 93 #[.agg (memC g base n po pu Ld Lo Lu).toArray, .int .i64 i] w fun e w' => e = .returned (.slice (some ⟨g, base + i * 16, none⟩) 16 16) ∧ Below w.heap.size w w' := by
  obtain ⟨n1, n2, rfl, rfl, rfl, rfl, rfl, h1, h2⟩ := G
  have e1 : IntKind.i64.wrap ((i : Int) * 16) = (i : Int) * 16 := IntWalk.i64_in _ (by omega)
  have e2 : IntKind.i64.wrap ((i : Int) * 16 + 16) = (i : Int) * 16 + 16 := IntWalk.i64_in _ (by omega)
  have hcut := cut3_run g base (16 * n) (16 * n) (i * 16) (i * 16 + 16) (by omega) (by omega) (Nat.le_refl _)
  rw [show ((i * 16 : Nat) : Int) = (i : Int) * 16 by omega, show ((i * 16 + 16 : Nat) : Int) = (i : Int) * 16 + 16 by omega, Nat.add_sub_cancel_left] at hcut
  unfold memC
  go_enter Tryz.func93, Tryz.ntmps93
  go_wp2
  go_ret
  exact ⟨rfl, (Below.refl _ _).alloc (Nat.le_refl _) _⟩

set_option maxRecDepth 100000 in
set_option maxHeartbeats 400000 in
theorem offer_any (w : World) (g base n N po pu Ld Lo Lu c k : Nat) (f : Nat → Int) (h : Mem w g N f) (G : Geo base n N po pu Ld Lo Lu) (hk : k = c % n) (hc : c < 65536) :
    Calls Tryz.prog 86 #[.agg (memC g base n po pu Ld Lo Lu).toArray, .int .u16 c] w fun e w' => e = .returned (.int .i64 (rd f (po + (4 + k * 2)) 2)) ∧ Below w.heap.size w w' := by
  have hkn : k < n := by rw [hk]; exact Nat.mod_lt _ G.n1
  have hs1 : po + Lo ≤ N := by have := G.fit; have := G.epo; have := G.eLo; omega
  have HS2 : Hid (Lo = 4 + n * 2) := hid (by have := G.eLo; omega)
  have hs3 : 4 + n * 2 ≤ Lo := by have := G.eLo; omega
  have hbd := rd_bd h (po + (4 + k * 2)) 2 (by omega)
  have hw : IntKind.i64.wrap (rd f (po + (4 + k * 2)) 2) = rd f (po + (4 + k * 2)) 2 := IntWalk.i64_in _ (by omega)
  have n1 := G.n1
  have n2 := G.n2
  have hb := G.big
  have HM := hid h
  have HK := hid hk
  clear hbd h hk G
  unfold memC
  generalize hv : rd f (po + (4 + k * 2)) 2 = v at *
  have HV := hid hv
  clear hv
  go_enter Tryz.func86, Tryz.ntmps86
  go_wp2_with fail
  refine (element_2 _ g po n c k Lo n1 n2 HK.out hc HS2.out).mono ?_
  rintro e w1 ⟨rfl, hb1⟩
  have HB1 := hid (((Below.refl _ w).alloc (Nat.le_refl _) _).trans (hb1.mono (by simp)))
  clear hb1
  go_wp2_with fail
  refine (number_any w1 g N (po + (4 + k * 2)) 2 2 0 2 f (HM.out.below HB1.out) (by omega) (Nat.le_refl _) (by unfold maxLen; omega) (by omega) (.inl rfl)).mono ?_
  rintro e w2 ⟨rfl, q, rfl⟩
  rw [Nat.add_zero, HV.out]
  go_wp2
  go_ret
  exact ⟨rfl, below_drewN HB1.out _⟩

set_option maxRecDepth 100000 in
set_option maxHeartbeats 400000 in
theorem use_any (w : World) (g base n N po pu Ld Lo Lu c k : Nat) (f : Nat → Int) (h : Mem w g N f) (G : Geo base n N po pu Ld Lo Lu) (hk : k = c % n) (hc : c < 65536) :
    Calls Tryz.prog 64 #[.agg (memC g base n po pu Ld Lo Lu).toArray, .int .u16 c] w fun e w' => e = .returned (.tuple #[.int .i64 (rd f (pu + (4 + k * 8)) 4), .int .i64 (rd f (pu + (4 + k * 8) + 4) 4)]) ∧ Below w.heap.size w w' := by
  have hkn : k < n := by rw [hk]; exact Nat.mod_lt _ G.n1
  have hs1 : pu + Lu ≤ N := by have := G.fit; have := G.epu; have := G.eLu; omega
  have HS2 : Hid (Lu = 4 + n * 8) := hid (by have := G.eLu; omega)
  have hs3 : 4 + n * 8 ≤ Lu := by have := G.eLu; omega
  have hbd := rd_bd h (pu + (4 + k * 8)) 4 (by omega)
  have hbd2 := rd_bd h (pu + (4 + k * 8) + 4) 4 (by omega)
  have hw : IntKind.i64.wrap (rd f (pu + (4 + k * 8)) 4) = rd f (pu + (4 + k * 8)) 4 := IntWalk.i64_in _ (by omega)
  have hw2 : IntKind.i64.wrap (rd f (pu + (4 + k * 8) + 4) 4) = rd f (pu + (4 + k * 8) + 4) 4 := IntWalk.i64_in _ (by omega)
  have n1 := G.n1
  have n2 := G.n2
  have hb := G.big
  have HM := hid h
  have HK := hid hk
  clear hbd hbd2 h hk G
  unfold memC
  generalize hv : rd f (pu + (4 + k * 8)) 4 = v at *
  have HV := hid hv
  clear hv
  generalize hv2 : rd f (pu + (4 + k * 8) + 4) 4 = v2 at *
  have HV2 := hid hv2
  clear hv2
  go_enter Tryz.func64, Tryz.ntmps64
  go_wp2_with fail
  refine (element_8 _ g pu n c k Lu n1 n2 HK.out hc HS2.out).mono ?_
  rintro e w1 ⟨rfl, hb1⟩
  have HB1 := hid (((Below.refl _ w).alloc (Nat.le_refl _) _).trans (hb1.mono (by simp)))
  clear hb1
  go_wp2_with fail
  refine (number_any w1 g N (pu + (4 + k * 8)) 8 8 0 4 f (HM.out.below HB1.out) (by omega) (Nat.le_refl _) (by unfold maxLen; omega) (by omega) (.inr (.inl rfl))).mono ?_
  rintro e w2 ⟨rfl, q, rfl⟩
  rw [Nat.add_zero, HV.out]
  have HB2 := hid (below_drewN HB1.out q)
  clear HB1
  generalize w1.drewN q = w2 at *
  go_wp2_with fail
  refine (number_any w2 g N (pu + (4 + k * 8)) 8 8 4 4 f (HM.out.below HB2.out) (by omega) (Nat.le_refl _) (by unfold maxLen; omega) (by omega) (.inr (.inl rfl))).mono ?_
  rintro e w3 ⟨rfl, q3, rfl⟩
  rw [HV2.out]
  go_wp2
  go_ret2
  exact ⟨rfl, below_drewN HB2.out _⟩

set_option maxRecDepth 100000 in
set_option maxHeartbeats 400000 in
theorem putOffer_any (w : World) (g base n N po pu Ld Lo Lu c k : Nat) (v : Int) (f : Nat → Int) (h : Mem w g N f) (G : Geo base n N po pu Ld Lo Lu) (hk : k = c % n) (hc : c < 65536) (hv : 0 ≤ v) (hv2 : v < 65536) :
    Calls Tryz.prog 79 #[.agg (memC g base n po pu Ld Lo Lu).toArray, .int .u16 c, .int .i64 v] w fun e w' => e = .returned (.tuple #[]) ∧ Mem w' g N (wr (wr f (po + (4 + k * 2)) 2 v) (po + 2) 2 ((c + 1) % 65536 : Nat)) ∧ Mods (fun b => b = g) w w' := by
  have hkn : k < n := by rw [hk]; exact Nat.mod_lt _ G.n1
  have hs1 : po + Lo ≤ N := by have := G.fit; have := G.epo; have := G.eLo; omega
  have HS2 : Hid (Lo = 4 + n * 2) := hid (by have := G.eLo; omega)
  have hs3 : 4 + n * 2 ≤ Lo := by have := G.eLo; omega
  have hw : IntKind.u16.wrap ((c : Int) + 1) = (((c + 1) % 65536 : Nat) : Int) := by rw [IntKind.wrap_u16]; omega
  have hc1 : (c + 1) % 65536 < 65536 := Nat.mod_lt _ (by omega)
  generalize (c + 1) % 65536 = c1 at *
  have n1 := G.n1
  have n2 := G.n2
  have hb := G.big
  have HM := hid h
  have HK := hid hk
  clear h hk G
  unfold memC
  go_enter Tryz.func79, Tryz.ntmps79
  go_wp2_with fail
  refine (element_2 _ g po n c k Lo n1 n2 HK.out hc HS2.out).mono ?_
  rintro e w1 ⟨rfl, hb1⟩
  have hcell : w1.heap[w.heap.size]? = _ := (hb1.block w.heap.size (by simp)).trans (MapKept.heap_alloc w _).1
  have HB1 := hid (((Below.refl _ w).alloc (Nat.le_refl _) _).trans (hb1.mono (by simp)))
  have HCE := hid hcell
  clear hb1 hcell
  go_wp2_with fail
  refine (lay_any w1 g N (po + (4 + k * 2)) 2 2 0 2 f v (HM.out.below HB1.out) (by omega) (Nat.le_refl _) (by omega) (by omega) (.inl rfl) hv (by omega) (by omega)).mono ?_
  rintro e w2 ⟨rfl, hm2, hmo2⟩
  rw [Nat.add_zero] at hm2
  have hlt := HM.out.lt
  have hcell2 := (hmo2.block w.heap.size (by have := HB1.out.size; have := (Array.getElem?_eq_some_iff.1 HCE.out).1; omega) (by omega)).trans HCE.out
  have hc2 : w2.cell? ⟨w.heap.size, 2, none⟩ = some (.slice (some ⟨g, po, none⟩) Lo Lo) := by unfold World.cell?; simp [hcell2]
  have hc3 : w2.cell? ⟨w.heap.size, 3, none⟩ = some (.int .i64 n) := by unfold World.cell?; simp [hcell2]
  have hc4 : w2.cell? ⟨w.heap.size, 4, none⟩ = some (.int .i64 2) := by unfold World.cell?; simp [hcell2]
  have HM2 := hid hm2
  have HMO2 := hid ((Mods.of_below HB1.out).tr hmo2)
  clear hm2 hmo2 hcell2 HCE HB1
  go_wp2_with fail
  refine (setIndex_any w2 g N po Lo _ _ c1 _ HM2.out hs1 hb (by omega) hc1).mono ?_
  rintro e w3 ⟨rfl, hm3, hmo3⟩
  have HM3 := hid hm3
  have HMO3 := hid (HMO2.out.tr hmo3)
  clear hm3 hmo3
  go_wp2
  go_end0
  exact ⟨rfl, HM3.out, HMO3.out⟩
end Go.Proofs.YtdjghkngiicncaaGreat

/- putUse, wipe, Size, cut, share. -/
namespace Go.Proofs.YtdjghkngiicncaaGreat
open Go.RowKit

set_option maxRecDepth 100000 in
set_option maxHeartbeats 400000 in
theorem putUse_any (w : World) (g base n N po pu Ld Lo Lu c k : Nat) (v u : Int) (f : Nat → Int) (h : Mem w g N f) (G : Geo base n N po pu Ld Lo Lu) (hk : k = c % n) (hc : c < 65536) (hv : 0 ≤ v) (hv2 : v < 4294967296) (hu : 0 ≤ u) (hu2 : u < 4294967296) :
    Calls Tryz.prog 70 #[.agg (memC g base n po pu Ld Lo Lu).toArray, .int .u16 c, .int .i64 v, .int .i64 u] w fun e w' => e = .returned (.tuple #[]) ∧ Mem w' g N (wr (wr (wr f (pu + (4 + k * 8)) 4 v) (pu + (4 + k * 8) + 4) 4 u) (pu + 2) 2 ((c + 1) % 65536 : Nat)) ∧ Mods (fun b => b = g) w w' := by
  have hkn : k < n := by rw [hk]; exact Nat.mod_lt _ G.n1
  have hs1 : pu + Lu ≤ N := by have := G.fit; have := G.epu; have := G.eLu; omega
  have HS2 : Hid (Lu = 4 + n * 8) := hid (by have := G.eLu; omega)
  have hs3 : 4 + n * 8 ≤ Lu := by have := G.eLu; omega
  have hw : IntKind.u16.wrap ((c : Int) + 1) = (((c + 1) % 65536 : Nat) : Int) := by rw [IntKind.wrap_u16]; omega
  have hc1 : (c + 1) % 65536 < 65536 := Nat.mod_lt _ (by omega)
  generalize (c + 1) % 65536 = c1 at *
  have n1 := G.n1
  have n2 := G.n2
  have hb := G.big
  have HM := hid h
  have HK := hid hk
  clear h hk G
  unfold memC
  go_enter Tryz.func70, Tryz.ntmps70
  go_wp2_with fail
  refine (element_8 _ g pu n c k Lu n1 n2 HK.out hc HS2.out).mono ?_
  rintro e w1 ⟨rfl, hb1⟩
  have hcell : w1.heap[w.heap.size]? = _ := (hb1.block w.heap.size (by simp)).trans (MapKept.heap_alloc w _).1
  have HB1 := hid (((Below.refl _ w).alloc (Nat.le_refl _) _).trans (hb1.mono (by simp)))
  have HCE := hid hcell
  clear hb1 hcell
  go_wp2_with fail
  refine (lay_any w1 g N (pu + (4 + k * 8)) 8 8 0 4 f v (HM.out.below HB1.out) (by omega) (Nat.le_refl _) (by omega) (by omega) (.inr (.inl rfl)) hv (by omega) (by omega)).mono ?_
  rintro e w2 ⟨rfl, hm2, hmo2⟩
  rw [Nat.add_zero] at hm2
  have hlt := HM.out.lt
  have hcell2 := (hmo2.block w.heap.size (by have := HB1.out.size; have := (Array.getElem?_eq_some_iff.1 HCE.out).1; omega) (by omega)).trans HCE.out
  have HM2 := hid hm2
  have HMO2 := hid ((Mods.of_below HB1.out).tr hmo2)
  have HCE2 := hid hcell2
  clear hm2 hmo2 hcell2 HCE HB1
  go_wp2_with fail
  refine (lay_any w2 g N (pu + (4 + k * 8)) 8 8 4 4 _ u HM2.out (by omega) (Nat.le_refl _) (by omega) (by omega) (.inr (.inl rfl)) hu (by omega) (by omega)).mono ?_
  rintro e w3 ⟨rfl, hm3, hmo3⟩
  have hcell2 := (hmo3.block w.heap.size (by have := (Array.getElem?_eq_some_iff.1 HCE2.out).1; omega) (by omega)).trans HCE2.out
  have hc2 : w3.cell? ⟨w.heap.size, 5, none⟩ = some (.slice (some ⟨g, pu, none⟩) Lu Lu) := by unfold World.cell?; simp [hcell2]
  have hc3 : w3.cell? ⟨w.heap.size, 6, none⟩ = some (.int .i64 n) := by unfold World.cell?; simp [hcell2]
  have hc4 : w3.cell? ⟨w.heap.size, 7, none⟩ = some (.int .i64 8) := by unfold World.cell?; simp [hcell2]
  have HM3 := hid hm3
  have HMO3 := hid (HMO2.out.tr hmo3)
  clear hm3 hmo3 hcell2 HCE2 HMO2 HM2
  go_wp2_with fail
  refine (setIndex_any w3 g N pu Lu _ _ c1 _ HM3.out hs1 hb (by omega) hc1).mono ?_
  rintro e w4 ⟨rfl, hm4, hmo4⟩
  have HM4 := hid hm4
  have HMO4 := hid (HMO3.out.tr hmo4)
  clear hm4 hmo4
  go_wp2
  go_end0
  exact ⟨rfl, HM4.out, HMO4.out⟩

/-! ### noughts -/
def zr (f : Nat → Int) (a n : Nat) : Nat → Int := fun i => if a ≤ i ∧ i < a + n then 0 else f i
theorem Mem.set1 {w : World} {g N : Nat} {f : Nat → Int} (h : Mem w g N f) (k : Nat) (x : Int) (hx : IsB x) : Mem (w.setCell ⟨g, k, none⟩ (.int .u8 x)) g N (fun i => if i = k then x else f i) := by
  obtain ⟨⟨c, h1, h2, h3⟩, h4⟩ := h
  have hl : g < w.heap.size := (Array.getElem?_eq_some_iff.1 h1).1
  have h' : w.heap[g] = .cells c 5 (0, 0) := (Array.getElem?_eq_some_iff.1 h1).2
  refine ⟨⟨c.setIfInBounds k (.int .u8 x), by simp [World.setCell, hl, Array.getElem_modify, h'], by simpa using h2, fun i hi => ?_⟩, fun i hi => by dsimp only; split; exact hx; exact h4 i hi⟩
  rw [Array.getElem?_setIfInBounds]
  by_cases e : i = k
  · subst e; simp; omega
  · rw [if_neg (fun e' => e e'.symm), h3 i hi]
    simp [e]
theorem Mods.setCell {al : Nat → Prop} {w w' : World} (h : Mods al w w') (g k : Nat) (v : Value) (hg : al g) : Mods al w (w'.setCell ⟨g, k, none⟩ v) :=
  h.tr ⟨rfl, rfl, rfl, by simp [World.setCell], fun b _ hn => Below.heap_setCell _ _ _ _ (fun e => hn (by rw [e]; exact hg))⟩
theorem Mem.clear {g N : Nat} (n : Nat) : ∀ (w : World) (f : Nat → Int) (o : Nat), Mem w g N f → Mem (w.setCells g o (List.replicate n (.int .u8 0))) g N (zr f o n) ∧ Mods (fun b => b = g) w (w.setCells g o (List.replicate n (.int .u8 0))) := by
  induction n with
  | zero => intro w f o h; exact ⟨h.congr (fun i _ => by unfold zr; rw [if_neg (by omega)]), Mods.refl _ _⟩
  | succ n ih =>
    intro w f o h
    rw [List.replicate_succ]
    show Mem ((w.setCell ⟨g, o, none⟩ (.int .u8 0)).setCells g (o + 1) _) _ _ _ ∧ Mods _ _ ((w.setCell ⟨g, o, none⟩ (.int .u8 0)).setCells g (o + 1) _)
    obtain ⟨h1, h2⟩ := ih _ _ (o + 1) (h.set1 o 0 (by unfold IsB; omega))
    refine ⟨h1.congr (fun i _ => ?_), ((Mods.refl (fun b => b = g) w).setCell g o _ rfl).tr h2⟩
    unfold zr
    by_cases e : i = o
    · subst e; simp
    · by_cases h3 : o + 1 ≤ i ∧ i < o + 1 + n
      · rw [if_pos h3, if_pos (by omega)]
      · rw [if_neg h3]
        show (if i = o then (0 : Int) else f i) = _
        rw [if_neg e, if_neg (by omega)]
theorem zero5 (w : World) : (zeroValue 5).run Tryz.prog w = .ok (.int .u8 0) w := by kernel_rfl
theorem wpList_clear_mem {w : World} {ops : Array Oper} {rest : List Oper} {o : Oper} {a : Act} {Q : Exit → Act → World → Prop} (hgd : o.guard = none) (d : Operand) (ho : o.op = .call { callee := .builtin .clear, args := #[d], argTypes := #[25] })
    (g N p n c : Nat) (f : Nat → Int) (hd : a.eval d = .slice (some ⟨g, p, none⟩) n c) (hm : Mem w g N f) (h0 : 0 < n) (hp : p + n ≤ N)
    (h : ∀ w', Hid (Mem w' g N (zr f p n)) → Hid (Mods (fun b => b = g) w w') → wpList Tryz.prog ops Q rest (a.put o.dst (.tuple #[])) w') :
    wpList Tryz.prog ops Q (o :: rest) a w := by
  refine wpList_plain hgd fun K hK => ?_
  have hrun := Lib.run_clear_slice (P := Tryz.prog) w 25 5 o.type (.int .u8 0) Tryz.underlying25 zero5 rfl rfl g p n c h0 (fun j hj => by rw [hm.cell (i := p + j) (by omega)]; rfl) (fun j hj => hm.frozen _)
  obtain ⟨h1, h2⟩ := Mem.clear n w f p hm
  have := h _ (hid h1) (hid h2)
  unfold Oper.wp
  simp [execOp, ho, resolve, invoke, builtin, hd, hrun, Result.andThen]
  exact hK _ _ this

set_option maxRecDepth 100000 in
set_option maxHeartbeats 400000 in
theorem wipe_any (w : World) (g base n N po pu Ld Lo Lu : Nat) (f : Nat → Int) (h : Mem w g N f) (G : Geo base n N po pu Ld Lo Lu) :
    Calls Tryz.prog 73 #[.agg (memC g base n po pu Ld Lo Lu).toArray] w fun e w' => e = .returned (.tuple #[]) ∧ Mem w' g N (zr f base (8 + 26 * n)) ∧ Mods (fun b => b = g) w w' := by
  obtain ⟨n1, n2, epo, epu, eLd, eLo, eLu, h1, h2⟩ := G
  have E := hid (And.intro epo (And.intro epu (And.intro eLd (And.intro eLo eLu))))
  have b1 : base + Ld ≤ N := by omega
  have b2 : po + Lo ≤ N := by omega
  have b3 : pu + Lu ≤ N := by omega
  have b4 : 0 < Ld := by omega
  have b5 : 0 < Lo := by omega
  have b6 : 0 < Lu := by omega
  have hlt := h.lt
  have HM0 := hid (h.below ((Below.refl _ w).alloc (Nat.le_refl _) (.cells (memC g base n po pu Ld Lo Lu).toArray 119)))
  have HC0 : Hid ((w.alloc (.cells (memC g base n po pu Ld Lo Lu).toArray 119)).heap[w.heap.size]? = some (.cells (memC g base n po pu Ld Lo Lu).toArray 119 (0, 0))) := hid (MapKept.heap_alloc w _).1
  clear h epo epu eLd eLo eLu h1 h2
  unfold memC at *
  go_enter Tryz.func73, Tryz.ntmps73
  go_wp2_with (first
    | (show wpList _ _ _ ({ dst := _, op := .call { callee := .builtin .clear, args := #[.tmp 3], argTypes := #[25] }, type := _, pos := _, after := _, guard := none } :: _) _ _
       refine wpList_clear_mem rfl (.tmp 3) rfl g N base Ld Ld f rfl HM0.out b4 b1 ?_
       intro w1 hm1 hmo1
       have hce := (hmo1.out.block w.heap.size (by simp) (by omega)).trans HC0.out
       have HC1 := hid hce
       have c2 : w1.cell? ⟨w.heap.size, 2, none⟩ = some (.slice (some ⟨g, po, none⟩) Lo Lo) := by unfold World.cell?; simp [hce]
       have hs1 : w.heap.size < w1.heap.size := (Array.getElem?_eq_some_iff.1 hce).1
       clear hce)
    | (show wpList _ _ _ ({ dst := _, op := .call { callee := .builtin .clear, args := #[.tmp 6], argTypes := #[25] }, type := _, pos := _, after := _, guard := none } :: _) _ _
       refine wpList_clear_mem rfl (.tmp 6) rfl g N po Lo Lo _ rfl hm1.out b5 b2 ?_
       intro w2 hm2 hmo2
       have hce := (hmo2.out.block w.heap.size hs1 (by omega)).trans HC1.out
       have c5 : w2.cell? ⟨w.heap.size, 5, none⟩ = some (.slice (some ⟨g, pu, none⟩) Lu Lu) := by unfold World.cell?; simp [hce]
       clear hce c2)
    | (show wpList _ _ _ ({ dst := _, op := .call { callee := .builtin .clear, args := #[.tmp 9], argTypes := #[25] }, type := _, pos := _, after := _, guard := none } :: _) _ _
       refine wpList_clear_mem rfl (.tmp 9) rfl g N pu Lu Lu _ rfl hm2.out b6 b3 ?_
       intro w3 hm3 hmo3))
  go_end0
  refine ⟨rfl, hm3.out.congr (fun i hi => ?_), (((Mods.refl _ w).alloc _).tr hmo1.out).tr (hmo2.out.tr hmo3.out)⟩
  obtain ⟨e1, e2, e3, e4, e5⟩ := E.out
  unfold zr
  subst e1 e2 e3 e4 e5
  by_cases a1 : base ≤ i ∧ i < base + (8 + 26 * n)
  · rw [if_pos a1]
    split
    · rfl
    · split
      · rfl
      · rw [if_pos (by omega)]
  · rw [if_neg a1, if_neg (by omega), if_neg (by omega), if_neg (by omega)]

/-! ### Size -/
def pow2 (n : Int) : Bool := n == 1 || n == 2 || n == 4 || n == 8 || n == 16 || n == 32 || n == 64 || n == 128 || n == 256
def sizeI (n : Int) : Int := if pow2 n then 8 + 26 * n else 0
theorem pow2_bd {n : Int} (h : pow2 n = true) : 1 ≤ n ∧ n ≤ 256 := by simp [pow2] at h; omega
theorem pow2_and (k : Fin 256) : decide (bits .and .i64 (k.val + 1 : Int) (k.val + 1 - 1) = 0) = pow2 (k.val + 1) := by
  revert k; decide +kernel
set_option maxRecDepth 100000 in
set_option maxHeartbeats 400000 in
theorem ringSize_any (w : World) (n m : Int) (x : Int) (hx : n * m = x) (hb : 0 ≤ x ∧ x ≤ 4096) : Calls Tryz.prog 52 #[.int .i64 n, .int .i64 m] w fun e w' => e = .returned (.int .i64 (4 + x)) ∧ w' = w := by
  have e1 : IntKind.i64.wrap (n * m) = x := by rw [hx]; exact IntWalk.i64_in _ (by omega)
  have e2 : IntKind.i64.wrap (4 + x) = 4 + x := IntWalk.i64_in _ (by omega)
  clear hx
  go_enter Tryz.func52, Tryz.ntmps52
  go_wp2
  go_ret
  exact ⟨rfl, rfl⟩
set_option maxRecDepth 100000 in
set_option maxHeartbeats 400000 in
theorem Size_yes (w : World) (n : Int) (h : pow2 n = true) : Calls Tryz.prog 20 #[.int .i64 n] w fun e w' => e = .returned (.int .i64 (8 + 26 * n)) ∧ w' = w := by
  have hb := pow2_bd h
  have ha : bits .and .i64 n (n - 1) = 0 := by
    have := pow2_and ⟨(n - 1).toNat, by omega⟩
    rw [show (((n - 1).toNat : Nat) : Int) + 1 = n by omega, h] at this
    simpa using this
  have e1 : IntKind.i64.wrap (n - 1) = n - 1 := IntWalk.i64_in _ (by omega)
  have e2 : IntKind.i64.wrap (n * 16) = n * 16 := IntWalk.i64_in _ (by omega)
  have e3 : IntKind.i64.wrap (n * 16 + (4 + n * 2)) = n * 16 + (4 + n * 2) := IntWalk.i64_in _ (by omega)
  have e4 : IntKind.i64.wrap (n * 16 + (4 + n * 2) + (4 + n * 8)) = 8 + 26 * n := by rw [IntWalk.i64_in _ (by omega)]; omega
  clear h
  go_enter Tryz.func20, Tryz.ntmps20
  go_wp2_with fail
  refine (ringSize_any _ n 2 (n * 2) rfl (by omega)).mono ?_
  rintro e w' ⟨rfl, rfl⟩
  go_wp2_with fail
  refine (ringSize_any _ n 8 (n * 8) rfl (by omega)).mono ?_
  rintro e w' ⟨rfl, rfl⟩
  go_wp2
  go_ret
  exact ⟨rfl, rfl⟩
set_option maxRecDepth 100000 in
set_option maxHeartbeats 400000 in
theorem Size_no (w : World) (n : Int) (h : pow2 n = false) : Calls Tryz.prog 20 #[.int .i64 n] w fun e w' => e = .returned (.int .i64 0) ∧ w' = w := by
  by_cases h1 : n < 1
  · clear h
    go_enter Tryz.func20, Tryz.ntmps20
    go_wp2
    go_ret
    exact ⟨rfl, rfl⟩
  · by_cases h2 : n > 256
    · clear h
      go_enter Tryz.func20, Tryz.ntmps20
      go_wp2
      go_ret
      exact ⟨rfl, rfl⟩
    · have ha : ¬ bits .and .i64 n (n - 1) = 0 := by
        have := pow2_and ⟨(n - 1).toNat, by omega⟩
        rw [show (((n - 1).toNat : Nat) : Int) + 1 = n by omega, h] at this
        simpa using this
      have e1 : IntKind.i64.wrap (n - 1) = n - 1 := IntWalk.i64_in _ (by omega)
      clear h
      go_enter Tryz.func20, Tryz.ntmps20
      go_wp2
      go_ret
      exact ⟨rfl, rfl⟩

/-! ### share -/
set_option maxRecDepth 100000 in
theorem cutM_run (g off len cap hi : Nat) (h : 0 < hi) (hh : hi ≤ cap) (W : World) : (Instr.slice 25 (.slice (some ⟨g, off, none⟩) len cap) none (some (.int .i64 hi)) (some (.int .i64 hi))).run Tryz.prog W = .ok (.slice (some ⟨g, off, none⟩) hi hi) W := by
  have hz : (sizeOf 5).run Tryz.prog W = .ok 1 W := by kernel_rfl
  rw [run_slice_hm (P := Tryz.prog) W 25 (some ⟨g, off, none⟩) len cap Tryz.underlying25 .i64 .i64 hi hi (by omega) (by omega) (by omega)]
  have e : Tryz.prog.elem 25 = 5 := by kernel_rfl
  rw [e, hz]
  have h2 : ¬ (hi = 0) := by omega
  simp [sliced, Addr.add, h2]
/-- What stands behind lo. -/
def behind (g off len cap lo : Nat) : Value := .slice (some ⟨g, if cap = lo then off else off + lo, none⟩) (len - lo) (cap - lo)
set_option maxRecDepth 100000 in
theorem cutL_run (g off len cap lo : Nat) (h : lo ≤ len) (W : World) : (Instr.slice 25 (.slice (some ⟨g, off, none⟩) len cap) (some (.int .i64 lo)) none none).run Tryz.prog W = .ok (behind g off len cap lo) W := by
  have hz : (sizeOf 5).run Tryz.prog W = .ok 1 W := by kernel_rfl
  rw [run_slice_l (P := Tryz.prog) W 25 (some ⟨g, off, none⟩) len cap Tryz.underlying25 .i64 lo (by omega) (by omega)]
  have e : Tryz.prog.elem 25 = 5 := by kernel_rfl
  rw [e, hz]
  unfold behind
  by_cases h2 : cap = lo
  · simp [sliced, h2]
  · simp [sliced, Addr.add, h2]
theorem behind_more (g off len cap lo : Nat) (h : lo < cap) : behind g off len cap lo = .slice (some ⟨g, off + lo, none⟩) (len - lo) (cap - lo) := by
  unfold behind
  rw [if_neg (by omega)]

set_option maxRecDepth 100000 in
set_option maxHeartbeats 400000 in
theorem cut_any (w : World) (g off len cap : Nat) (x : Int) (lo : Nat) (hx : x = lo) (h0 : 0 < lo) (h : lo ≤ len) (hc : len ≤ cap) :
    Calls Tryz.prog 91 #[.slice (some ⟨g, off, none⟩) len cap, .int .i64 x] w fun e w' => e = .returned (.tuple #[.slice (some ⟨g, off, none⟩) lo lo, behind g off len cap lo]) ∧ ∃ q, w' = w.drewN q := by
  subst hx
  have h1 := cutM_run g off len cap lo h0 (by omega)
  have h2 := cutL_run g off len cap lo h
  generalize behind g off len cap lo = v at *
  go_enter Tryz.func91, Tryz.ntmps91
  go_wp2
  go_quiet (fail)
  go_wp2
  go_ret2
  exact ⟨rfl, _, rfl⟩
end Go.Proofs.YtdjghkngiicncaaGreat

/- share, NewDevice: a queue in memory. -/
namespace Go.Proofs.YtdjghkngiicncaaGreat
open Go.RowKit

theorem setc {w : World} {b : Nat} {c : Array Value} {t : TypeId} (h : w.heap[b]? = some (.cells c t (0, 0))) (k : Nat) (v : Value) : (w.setCell ⟨b, k, none⟩ v).heap[b]? = some (.cells (c.setIfInBounds k v) t (0, 0)) := by
  have hl : b < w.heap.size := (Array.getElem?_eq_some_iff.1 h).1
  have h' : w.heap[b] = .cells c t (0, 0) := (Array.getElem?_eq_some_iff.1 h).2
  simp [World.setCell, hl, Array.getElem_modify, h']
theorem results_c2 {fn : Func} {t u : Tmp} {ty : TypeId} (h : fn.results = #[.cell t ty, .tmp u]) (tmps : Array Value) (w : World) (g : Nat) (cs : Array Value) (t' : TypeId) (fs : _) (hp : tmps.getD t undef = .pointer (some ⟨g, 0, none⟩))
    (hg : w.heap[g]? = some (.cells cs t' (0, 0))) (hu : Tryz.prog.underlying ty = some (.struct fs)) (hi : (Tryz.prog.info? ty).map (·.size) = some cs.size) :
    (results fn tmps).run Tryz.prog w = .ok (.tuple #[.agg cs, tmps.getD u undef]) w := by
  have hl := run_loadVar_row (P := Tryz.prog) w g t' ty cs (0, 0) _ hg hu rfl hi
  have hp' : tmps[t]?.getD undef = .pointer (some ⟨g, 0, none⟩) := by simpa using hp
  simp [results, h, hp', asAddr, hl]
theorem size76 : (Tryz.prog.info? 119).map (·.size) = some 8 := by kernel_rfl

set_option maxRecDepth 100000 in
set_option maxHeartbeats 1000000 in
theorem share_ok (w : World) (g len cap base n N po pu Ld Lo Lu : Nat) (hp : pow2 n = true) (hf : base + (8 + 26 * n) ≤ len) (hc : len ≤ cap) (hl : len ≤ 1099511627776) (G : Geo base n N po pu Ld Lo Lu) :
    Calls Tryz.prog 72 #[.slice (some ⟨g, 0, none⟩) len cap, .int .i64 base, .int .i64 n] w fun e w' => e = .returned (.tuple #[.agg (memC g base n po pu Ld Lo Lu).toArray, .int .i64 0]) ∧ Below w.heap.size w w' := by
  obtain ⟨n1, n2, epo, epu, eLd, eLo, eLu, h1, h2⟩ := G
  have E := hid (And.intro epo (And.intro epu (And.intro eLd (And.intro eLo eLu))))
  have HP := hid hp
  have g0 : ((8 : Int) + 26 * n == 0) = false := by rw [beq_eq_false_iff_ne]; omega
  have g1 : decide ((base : Int) < 0) = false := by simp
  have g2 : IntKind.i64.wrap ((len : Int) - (8 + 26 * n)) = (len : Int) - (8 + 26 * n) := IntWalk.i64_in _ (by omega)
  have g3 : decide ((len : Int) - (8 + 26 * n) < base) = false := by simp; omega
  have g4 : IntKind.i64.wrap ((n : Int) * 16) = (n : Int) * 16 := IntWalk.i64_in _ (by omega)
  have hb := cutL_run g 0 len cap base (by omega)
  rw [behind_more g 0 len cap base (by omega), Nat.zero_add] at hb
  clear epo epu eLd eLo eLu hp
  unfold memC
  go_enter Tryz.func72, Tryz.ntmps72
  go_wp2_with fail
  refine (Size_yes _ n HP.out).mono ?_
  rintro e w' ⟨rfl, rfl⟩
  go_wp2_with fail
  refine (cut_any _ g base (len - base) (cap - base) ((n : Int) * 16) (16 * n) (by omega) (by omega) (by omega) (by omega)).mono ?_
  rintro e w' ⟨rfl, q1, rfl⟩
  rw [behind_more g base (len - base) (cap - base) (16 * n) (by omega)]
  go_wp2_with fail
  refine (ringSize_any _ n 2 (n * 2) rfl (by omega)).mono ?_
  rintro e w' ⟨rfl, rfl⟩
  go_wp2_with fail
  refine (cut_any _ g (base + 16 * n) (len - base - 16 * n) (cap - base - 16 * n) (4 + (n : Int) * 2) (4 + 2 * n) (by omega) (by omega) (by omega) (by omega)).mono ?_
  rintro e w' ⟨rfl, q2, rfl⟩
  rw [behind_more g _ _ _ (4 + 2 * n) (by omega)]
  go_wp2_with fail
  refine (ringSize_any _ n 8 (n * 8) rfl (by omega)).mono ?_
  rintro e w' ⟨rfl, rfl⟩
  go_wp2_with fail
  refine (cut_any _ g (base + 16 * n + (4 + 2 * n)) (len - base - 16 * n - (4 + 2 * n)) (cap - base - 16 * n - (4 + 2 * n)) (4 + (n : Int) * 8) (4 + 8 * n) (by omega) (by omega) (by omega) (by omega)).mono ?_
  rintro e w' ⟨rfl, q3, rfl⟩
  generalize behind g _ _ _ _ = bh
  go_wp2
  obtain ⟨e1, e2, e3, e4, e5⟩ := E.out
  have hh := (MapKept.heap_alloc w (.cells #[.int .i64 0, .slice none 0 0, .slice none 0 0, .int .i64 0, .int .i64 0, .slice none 0 0, .int .i64 0, .int .i64 0] 119)).1
  have hw := setc (setc (setc (setc (setc (setc (setc (setc (w := (w.alloc (.cells #[.int .i64 0, .slice none 0 0, .slice none 0 0, .int .i64 0, .int .i64 0, .slice none 0 0, .int .i64 0, .int .i64 0] 119)).drewN (q1 + q2 + q3)) hh 0 (.int .i64 n)) 1 (.slice (some ⟨g, base, none⟩) (16 * n) (16 * n))) 2 (.slice (some ⟨g, base + 16 * n, none⟩) (4 + 2 * n) (4 + 2 * n))) 3 (.int .i64 n)) 4 (.int .i64 2)) 5 (.slice (some ⟨g, base + 16 * n + (4 + 2 * n), none⟩) (4 + 8 * n) (4 + 8 * n))) 6 (.int .i64 n)) 7 (.int .i64 8)
  refine bodyPost_ret (results_c2 rfl _ _ _ _ _ _ rfl hw Tryz.underlying119 size76) rfl ⟨?_, ?_⟩
  · rw [e1, e2, e3, e4, e5, show base + 18 * n + 4 = base + 16 * n + (4 + 2 * n) by omega]
    rfl
  · exact ((((((((below_drewN ((Below.refl _ w).alloc (Nat.le_refl _) _) _).setCell (Nat.le_refl _) _).setCell (Nat.le_refl _) _).setCell (Nat.le_refl _) _).setCell (Nat.le_refl _) _).setCell (Nat.le_refl _) _).setCell (Nat.le_refl _) _).setCell (Nat.le_refl _) _).setCell (Nat.le_refl _) _
end Go.Proofs.YtdjghkngiicncaaGreat
