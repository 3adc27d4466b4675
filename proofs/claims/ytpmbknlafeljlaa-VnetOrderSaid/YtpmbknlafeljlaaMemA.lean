/- Memory as a row of bytes: a number is read from it, and laid into it (number, lay). -/
import Derived.Test.YtpmbknlafeljlaaNumA
namespace Go.Proofs.Ytpmbknlafeljlaa
open Go.RowKit

/-- Nothing but 'al' and new blocks has turned. -/
structure Mods (al : Nat → Prop) (w w' : World) : Prop where
  os : w'.os = w.os
  tape : w'.tape = w.tape
  output : w'.output = w.output
  size : w.heap.size ≤ w'.heap.size
  block : ∀ b, b < w.heap.size → ¬ al b → w'.heap[b]? = w.heap[b]?
theorem Mods.of_below {al : Nat → Prop} {w w' : World} (h : Below w.heap.size w w') : Mods al w w' := ⟨h.os, h.tape, h.output, h.size, fun b hb _ => h.block b hb⟩
theorem Mods.refl (al : Nat → Prop) (w : World) : Mods al w w := .of_below (Below.refl _ _)
theorem Mods.trans {al al' : Nat → Prop} {w w' w'' : World} (h : Mods al w w') (h' : Mods al' w' w'') (ha : ∀ b, al' b → al b ∨ w.heap.size ≤ b) : Mods al w w'' :=
  ⟨h'.os.trans h.os, h'.tape.trans h.tape, h'.output.trans h.output, Nat.le_trans h.size h'.size, fun b hb hn =>
    (h'.block b (Nat.lt_of_lt_of_le hb h.size) (fun h2 => by rcases ha b h2 with h3 | h3; exact hn h3; omega)).trans (h.block b hb hn)⟩
theorem Mods.tr {al : Nat → Prop} {w w' w'' : World} (h : Mods al w w') (h' : Mods al w' w'') : Mods al w w'' := h.trans h' (fun _ hb => .inl hb)
theorem Mods.weak {al al' : Nat → Prop} {w w' : World} (h : Mods al w w') (ha : ∀ b, al b → al' b ∨ w.heap.size ≤ b) : Mods al' w w' :=
  ⟨h.os, h.tape, h.output, h.size, fun b hb hn => h.block b hb (fun h2 => by rcases ha b h2 with h3 | h3; exact hn h3; omega)⟩
theorem Mods.to_below {al : Nat → Prop} {B : Nat} {w0 w w' : World} (h : Mods al w w') (h0 : Below B w0 w) (hB : B ≤ w.heap.size) (ha : ∀ b, al b → B ≤ b) : Below B w0 w' :=
  ⟨h.os.trans h0.os, h.tape.trans h0.tape, h.output.trans h0.output, Nat.le_trans h0.size h.size, fun b hb => (h.block b (by omega) (fun h2 => by have := ha b h2; omega)).trans (h0.block b hb)⟩
theorem Mods.below {al : Nat → Prop} {w w' w'' : World} (h : Mods al w w') (h' : Below w'.heap.size w' w'') : Mods al w w'' := h.trans (al' := fun _ => False) (.of_below h') (fun _ hb => hb.elim)
theorem Mods.drew {al : Nat → Prop} {w w' : World} (h : Mods al w w') : Mods al w w'.drew := h.below ((Below.refl _ _).drew)
theorem Mods.alloc {al : Nat → Prop} {w w' : World} (h : Mods al w w') (o : Obj) : Mods al w (w'.alloc o) := h.below ((Below.refl _ _).alloc (Nat.le_refl _) _)

/-- Block g is memory of N bytes, byte i is f i. -/
def Mem (w : World) (g N : Nat) (f : Nat → Int) : Prop := (∃ c : Array Value, w.heap[g]? = some (.cells c 5 (0, 0)) ∧ N ≤ c.size ∧ ∀ i, i < N → c[i]? = some (.int .u8 (f i))) ∧ ∀ i, i < N → IsB (f i)
theorem Mem.of_row {w : World} {g N : Nat} {f : Nat → Int} (h : w.rowIs g 5 N (fun i => .int .u8 (f i))) (hB : ∀ i, i < N → IsB (f i)) : Mem w g N f := let ⟨c, h1, h2, h3⟩ := h; ⟨⟨c, h1, Nat.le_of_eq h2.symm, h3⟩, hB⟩
theorem Mem.cell {w : World} {g N : Nat} {f : Nat → Int} (h : Mem w g N f) {i : Nat} (hi : i < N) : w.cell? ⟨g, i, none⟩ = some (.int .u8 (f i)) := by
  obtain ⟨⟨c, h1, _, h3⟩, _⟩ := h
  unfold World.cell?
  simp [h1, h3 i hi]
theorem Mem.frozen {w : World} {g N : Nat} {f : Nat → Int} (h : Mem w g N f) (i : Nat) : w.frozen? ⟨g, i, none⟩ = false := by
  obtain ⟨⟨c, h1, _, _⟩, _⟩ := h
  simp [World.frozen?, h1]
theorem Mem.keep {w w' : World} {g N : Nat} {f : Nat → Int} (h : Mem w g N f) (hb : w'.heap[g]? = w.heap[g]?) : Mem w' g N f := let ⟨⟨c, h1, h2⟩, h3⟩ := h; ⟨⟨c, hb.trans h1, h2⟩, h3⟩
theorem Mem.lt {w : World} {g N : Nat} {f : Nat → Int} (h : Mem w g N f) : g < w.heap.size := let ⟨⟨_, h1, _⟩, _⟩ := h; (Array.getElem?_eq_some_iff.1 h1).1
theorem Mem.below {w w' : World} {g N : Nat} {f : Nat → Int} (h : Mem w g N f) (hb : Below w.heap.size w w') : Mem w' g N f := h.keep (hb.block g h.lt)
theorem Mem.mods {w w' : World} {g N : Nat} {f : Nat → Int} {al : Nat → Prop} (h : Mem w g N f) (hb : Mods al w w') (hn : ¬ al g) : Mem w' g N f := h.keep (hb.block g h.lt hn)
theorem Mem.congr {w : World} {g N : Nat} {f f' : Nat → Int} (h : Mem w g N f) (he : ∀ i, i < N → f i = f' i) : Mem w g N f' := by
  obtain ⟨⟨c, h1, h2, h3⟩, h4⟩ := h
  exact ⟨⟨c, h1, h2, fun i hi => by rw [h3 i hi, he i hi]⟩, fun i hi => by rw [← he i hi]; exact h4 i hi⟩

def at_ (f : Nat → Int) (a n : Nat) : List Int := (List.range n).map fun i => f (a + i)
theorem at_len (f : Nat → Int) (a n : Nat) : (at_ f a n).length = n := by simp [at_]
theorem at_get (f : Nat → Int) (a n i : Nat) (h : i < n) : (at_ f a n).getD i 0 = f (a + i) := by simp [at_, List.getD, h]
/-- A number of n bytes at a. -/
def rd (f : Nat → Int) (a n : Nat) : Int := leOf (at_ f a n)
/-- v laid at a, in n bytes. -/
def wr (f : Nat → Int) (a n : Nat) (v : Int) : Nat → Int := fun i => if a ≤ i ∧ i < a + n then v / 256 ^ (i - a) % 256 else f i
theorem at_cut (f : Nat → Int) (o len a n : Nat) (h : a + n ≤ len) : ((at_ f o len).drop a).take n = at_ f (o + a) n := by
  apply List.ext_getElem
  · simp [at_]; omega
  · intro i h1 h2
    simp [at_, Nat.add_assoc]
theorem at_cut0 (f : Nat → Int) (o len n : Nat) (h : n ≤ len) : (at_ f o len).take n = at_ f o n := by
  have := at_cut f o len 0 n (by omega)
  simpa using this
theorem rd_congr {f f' : Nat → Int} {a n : Nat} (h : ∀ i, i < n → f (a + i) = f' (a + i)) : rd f a n = rd f' a n := by
  unfold rd at_
  congr 1
  apply List.map_congr_left
  intro i hi
  exact h i (by simpa using hi)
theorem rd_wr_other (f : Nat → Int) (a n b m : Nat) (v : Int) (h : b + m ≤ a ∨ a + n ≤ b) : rd (wr f a n v) b m = rd f b m := by
  refine rd_congr fun i hi => ?_
  unfold wr
  rw [if_neg (by omega)]
theorem leOf_bytes (n : Nat) (v : Int) : leOf (bytesLe n v) = v % 256 ^ n := by
  induction n with
  | zero => simp [bytesLe, leOf, Int.emod_one]
  | succ n ih =>
    have e : bytesLe (n + 1) v = bytesLe n v ++ [v / 256 ^ n % 256] := by simp [bytesLe, List.range_succ]
    rw [e, leOf_append, ih, len_le, Int.pow_succ, Int.emod_def v (256 ^ n * 256), Int.emod_def v (256 ^ n), Int.emod_def (v / 256 ^ n) 256, ← Int.ediv_ediv_of_nonneg (Int.pow_nonneg (by decide)), Int.mul_sub, ← Int.mul_assoc]
    generalize 256 ^ n * (v / 256 ^ n) = x
    generalize 256 ^ n * 256 * (v / 256 ^ n / 256) = y
    omega
theorem at_wr_same (f : Nat → Int) (a n : Nat) (v : Int) : at_ (wr f a n v) a n = bytesLe n v := by
  unfold at_ bytesLe
  apply List.map_congr_left
  intro i hi
  have hi : i < n := by simpa using hi
  unfold wr
  rw [if_pos (by omega), Nat.add_sub_cancel_left]
theorem rd_wr_same (f : Nat → Int) (a n : Nat) (v : Int) (h0 : 0 ≤ v) (h1 : v < 256 ^ n) : rd (wr f a n v) a n = v := by
  unfold rd
  rw [at_wr_same, leOf_bytes, Int.emod_eq_of_lt h0 h1]
theorem leOf_bd (l : List Int) (hl : ∀ x ∈ l, IsB x) : 0 ≤ leOf l ∧ leOf l < 256 ^ l.length := by
  induction l with
  | nil => simp [leOf]
  | cons x l ih =>
    have := ih (fun y hy => hl y (by simp [hy]))
    have hx := hl x (by simp)
    unfold IsB at hx
    simp only [leOf, List.length_cons, Int.pow_succ]
    omega
theorem rd_bd {w : World} {g N : Nat} {f : Nat → Int} (h : Mem w g N f) (a n : Nat) (hn : a + n ≤ N) : 0 ≤ rd f a n ∧ rd f a n < 256 ^ n := by
  have := leOf_bd (at_ f a n) (fun x hx => by
    simp only [at_, List.mem_map, List.mem_range] at hx
    obtain ⟨i, hi, rfl⟩ := hx
    exact h.2 _ (by omega))
  rwa [at_len] at this
theorem wr_isB {f : Nat → Int} {N a n : Nat} {v : Int} (h : ∀ i, i < N → IsB (f i)) : ∀ i, i < N → IsB (wr f a n v i) := by
  intro i hi
  unfold wr
  split
  · unfold IsB; omega
  · exact h i hi

theorem Mem.bytes {w : World} {g N : Nat} {f : Nat → Int} (h : Mem w g N f) (off len : Nat) (hl : off + len ≤ N) : Bytes w (some ⟨g, off, none⟩) (at_ f off len) :=
  Bytes.mk_ (fun x hx => by
    simp only [at_, List.mem_map, List.mem_range] at hx
    obtain ⟨i, hi, rfl⟩ := hx
    exact h.2 _ (by omega)) (fun i hi => by
    rw [at_len] at hi
    rw [at_get f off len i hi]
    exact h.cell (by omega))

def Wid (n : Nat) : Prop := n = 2 ∨ n = 4 ∨ n = 8
theorem Wid.wid {n : Nat} (h : Wid n) : widB n = true := by rcases h with rfl | rfl | rfl <;> rfl

set_option maxHeartbeats 400000 in
theorem number_any (w : World) (g N off len cap a n : Nat) (f : Nat → Int) (h : Mem w g N f) (hl : off + len ≤ N) (hc : len ≤ cap) (hm : len ≤ maxLen) (ha : a + n ≤ len) (hn : Wid n) :
    Calls Try.prog 67 #[.slice (some ⟨g, off, none⟩) len cap, .int .i64 a, .int .i64 n] w fun e w' => e = .returned (.int .u64 (rd f (off + a) n)) ∧ ∃ q, w' = w.drewN q := by
  have hcon := numLe_any (some ⟨g, off, none⟩) cap (at_ f off len) a n w (by rw [at_len]; exact hm) (by rw [at_len]; exact hc) (h.bytes off len hl)
  have hb : 1 ≤ n ∧ n ≤ 8 := by rcases hn with rfl | rfl | rfl <;> omega
  obtain ⟨e1, e2, _⟩ := rd_yes (at_ f off len) a n hn.wid (by rw [at_len]; simp [insB]; omega)
  rw [e1, e2] at hcon
  simp only [cutOf, Int.toNat_natCast] at hcon
  rw [at_cut f off len a n ha, at_len] at hcon
  have HC := hid hcon
  clear hcon e1 e2 h
  unfold rd
  generalize leOf (at_ f (off + a) n) = v at *
  go_enter Try.func67, Try.ntmps67
  go_wp2_with fail
  refine HC.out.mono ?_
  rintro e w' ⟨rfl, q, rfl⟩
  go_wp2
  go_ret
  exact ⟨rfl, q, rfl⟩

theorem new_cell (w : World) (c : Array Value) (t : TypeId) (fr : Nat × Nat) (i : Nat) (h : i < c.size) : (w.alloc (.cells c t fr)).cell? ⟨w.heap.size, i, none⟩ = some c[i] := by
  have := (MapKept.heap_alloc w (.cells c t fr)).1
  unfold World.cell?
  simp only [this]
  exact Array.getElem?_eq_getElem h
theorem pow8 (k : Nat) (h : k ≤ 8) : (256 : Int) ^ k ≤ 18446744073709551616 := by
  rcases (show k = 0 ∨ k = 1 ∨ k = 2 ∨ k = 3 ∨ k = 4 ∨ k = 5 ∨ k = 6 ∨ k = 7 ∨ k = 8 by omega) with rfl | rfl | rfl | rfl | rfl | rfl | rfl | rfl | rfl <;> decide
theorem put_one (w : World) (b off cap2 n : Nat) (v : Int) (hc : w.cell? ⟨b, off, none⟩ = some (.int .u64 v)) (h0 : 0 ≤ v) (h1 : v < 256 ^ n) (hn : Wid n) :
    Calls Try.prog 73 #[.slice none 0 0, .int .i64 n, .slice (some ⟨b, off, none⟩) 1 cap2] w fun e w' => e = .returned (.tuple #[.slice (some ⟨w.heap.size, 0, none⟩) n n, .int .i64 0]) ∧ Below w.heap.size w w' ∧ w'.heap.size = w.heap.size + 1 ∧
      w'.rowIs w.heap.size 5 n (fun i => .int .u8 ((bytesLe n v).getD i 0)) := by
  have hp := pow8 n (by rcases hn with rfl | rfl | rfl <;> omega)
  have := putLe_yes none (some ⟨b, off, none⟩) 0 cap2 n [] [v] w (by simp) (by simp) (Bytes.nil_ w none) (fun i hi => by
    obtain rfl : i = 0 := by simpa using hi
    exact ⟨b, off, rfl, hc, h0, by simp; omega⟩) hn.wid (by rcases hn with rfl | rfl | rfl <;> omega) (by
    simp only [fitsB, List.all_cons, List.all_nil, Bool.and_true, fitB, Int.toNat_natCast, beq_iff_eq]
    exact Int.ediv_eq_zero_of_lt h0 h1)
  simp only [List.length_nil, List.length_cons, Nat.zero_add, Nat.mul_one, outLe, List.nil_append, List.flatMap_cons, List.flatMap_nil, List.append_nil] at this
  exact this

set_option maxRecDepth 100000 in
theorem cut_run (g off len cap lo hi : Nat) (h : lo < hi) (hh : hi ≤ len) (hc : len ≤ cap) (W : World) : (Instr.slice 25 (.slice (some ⟨g, off, none⟩) len cap) (some (.int .i64 lo)) (some (.int .i64 hi)) none).run Try.prog W = .ok (.slice (some ⟨g, off + lo, none⟩) (hi - lo) (cap - lo)) W := by
  have hz : (sizeOf 5).run Try.prog W = .ok 1 W := by kernel_rfl
  rw [run_slice_lh (P := Try.prog) W 25 (some ⟨g, off, none⟩) len cap Try.underlying25 .i64 .i64 lo hi (by omega) (by omega) (by omega)]
  have e : Try.prog.elem 25 = 5 := by kernel_rfl
  rw [e, hz]
  have h2 : ¬ (cap = lo) := by omega
  simp [sliced, Addr.add, h2]

/-- 'copy' of a row of bytes into memory. -/
theorem wpList_copy_mem {w : World} {ops : Array Oper} {rest : List Oper} {o : Oper} {a : Act} {Q : Exit → Act → World → Prop} (hgd : o.guard = none) (d s : Operand)
    (ho : o.op = .call { callee := .builtin .copy, args := #[d, s], argTypes := #[25, 25] })
    (g N p n dCap r sCap : Nat) (f : Nat → Int) (v : Int) (hd : a.eval d = .slice (some ⟨g, p, none⟩) n dCap) (hs : a.eval s = .slice (some ⟨r, 0, none⟩) n sCap)
    (hm : Mem w g N f) (hr : w.rowIs r 5 n (fun i => .int .u8 ((bytesLe n v).getD i 0))) (hp : p + n ≤ N)
    (h : ∀ w', Hid (Mem w' g N (wr f p n v)) → Hid (Mods (fun b => b = g) w w') → wpList Try.prog ops Q rest (a.put o.dst (goInt n)) w') :
    wpList Try.prog ops Q (o :: rest) a w := by
  obtain ⟨⟨cur, hg, hcn, hcur⟩, hB⟩ := hm
  have hlen : ((bytesLe n v).map fun x => Value.int .u8 x).length = n := by rw [List.length_map, len_le]
  refine wpList_copy_own hgd d s 25 25 ho 5 Try.underlying25 size5 g p n dCap ⟨r, 0, none⟩ n sCap hd hs cur 5 hg ((bytesLe n v).map fun x => Value.int .u8 x) (by rw [hlen]; exact (Nat.min_self n).symm) (fun j u hj => ?_) (by rw [hlen]; omega) (fun u hu => by simp only [List.mem_map] at hu; obtain ⟨y, _, rfl⟩ := hu; rfl) ?_
  · have hj2 : j < n := by have := (List.getElem?_eq_some_iff.1 hj).1; rwa [hlen] at this
    have e : (⟨r, 0, none⟩ : Addr).add j = ⟨r, 0 + j, none⟩ := by unfold Addr.add; split <;> simp_all
    rw [e, Nat.zero_add, hr.cell hj2]
    rw [List.getElem?_map] at hj
    simp only [Option.map_eq_some_iff] at hj
    obtain ⟨x, hx, rfl⟩ := hj
    simp [List.getD, hx]
  · rw [hlen]
    refine h _ (hid ⟨⟨_, setRow_heap w g _ _ 5 _ hg, by simp [len_le]; omega, fun i hi => ?_⟩, wr_isB hB⟩) (hid ⟨rfl, rfl, rfl, by simp [World.setRow], fun b _ hb => setRow_other w g b _ hb⟩)
    have h5 := hcur i hi
    simp only [List.getElem?_toArray]
    unfold wr
    by_cases h6 : p ≤ i
    · by_cases h7 : i < p + n
      · rw [if_pos ⟨h6, h7⟩, List.getElem?_append_right (by simp; omega), List.getElem?_append_left (by simp [len_le]; omega)]
        have : min p cur.size = p := by omega
        simp only [List.length_take, Array.length_toList, this, List.getElem?_map]
        rw [show (bytesLe n v)[i - p]? = some ((bytesLe n v).getD (i - p) 0) by simp [List.getD, len_le, show i - p < n by omega], getD_le n v (i - p) (by omega)]
        rfl
      · rw [if_neg (by omega), List.getElem?_append_right (by simp; omega), List.getElem?_append_right (by simp [len_le]; omega)]
        have e1 : min p cur.size = p := by omega
        have e2 : p + n + (i - p - n) = i := by omega
        simp [e1, len_le, e2, h5]
    · rw [if_neg (by omega), List.getElem?_append_left (by simp; omega), List.getElem?_take]
      simp [show i < p by omega, h5]

theorem pow_i {n : Nat} (hn : Wid n) : (256 : Int) ^ n ≤ 18446744073709551616 := pow8 n (by rcases hn with rfl | rfl | rfl <;> omega)

set_option maxRecDepth 100000 in
set_option maxHeartbeats 400000 in
theorem lay_any (w : World) (g N off len cap p n : Nat) (f : Nat → Int) (v : Int) (h : Mem w g N f) (hl : off + len ≤ N) (hc : len ≤ cap) (hm : len ≤ 1099511627776) (ha : p + n ≤ len) (hn : Wid n) (h0 : 0 ≤ v) (h1 : v < 256 ^ n) (h2 : v < 9223372036854775808) :
    Calls Try.prog 63 #[.slice (some ⟨g, off, none⟩) len cap, .int .i64 p, .int .i64 n, .int .i64 v] w fun e w' => e = .returned (.tuple #[]) ∧ Mem w' g N (wr f (off + p) n v) ∧ Mods (fun b => b = g) w w' := by
  have hb : 2 ≤ n ∧ n ≤ 8 := by rcases hn with rfl | rfl | rfl <;> omega
  have hw0 : IntKind.u64.wrap v = v := by rw [IntKind.wrap_u64]; omega
  have hw1 : IntKind.i64.wrap ((p : Int) + n) = (p : Int) + n := IntWalk.i64_in _ (by omega)
  have hcut := cut_run g off len cap p (p + n) (by omega) ha hc
  rw [show ((p + n : Nat) : Int) = (p : Int) + n by omega, Nat.add_sub_cancel_left] at hcut
  have hcon := put_one (w.alloc (.cells #[.int .u64 v] 111)) w.heap.size 0 1 n v (new_cell w _ _ _ 0 (by simp)) h0 h1 hn
  have HC := hid hcon
  have HM := hid h
  have HN := hid hn
  have H1 := hid h1
  clear hcon h hn h1
  go_enter Try.func63, Try.ntmps63
  go_wp2_with fail
  refine HC.out.mono ?_
  rintro e w1 ⟨rfl, hb1, hs1, hr1⟩
  have HB1 := hid hb1
  rw [show (w.alloc (.cells #[.int .u64 v] 111)).heap.size = w.heap.size + 1 by simp] at hr1
  have HR1 := hid hr1
  clear hb1 hs1 hr1
  have hm1 : Mods (fun b => b = g) w w1 := ((Mods.refl _ w).alloc _).below HB1.out
  have HMO := hid hm1
  have HM1 := hid (Mem.below (w := w.alloc (.cells #[.int .u64 v] 111)) (HM.out.below ((Below.refl _ _).alloc (Nat.le_refl _) _)) HB1.out)
  clear hm1 HC
  go_wp2_with (show wpList _ _ _ ({ dst := _, op := .call { callee := .builtin .copy, args := #[.tmp 23, .tmp 24], argTypes := #[25, 25] }, type := _, pos := _, after := _, guard := none } :: _) _ _; refine wpList_copy_mem rfl (.tmp 23) (.tmp 24) rfl g N (off + p) n _ _ _ f v rfl rfl HM1.out HR1.out (by omega) ?_; intro w2 hm2 hmo2)
  go_end0
  exact ⟨rfl, hm2.out, HMO.out.tr hmo2.out⟩
end Go.Proofs.Ytpmbknlafeljlaa
