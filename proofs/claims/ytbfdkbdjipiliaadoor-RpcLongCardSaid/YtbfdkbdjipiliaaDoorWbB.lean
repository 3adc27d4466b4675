/- WbA, WbB in one text. -/
import Derived.Test.YtbfdkbdjipiliaaDoorWaC
import Derived.Lib.SlBytesConst
import Derived.Deep.RegionLaw
import Derived.Test.YtbfdkbdjipiliaaDoorPaB
/- Bytes, blocks and rows of blocks in memory; what a group is as bytes. -/
namespace Go.Proofs.YtbfdkbdjipiliaaDoor
open Go.RowKit Go.Maps
set_option linter.unusedVariables false

/-! ### bytes -/
/-- Bytes l at a, in a block of S. -/
def By (w : World) (S : Nat → Prop) (a : Option Addr) (l : List Int) : Prop :=
  (∀ x ∈ l, IsB x) ∧ (0 < l.length → ∃ b off cur fr, a = some ⟨b, off, none⟩ ∧ S b ∧ w.heap[b]? = some (.cells cur 5 fr) ∧ ∀ i, i < l.length → cur[off + i]? = some (.int .u8 (l.getD i 0)))
section
variable {w w' : World} {S S' : Nat → Prop} {a : Option Addr} {l : List Int}
theorem By.isB (h : By w S a l) : ∀ x ∈ l, IsB x := h.1
theorem By.bytes (h : By w S a l) : Bytes w a l := fun i hi => by
  obtain ⟨b, off, cur, fr, ha, _, hh, hc⟩ := h.2 (by omega)
  exact ⟨b, off, ha, by simp [World.cell?, hh, hc i hi], mem_getD l IsB h.1 i hi⟩
theorem By.keep (h : By w S a l) (hk : ∀ b, S b → b < w.heap.size → w'.heap[b]? = w.heap[b]?) : By w' S a l :=
  ⟨h.1, fun hp => by
    obtain ⟨b, off, cur, fr, ha, hs, hh, hc⟩ := h.2 hp
    exact ⟨b, off, cur, fr, ha, hs, (hk b hs (Array.getElem?_eq_some_iff.1 hh).1).trans hh, hc⟩⟩
theorem By.later (h : By w S a l) (hb : Below w.heap.size w w') : By w' S a l := h.keep fun b _ hl => hb.block b hl
theorem By.weak (h : By w S a l) (hk : ∀ b, S b → b < w.heap.size → S' b) : By w S' a l :=
  ⟨h.1, fun hp => by
    obtain ⟨b, off, cur, fr, ha, hs, hh, hc⟩ := h.2 hp
    exact ⟨b, off, cur, fr, ha, hk b hs (Array.getElem?_eq_some_iff.1 hh).1, hh, hc⟩⟩
theorem By.nil (w : World) (S : Nat → Prop) (a : Option Addr) : By w S a [] := ⟨fun x hx => by simp at hx, fun h => by simp at h⟩
theorem By.addr (h : By w S a l) (hp : 0 < l.length) : ∃ b off, a = some ⟨b, off, none⟩ ∧ S b ∧ b < w.heap.size := by
  obtain ⟨b, off, cur, fr, ha, hs, hh, hc⟩ := h.2 hp
  exact ⟨b, off, ha, hs, (Array.getElem?_eq_some_iff.1 hh).1⟩
theorem By.of_row {g N : Nat} (h : w.rowIs g 5 N (fun i => .int .u8 (l.getD i 0))) (hS : S g) (hl : ∀ x ∈ l, IsB x) (hN : l.length ≤ N) : By w S (some ⟨g, 0, none⟩) l := by
  obtain ⟨c, hh, hs, hc⟩ := h
  exact ⟨hl, fun _ => ⟨g, 0, c, _, rfl, hS, hh, fun i hi => by rw [Nat.zero_add]; exact hc i (by omega)⟩⟩
theorem By.of_owns {base n : Nat} {v : Value} (h : w.ownsRow base 5 1 v n (u8s l)) (hl : ∀ x ∈ l, IsB x) (hS : ∀ g, v.ownBlock = some g → S g) : ∃ a c, v = .slice a n c ∧ n ≤ c ∧ l.length = n ∧ By w S a l := by
  have h1 := h.1
  simp at h1
  rcases h.2 with ⟨rfl, h0⟩ | ⟨g, cap, cur, rfl, _, hh, hc1, hc2, hcs, ht⟩
  · refine ⟨none, 0, by rw [h0], by omega, h1, ?_⟩
    obtain rfl : l = [] := List.eq_nil_of_length_eq_zero (by omega)
    exact By.nil _ _ _
  · refine ⟨_, cap, rfl, hc1, h1, hl, fun _ => ⟨g, 0, cur, _, rfl, hS g rfl, hh, fun i hi => ?_⟩⟩
    have e : (cur.toList.take (n * 1))[i]? = (u8s l)[i]? := by rw [ht]
    rw [List.getElem?_take, if_pos (by omega), Array.getElem?_toList, u8s_get hi] at e
    rw [Nat.zero_add]
    exact e
theorem By.cut {b off : Nat} (h : By w S (some ⟨b, off, none⟩) l) (k n : Nat) : By w S (some ⟨b, off + k, none⟩) ((l.drop k).take n) :=
  ⟨fun x hx => h.1 x (List.mem_of_mem_drop (List.mem_of_mem_take hx)), fun hp => by
    have hp2 : 0 < l.length := by simp at hp; omega
    obtain ⟨b', off', cur, fr, ha, hs, hh, hc⟩ := h.2 hp2
    simp only [Option.some.injEq, Addr.mk.injEq, and_true] at ha
    obtain ⟨rfl, rfl⟩ := ha
    refine ⟨b, off + k, cur, fr, rfl, hs, hh, fun i hi => ?_⟩
    simp at hi
    rw [getD_cut l k n i (by omega), Nat.add_assoc]
    exact hc (k + i) (by omega)⟩
theorem By.take (h : By w S a l) (n : Nat) : By w S a (l.take n) :=
  ⟨fun x hx => h.1 x (List.mem_of_mem_take hx), fun hp => by
    have hp2 : 0 < l.length := by simp at hp; omega
    obtain ⟨b', off', cur, fr, ha, hs, hh, hc⟩ := h.2 hp2
    refine ⟨b', off', cur, fr, ha, hs, hh, fun i hi => ?_⟩
    simp at hi
    rw [hc i (by omega)]
    have h1 : i < n := by omega
    have h2 : i < l.length := by omega
    simp [List.getD, h1, h2]⟩
end
theorem bytesLe_isB (n : Nat) (v : Int) : ∀ x ∈ bytesLe n v, IsB x := by
  intro x hx
  simp only [bytesLe, List.mem_map, List.mem_range] at hx
  obtain ⟨i, _, rfl⟩ := hx
  unfold IsB
  omega

/-! ### blocks of a group -/
/-- A block: its place, its bytes. -/
structure Pt where
  blk : Int
  dat : List Int
instance : Inhabited Pt := ⟨⟨0, []⟩⟩
/-- The same, and where its bytes lie. -/
structure Pw where
  blk : Int
  a : Option Addr
  c : Nat
  dat : List Int
instance : Inhabited Pw := ⟨⟨0, none, 0, []⟩⟩
def Pw.pt (p : Pw) : Pt := ⟨p.blk, p.dat⟩
def cellsP (L : List Pw) : List Value := L.flatMap fun p => [.int .i64 p.blk, .slice p.a p.dat.length p.c]
theorem cellsP_len (L : List Pw) : (cellsP L).length = L.length * 2 := by
  induction L with
  | nil => rfl
  | cons x l ih => simp only [cellsP, List.flatMap_cons, List.length_append] at *; rw [ih]; simp; omega
theorem cellsP_app (L M : List Pw) : cellsP (L ++ M) = cellsP L ++ cellsP M := by simp [cellsP]
theorem cellsP_get (L : List Pw) (i : Nat) (hi : i < L.length) : (cellsP L)[i * 2]? = some (.int .i64 (L.getD i default).blk) ∧ (cellsP L)[i * 2 + 1]? = some (.slice (L.getD i default).a (L.getD i default).dat.length (L.getD i default).c) := by
  induction L generalizing i with
  | nil => simp at hi
  | cons x l ih =>
    have step : ∀ j, (cellsP (x :: l))[j + 2]? = (cellsP l)[j]? := fun j => by
      show ([Value.int .i64 x.blk, .slice x.a x.dat.length x.c] ++ cellsP l)[j + 2]? = _
      rw [List.getElem?_append_right (by simp)]
      congr 1
    cases i with
    | zero => simp [cellsP]
    | succ i =>
      have h := ih i (by simpa using hi)
      rw [show (i + 1) * 2 = i * 2 + 2 by omega, show i * 2 + 2 + 1 = i * 2 + 1 + 2 by omega, step, step]
      simpa using h
theorem cellsP_one (L : List Pw) : ∀ u ∈ cellsP L, u.oneCell' = true := by
  intro u hu
  simp only [cellsP, List.mem_flatMap, List.mem_cons, List.not_mem_nil, or_false] at hu
  obtain ⟨p, _, rfl | rfl⟩ := hu <;> rfl
theorem getD_memP {L : List Pw} {i : Nat} (h : i < L.length) : L.getD i default ∈ L := by
  simp [List.getD, h]
theorem map_getD (L : List Pw) (i : Nat) (h : i < L.length) : (L.map Pw.pt).getD i default = (L.getD i default).pt := by
  simp [List.getD, h]

section
variable {w w' : World} {S S' : Nat → Prop} {a : Option Addr} {L : List Pw}
end
section
variable {w w' : World} {S S' : Nat → Prop} {v : Value} {L : List Pw}
end
/-- A row keeps apart from bytes by its kind. -/
theorem By.off {w : World} {S : Nat → Prop} {a : Option Addr} {l : List Int} {g : Nat} {cur : Array Value} {t : TypeId} {fr : Nat × Nat} (h : By w S a l) (hg : w.heap[g]? = some (.cells cur t fr)) (ht : t ≠ 5) : By w (fun b => S b ∧ b ≠ g) a l :=
  ⟨h.1, fun hp => by
    obtain ⟨b, off, cu, f2, ha, hs, hh, hc⟩ := h.2 hp
    refine ⟨b, off, cu, f2, ha, ⟨hs, fun e => ?_⟩, hh, hc⟩
    subst e
    rw [hg] at hh
    simp at hh
    exact ht hh.2.1⟩
def headW : List Int := [71, 82, 78, 72, 69, 65, 68, 49]
def endW : List Int := [71, 82, 78, 84, 65, 73, 76, 49]
def crcL (l : List Int) : Int := 4294967295 - crcOn 4294967295 l
theorem crcL_bd (l : List Int) (h : ∀ x ∈ l, IsB x) : 0 ≤ crcL l ∧ crcL l < 4294967296 := by
  have := crcOn_bd 4294967295 l (by unfold IsU; decide) h
  unfold IsU at this
  unfold crcL
  omega
def pad (l : List Int) (n : Nat) : List Int := l ++ List.replicate (n - l.length) 0
theorem pad_len (l : List Int) (n : Nat) (h : l.length ≤ n) : (pad l n).length = n := by simp [pad]; omega
theorem pad_isB (l : List Int) (n : Nat) (h : ∀ x ∈ l, IsB x) : ∀ x ∈ pad l n, IsB x := by
  intro x hx
  rcases List.mem_append.1 hx with h1 | h1
  · exact h x h1
  · simp at h1; rw [h1.2]; unfold IsB; omega
theorem pad_getD (l : List Int) (n i : Nat) : (pad l n).getD i 0 = l.getD i 0 := by
  unfold pad
  rw [getD_app]
  split
  · rfl
  · rename_i h
    rw [getD_out l i (by omega)]
    simp [List.getD, List.getElem?_replicate]
    split <;> rfl
/-- The head as far as it is put: word, sequence, how many, places. -/
def headB (seq : Int) (n : Nat) (l : List Pt) : List Int := headW ++ bytesLe 8 seq ++ bytesLe 4 n ++ l.flatMap (fun p => bytesLe 4 p.blk)
theorem headB_len (seq : Int) (n : Nat) (l : List Pt) : (headB seq n l).length = 20 + 4 * l.length := by
  unfold headB
  induction l with
  | nil => simp [len_le, headW]
  | cons x l ih =>
    simp only [List.length_append, List.flatMap_cons, len_le, List.length_cons] at *
    omega
theorem headW_isB : ∀ x ∈ headW, IsB x := by intro x hx; simp [headW] at hx; unfold IsB; omega
theorem endW_isB : ∀ x ∈ endW, IsB x := by intro x hx; simp [endW] at hx; unfold IsB; omega
theorem headB_isB (seq : Int) (n : Nat) (l : List Pt) : ∀ x ∈ headB seq n l, IsB x := by
  intro x hx
  unfold headB at hx
  simp only [List.mem_append, List.mem_flatMap] at hx
  rcases hx with ((h | h) | h) | ⟨p, _, h⟩
  · exact headW_isB x h
  · exact bytesLe_isB _ _ x h
  · exact bytesLe_isB _ _ x h
  · exact bytesLe_isB _ _ x h
def headP (seq : Int) (l : List Pt) : List Int := pad (headB seq l.length l) 508
def headL (seq : Int) (l : List Pt) : List Int := headP seq l ++ bytesLe 4 (crcL (headP seq l))
theorem headP_len (seq : Int) (l : List Pt) (h : l.length ≤ 64) : (headP seq l).length = 508 := pad_len _ _ (by rw [headB_len]; omega)
theorem headL_len (seq : Int) (l : List Pt) (h : l.length ≤ 64) : (headL seq l).length = 512 := by unfold headL; rw [List.length_append, headP_len seq l h, len_le]
theorem headP_isB (seq : Int) (l : List Pt) : ∀ x ∈ headP seq l, IsB x := pad_isB _ _ (headB_isB _ _ _)
theorem headL_isB (seq : Int) (l : List Pt) : ∀ x ∈ headL seq l, IsB x := by
  intro x hx
  rcases List.mem_append.1 hx with h | h
  · exact headP_isB _ _ x h
  · exact bytesLe_isB _ _ x h
def endB (seq sum : Int) : List Int := endW ++ bytesLe 8 seq ++ bytesLe 4 sum
def endL (seq sum : Int) : List Int := pad (endB seq sum) 512
theorem endB_len (seq sum : Int) : (endB seq sum).length = 20 := by simp [endB, endW, len_le]
theorem endL_len (seq sum : Int) : (endL seq sum).length = 512 := pad_len _ _ (by rw [endB_len]; omega)
theorem endB_isB (seq sum : Int) : ∀ x ∈ endB seq sum, IsB x := by
  intro x hx
  simp only [endB, List.mem_append] at hx
  rcases hx with (h | h) | h
  · exact endW_isB x h
  · exact bytesLe_isB _ _ x h
  · exact bytesLe_isB _ _ x h
theorem endL_isB (seq sum : Int) : ∀ x ∈ endL seq sum, IsB x := pad_isB _ _ (endB_isB _ _)
def datL (l : List Pt) : List Int := (l.map Pt.dat).flatten
/-- Why a block, a group cannot be. -/
def badOf (blk : Int) (n : Nat) : Int := if blk < 0 ∨ 4294967295 < blk then 1 else if n ≠ 512 then 14 else 0
def badAt (l : List Pt) (i : Nat) : Int := if badOf (l.getD i default).blk (l.getD i default).dat.length ≠ 0 then badOf (l.getD i default).blk (l.getD i default).dat.length else if (l.getD i default).blk ∈ (l.take i).map Pt.blk then 8 else 0
def badFrom (l : List Pt) : Nat → Nat → Int
  | _, 0 => 0
  | i, k + 1 => if badAt l i ≠ 0 then badAt l i else badFrom l (i + 1) k
def badG (l : List Pt) : Int := if l.length = 0 then 2 else if 64 < l.length then 4 else badFrom l 0 l.length
/-- What is recorded. -/
def rowsFrom : Nat → List Pt → List Pt
  | _, [] => []
  | i, p :: l => ⟨i, p.dat⟩ :: rowsFrom (i + 1) l
def recL (seq : Int) (l : List Pt) : List Pt := ⟨0, headL seq l⟩ :: rowsFrom 1 l
def sumL (seq : Int) (l : List Pt) : Int := crcL (headL seq l ++ datL l)
def endOf (seq : Int) (l : List Pt) : Pt := ⟨(l.length : Int) + 1, endL seq (sumL seq l)⟩
theorem rowsFrom_snoc (i : Nat) (l : List Pt) (p : Pt) : rowsFrom i (l ++ [p]) = rowsFrom i l ++ [⟨((i + l.length : Nat) : Int), p.dat⟩] := by
  induction l generalizing i with
  | nil => simp [rowsFrom]
  | cons x l ih => simp [rowsFrom, ih]; omega
theorem rowsFrom_len (i : Nat) (l : List Pt) : (rowsFrom i l).length = l.length := by
  induction l generalizing i with
  | nil => rfl
  | cons x l ih => simp [rowsFrom, ih]
end Go.Proofs.YtbfdkbdjipiliaaDoor

/- Small functions: Clone, Contains, refusalOf, refusal, filledUp. -/
namespace Go.Proofs.YtbfdkbdjipiliaaDoor
open Go.RowKit Go.Maps
set_option linter.unusedVariables false

theorem bcell {W w1 : World} (hb : Below W.heap.size W w1) : (∀ b o, b < W.heap.size → w1.cell? ⟨b, o, none⟩ = W.cell? ⟨b, o, none⟩) ∧ (∀ b o, b < W.heap.size → w1.frozen? ⟨b, o, none⟩ = W.frozen? ⟨b, o, none⟩) :=
  ⟨fun b o h => hb.cell (p := ⟨b, o, none⟩) h, fun b o h => hb.frozen (p := ⟨b, o, none⟩) h⟩
theorem info5b : ∃ i, Tryd.prog.info? 5 = some i ∧ i.zero = some (.int .u8 0) ∧ i.size = 1 ∧ i.bytes = 1 := by
  have := info5
  cases h : Tryd.prog.info? 5 with
  | none => rw [h] at this; cases this
  | some i => rw [h] at this; simp at this; exact ⟨i, rfl, this.1, this.2.1, this.2.2⟩
theorem info3b : ∃ i, Tryd.prog.info? 3 = some i ∧ i.zero = some (.int .i64 0) ∧ i.size = 1 ∧ i.bytes = 8 := by
  have : (Tryd.prog.info? 3).map (fun i => (i.zero, i.size, i.bytes)) = some (some (.int .i64 0), 1, 8) := by kernel_rfl
  cases h : Tryd.prog.info? 3 with
  | none => rw [h] at this; cases this
  | some i => rw [h] at this; simp at this; exact ⟨i, rfl, this.1, this.2.1, this.2.2⟩
theorem u8s_one (l : List Int) : ∀ u ∈ u8s l, u.oneCell' = true := by
  intro u hu
  obtain ⟨e, _, rfl⟩ := List.mem_map.1 hu
  rfl
/-- What is new. -/
def New (w : World) : Nat → Prop := fun b => w.heap.size ≤ b
theorem New.mono {w w' : World} (h : w.heap.size ≤ w'.heap.size) : ∀ b, New w' b → New w b := fun b hb => Nat.le_trans h hb
def idx (l : List Int) (x : Int) : Int := if x ∈ l then (l.idxOf x : Nat) else -1
theorem take_snocI {l : List Int} {k : Nat} (h : k < l.length) {x : Int} (h1 : x ∉ l.take k) (h2 : l.getD k 0 ≠ x) : x ∉ l.take (k + 1) := by
  rw [take_snoc l k h]
  simp only [List.mem_append, List.mem_singleton, not_or]
  exact ⟨h1, fun e => h2 e.symm⟩
theorem idx_at {l : List Int} {x : Int} {k : Nat} (h : k < l.length) (h1 : x ∉ l.take k) (h2 : l.getD k 0 = x) : idx l x = k := by
  have hm : x ∈ l := by
    rw [← h2]
    simp [List.getD, h]
  unfold idx
  rw [if_pos hm]
  have e : l = l.take k ++ (x :: l.drop (k + 1)) := by
    conv => lhs; rw [← List.take_append_drop k l]
    rw [List.drop_eq_getElem_cons h]
    congr 2
    simpa [List.getD, h] using h2
  rw [e, List.idxOf_append, if_neg h1]
  simp
  omega
theorem idx_none {l : List Int} {x : Int} (h : x ∉ l) : idx l x = -1 := by unfold idx; rw [if_neg h]
theorem idx_nonneg (l : List Int) (x : Int) : decide (0 ≤ idx l x) = decide (x ∈ l) := by
  unfold idx
  split
  · rename_i h; simp [h]
  · rename_i h; simp [h]
/-- A number is put behind a row of a call's own. -/
theorem push_own (w : World) (B : Nat) (v : Value) (l : List Int) (h : w.ownsRow B 3 1 v l.length (ints l)) (hB : B ≤ w.heap.size) (x : Int) (hl : l.length ≤ 1000000) :
    ∃ a n c w', (Builtin.append_ #[36, 36] 36 #[v, .slice (some ⟨w.heap.size, 0, none⟩) 1 1]).run Tryd.prog (w.alloc (.cells #[.int .i64 x] 3)) = .ok (.slice a n c) w' ∧ n = l.length + 1 ∧ w'.ownsRow B 3 1 (.slice a n c) (l ++ [x]).length (ints (l ++ [x])) ∧ Mods (fun b => v.ownBlock = some b) w w' := by
  have hb1 : Below w.heap.size w (w.alloc (.cells #[.int .i64 x] 3)) := (Below.refl _ _).alloc (Nat.le_refl _) _
  have hs1 : (w.alloc (.cells #[.int .i64 x] 3)).heap.size = w.heap.size + 1 := by simp
  have hr1 : (w.alloc (.cells #[.int .i64 x] 3)).ownsRow 0 3 1 v l.length (ints l) := owns_zero (owns_keep h (fun g hg => hb1.block g (owns_lt h hg).1))
  obtain ⟨v', w', hap, ho, hm, hob⟩ := app_gen (w.alloc (.cells #[.int .i64 x] 3)) 36 36 3 _ 8 Tryd.underlying36 info3b rfl (by omega) v (ints l) l.length (by simp) hr1 ⟨w.heap.size, 0, none⟩ 1 1 [.int .i64 x] rfl (fun j u hj => by
    have hj2 : j < 1 := (List.getElem?_eq_some_iff.1 hj).1
    obtain rfl : j = 0 := by omega
    rw [add_addr, new_cell _ _ _ _ 0 (by simp)]
    simpa using hj) (by simp [Value.oneCell']) (by omega)
  obtain ⟨a, c, rfl⟩ := owns_slice ho
  refine ⟨a, l.length + 1, c, w', hap, rfl, ?_, (Mods.of_below hb1).tr hm⟩
  have h2 := owns_base (base' := B) ho (fun g hg => by
    rcases hob with e | e
    · rw [e] at hg; exact (owns_lt h hg).2
    · rw [e] at hg; simp at hg; omega)
  simpa [ints] using h2

/-! ### refusalOf, refusal -/
theorem badFrom_hit {l : List Pt} {i k : Nat} (h : badAt l i ≠ 0) : badFrom l i (k + 1) = badAt l i := by rw [badFrom, if_pos h]
theorem badFrom_miss {l : List Pt} {i k : Nat} (h : badAt l i = 0) : badFrom l i (k + 1) = badFrom l (i + 1) k := by rw [badFrom, if_neg (by simp [h])]
theorem blks_take (L : List Pw) (k : Nat) (h : k < L.length) : ((L.map Pw.pt).take (k + 1)).map Pt.blk = ((L.map Pw.pt).take k).map Pt.blk ++ [(L.getD k default).blk] := by
  rw [List.take_succ_eq_append_getElem (by simpa using h), List.map_append]
  simp [List.getD, h, Pw.pt]
end Go.Proofs.YtbfdkbdjipiliaaDoor
