/- Known, RefF in one text. -/
import Derived.Test.YtdjghkngiicncaaGreatRunA
import Derived.Test.YtdjghkngiicncaaGreatRefD
/- known: the chapter's example comes out as the document says; within: a number from 0 on. -/
namespace Go.Proofs.YtdjghkngiicncaaGreat
open Go.RowKit

theorem cellsB_len (L : List Bf) : (cellsB L).length = L.length * 3 := by
  induction L with
  | nil => rfl
  | cons b L ih => simp only [cellsB, List.flatMap_cons, List.length_append, List.length_cons, List.length_nil] at *; omega
theorem cellsB_get (L : List Bf) (i : Nat) (h : i < L.length) : (cellsB L)[i * 3]? = some (.int .i64 (L.getD i default).addr) ∧ (cellsB L)[i * 3 + 1]? = some (.int .i64 (L.getD i default).len) ∧ (cellsB L)[i * 3 + 2]? = some (.bool (L.getD i default).wt) := by
  induction L generalizing i with
  | nil => simp at h
  | cons b L ih =>
    have e : cellsB (b :: L) = [Value.int .i64 b.addr, .int .i64 b.len, .bool b.wt] ++ cellsB L := by simp [cellsB]
    rw [e]
    match i with
    | 0 => simp
    | i + 1 =>
      have := ih i (by simpa using h)
      rw [List.getElem?_append_right (by simp; omega), List.getElem?_append_right (by simp; omega), List.getElem?_append_right (by simp; omega)]
      simp only [List.length_cons, List.length_nil]
      rw [show (i + 1) * 3 - (0 + 1 + 1 + 1) = i * 3 by omega, show (i + 1) * 3 + 1 - (0 + 1 + 1 + 1) = i * 3 + 1 by omega, show (i + 1) * 3 + 2 - (0 + 1 + 1 + 1) = i * 3 + 2 by omega]
      exact this
theorem bufs_new (w : World) (bufs : List Bf) (g : Nat) (hg : g < w.heap.size) : Bufs (w.alloc (.cells (cellsB bufs).toArray 88)) (some ⟨w.heap.size, 0, none⟩) bufs g := by
  intro i hi
  obtain ⟨h1, h2, h3⟩ := cellsB_get bufs i hi
  have hl := cellsB_len bufs
  refine ⟨w.heap.size, 0, rfl, by omega, ?_, ?_, ?_⟩
  · rw [Nat.zero_add, new_cell w _ _ _ (i * 3) (by simp; omega)]
    rw [List.getElem?_eq_getElem (by omega)] at h1
    simpa using h1
  · rw [Nat.zero_add, new_cell w _ _ _ (i * 3 + 1) (by simp; omega)]
    rw [List.getElem?_eq_getElem (by omega)] at h2
    simpa using h2
  · rw [Nat.zero_add, new_cell w _ _ _ (i * 3 + 2) (by simp; omega)]
    rw [List.getElem?_eq_getElem (by omega)] at h3
    simpa using h3
theorem ownsB_open {w : World} {base : Nat} {v : Value} {L : List Bf} (h : w.ownsRow base 88 3 v L.length (cellsB L)) (hp : 0 < L.length) : ∃ b cap, v = .slice (some ⟨b, 0, none⟩) L.length cap ∧ L.length ≤ cap ∧ base ≤ b ∧ b < w.heap.size ∧ ∀ i, i < L.length →
    w.cell? ⟨b, i * 3, none⟩ = some (.int .i64 (L.getD i default).addr) ∧ w.cell? ⟨b, i * 3 + 1, none⟩ = some (.int .i64 (L.getD i default).len) ∧ w.cell? ⟨b, i * 3 + 2, none⟩ = some (.bool (L.getD i default).wt) := by
  rcases h.2 with ⟨_, h0⟩ | ⟨g, cap, cur, rfl, hb, hh, hc1, hc2, hcs, ht⟩
  · omega
  · refine ⟨g, cap, rfl, hc1, hb, (Array.getElem?_eq_some_iff.1 hh).1, fun i hi => ?_⟩
    obtain ⟨h1, h2, h3⟩ := cellsB_get L i hi
    have e : ∀ j, j < L.length * 3 → w.cell? ⟨g, j, none⟩ = (cellsB L)[j]? := fun j hj => by
      rw [← ht, List.getElem?_take, if_pos hj]
      simp [World.cell?, hh]
    rw [e _ (by omega), e _ (by omega), e _ (by omega)]
    exact ⟨h1, h2, h3⟩

/-- A number modulo n, from 0 on. -/
def wi (at_ n : Int) : Int := if at_.tmod n < 0 then at_.tmod n + n else at_.tmod n
theorem wi_bd (at_ n : Int) (h : 0 < n) : 0 ≤ wi at_ n ∧ wi at_ n < n := by
  unfold wi
  have h1 := Int.tmod_lt_of_pos at_ h
  have h2 : -n < at_.tmod n := by
    rcases Int.lt_or_le at_ 0 with h3 | h3
    · have h4 := Int.neg_tmod (-at_) n
      rw [Int.neg_neg] at h4
      rw [h4]
      have := Int.tmod_lt_of_pos (-at_) h
      omega
    · have := Int.tmod_nonneg n h3
      omega
  split <;> omega
theorem wrap_wi {x n : Int} (h0 : 0 < n) (hn : n < 1099511627776) (h : x.tmod n < 0) : IntKind.i64.wrap (x.tmod n + n) = x.tmod n + n := by
  have h1 := wi_bd x n h0
  unfold wi at h1
  rw [if_pos h] at h1
  exact IntWalk.i64_in _ (by omega)
theorem mem_made (w : World) (n : Nat) : Mem (w.alloc (.cells (madeCells #[.int .u8 0] n) 5)) w.heap.size n (fun _ => 0) := Mem.of_row (World.rowIs_made w (.int .u8 0) n 5) (fun i _ => by show (0 : Int) ≤ 0 ∧ (0 : Int) < 256; omega)

/-- The queue of n descriptors at the head of memory of N bytes. -/
def qu (g n N : Nat) (h1 : 1 ≤ n) (h2 : n ≤ 256) (h3 : 26 * n + 8 ≤ N) (h4 : N ≤ 1099511627776) : Qu := ⟨g, 0, n, N, 16 * n, 18 * n + 4, 16 * n, 4 + 2 * n, 4 + 8 * n, ⟨h1, h2, (Nat.zero_add _).symm, by rw [Nat.zero_add], rfl, rfl, rfl, by rw [Nat.zero_add]; exact h3, h4⟩⟩

def kn : List Bf := [⟨100, 16, false⟩, ⟨200, 512, true⟩]

end Go.Proofs.YtdjghkngiicncaaGreat

/- The document's driver: Heads. -/
namespace Go.Proofs.YtdjghkngiicncaaGreat
open Go.RowKit

/-- The reference's chains in flight: each with its head and its list. -/
def cellsF (F : List (Nat × Value)) : List Value := F.flatMap fun p => [.int .i64 p.1, p.2]
theorem cellsF_len (F : List (Nat × Value)) : (cellsF F).length = F.length * 2 := by
  induction F with
  | nil => rfl
  | cons p F ih => simp only [cellsF, List.flatMap_cons, List.length_append, List.length_cons, List.length_nil] at *; omega
theorem cellsF_get (F : List (Nat × Value)) (i : Nat) (hi : i < F.length) : (cellsF F)[i * 2]? = some (.int .i64 (F.getD i (0, undef)).1) ∧ (cellsF F)[i * 2 + 1]? = some (F.getD i (0, undef)).2 := by
  induction F generalizing i with
  | nil => simp at hi
  | cons p F ih =>
    cases i with
    | zero => simp [cellsF]
    | succ i =>
      have h := ih i (by simpa using hi)
      have e1 : (i + 1) * 2 = i * 2 + 1 + 1 := by omega
      simp only [cellsF, List.flatMap_cons, List.cons_append, List.nil_append, e1, List.getElem?_cons_succ, List.getD_cons_succ] at *
      exact h
def FRow (w : World) (vf : Value) (F : List (Nat × Value)) : Prop := w.ownsRow 0 127 2 vf F.length (cellsF F)
theorem FRow.open_ {w : World} {vf : Value} {F : List (Nat × Value)} (h : FRow w vf F) (hp : 0 < F.length) : ∃ b cap, vf = .slice (some ⟨b, 0, none⟩) F.length cap ∧ b < w.heap.size ∧ ∀ i, i < F.length →
    w.cell? ⟨b, i * 2, none⟩ = some (.int .i64 (F.getD i (0, undef)).1) ∧ w.cell? ⟨b, i * 2 + 1, none⟩ = some (F.getD i (0, undef)).2 := by
  rcases h.2 with ⟨_, h0⟩ | ⟨g, cap, cur, rfl, hb, hh, hc1, hc2, hcs, ht⟩
  · omega
  · refine ⟨g, cap, rfl, (Array.getElem?_eq_some_iff.1 hh).1, fun i hi => ?_⟩
    obtain ⟨h1, h2⟩ := cellsF_get F i hi
    have e : ∀ j, j < F.length * 2 → w.cell? ⟨g, j, none⟩ = (cellsF F)[j]? := fun j hj => by
      rw [← ht, List.getElem?_take, if_pos hj]
      simp [World.cell?, hh]
    rw [e _ (by omega), e _ (by omega)]
    exact ⟨h1, h2⟩

/-- Head k, as often as it flies among the first i. -/
def hk (F : List (Nat × Value)) (k i : Nat) : List Int := ((F.take i).filter (fun p => p.1 == k)).map (fun _ => (k : Int))
theorem hk_zero (F : List (Nat × Value)) (k : Nat) : hk F k 0 = [] := by simp [hk]
theorem hk_succ (F : List (Nat × Value)) (k i : Nat) (h : i < F.length) : hk F k (i + 1) = hk F k i ++ (if (F.getD i (0, undef)).1 = k then [(k : Int)] else []) := by
  have e : F.take (i + 1) = F.take i ++ [F.getD i (0, undef)] := by
    rw [List.take_succ_eq_append_getElem h]
    simp [List.getD, h]
  unfold hk
  rw [e, List.filter_append, List.map_append]
  congr 1
  clear e
  generalize F.getD i (0, undef) = y
  by_cases hc : y.1 = k
  · rw [if_pos hc]; simp [List.filter, hc]
  · rw [if_neg hc]; simp only [List.filter, beq_eq_false_iff_ne.2 hc, List.map_nil]
theorem hk_len (F : List (Nat × Value)) (k i : Nat) : (hk F k i).length ≤ F.length := by
  unfold hk
  rw [List.length_map]
  exact Nat.le_trans (List.length_filter_le _ _) (by simp; omega)
/-- The heads below k, rising. -/
def hh (F : List (Nat × Value)) : Nat → List Int
  | 0 => []
  | k + 1 => hh F k ++ hk F k F.length
theorem hh_len (F : List (Nat × Value)) (k : Nat) : (hh F k).length ≤ k * F.length := by
  induction k with
  | zero => simp [hh]
  | succ k ih =>
    have := hk_len F k F.length
    rw [hh, List.length_append, Nat.add_mul, Nat.one_mul]
    omega

theorem wpList_append_z {ops : Array Oper} {rest : List Oper} {o : Oper} {a : Act} {Q : Exit → Act → World → Prop} (hgd : o.guard = none) (s x : Operand)
    (ho : o.op = .call { callee := .builtin .append, args := #[s, x], argTypes := #[94, 94] }) (base : Nat) (w4 : World) (k : Int)
    (v : Value) (L : List Int) (hs : a.eval s = v) (hown : (w4.alloc (.cells #[.int .i64 k] 3)).ownsRow base 3 1 v L.length (L.map encZ)) (c : Nat) (hx : a.eval x = .slice (some ⟨w4.heap.size, 0, none⟩) 1 c)
    (hL : L.length ≤ 65536) (hb : base ≤ w4.heap.size)
    (h : ∀ (v' : Value) (w' : World), Hid (w'.ownsRow base 3 1 v' (L ++ [k]).length ((L ++ [k]).map encZ)) → Hid ((w4.alloc (.cells #[.int .i64 k] 3)).grownBy w' v.ownBlock) → wpList Tryz.prog ops Q rest (a.put o.dst v') w') :
    wpList Tryz.prog ops Q (o :: rest) a (w4.alloc (.cells #[.int .i64 k] 3)) := by
  obtain ⟨i0, hi, hz0, hz1, hz2⟩ := info3b
  refine wpList_append_own_at _ hgd s x 94 ho base 3 i0 _ 1 8 Tryz.underlying94 hi hz0 hz1 hz2 rfl (by decide) v L.length (L.map encZ) hs hown ⟨w4.heap.size, 0, none⟩ 1 c [.int .i64 k] hx rfl (fun j u hj => ?_) (by intro u hu; simp at hu; subst hu; rfl) (by unfold maxLen; omega) (by omega) (by simp; omega) ?_
  · have hj1 : j < 1 := (List.getElem?_eq_some_iff.1 hj).1
    rw [add_addr, Nat.zero_add, new_cell w4 _ _ _ j (by simpa using hj1)]
    obtain rfl : j = 0 := by omega
    simpa using hj
  · intro v' w' h1 h2 _ _
    refine h v' w' (hid ?_) (hid h2)
    rw [List.length_append, List.map_append]
    exact h1

end Go.Proofs.YtdjghkngiicncaaGreat
