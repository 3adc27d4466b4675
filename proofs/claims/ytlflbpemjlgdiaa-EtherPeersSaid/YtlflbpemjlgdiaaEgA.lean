/- Rows of addresses; what EtherKnown's own row is. -/
import Derived.Test.YtlflbpemjlgdiaaEeA
namespace Go.Proofs.Ytlflbpemjlgdiaa
open Go.RowKit Go.Maps
set_option linter.unusedVariables false

/-- Addresses l at a, in blocks of T. -/
def UT (w : World) (T : Nat → Prop) (a : Option Addr) (l : List Int) : Prop :=
  ∀ i, i < l.length → ∃ b off, a = some ⟨b, off, none⟩ ∧ T b ∧ b < w.heap.size ∧ w.cell? ⟨b, off + i, none⟩ = some (.int .u32 (l.getD i 0)) ∧ IsU (l.getD i 0)
section
variable {w w' : World} {T T' : Nat → Prop} {a : Option Addr} {l : List Int}
theorem UT.keep (h : UT w T a l) (hz : w.heap.size ≤ w'.heap.size) (hk : ∀ b, T b → b < w.heap.size → w'.heap[b]? = w.heap[b]?) : UT w' T a l := fun i hi => by
  obtain ⟨b, off, e, ht, hb, hc, hu⟩ := h i hi
  refine ⟨b, off, e, ht, Nat.lt_of_lt_of_le hb hz, ?_, hu⟩
  simp only [World.cell?] at hc ⊢
  rw [hk b ht hb]
  exact hc
theorem UT.later (h : UT w T a l) (hb : Below w.heap.size w w') : UT w' T a l := h.keep hb.size (fun b _ hl => hb.block b hl)
theorem UT.weak (h : UT w T a l) (hk : ∀ b, T b → b < w.heap.size → T' b) : UT w T' a l := fun i hi => by
  obtain ⟨b, off, e, ht, hb, hc, hu⟩ := h i hi
  exact ⟨b, off, e, hk b ht hb, hb, hc, hu⟩
theorem UT.nil (w : World) (T : Nat → Prop) (a : Option Addr) : UT w T a [] := fun i hi => by simp at hi
theorem UT.at_ (h : UT w T a l) {i : Nat} (hi : i < l.length) : ∃ b off, a = some ⟨b, off, none⟩ ∧ w.cell? ⟨b, off + i, none⟩ = some (.int .u32 (l.getD i 0)) ∧ IsU (l.getD i 0) := by
  obtain ⟨b, off, e, _, _, hc, hu⟩ := h i hi
  exact ⟨b, off, e, hc, hu⟩
theorem UT.of_owns {base n : Nat} {v : Value} (h : w.ownsRow base 40 1 v n (u32v l)) (hl : ∀ x ∈ l, IsU x) (hT : ∀ g, v.ownBlock = some g → T g) : ∃ a c, v = .slice a n c ∧ n ≤ c ∧ l.length = n ∧ UT w T a l := by
  have h1 := h.1
  simp at h1
  rcases h.2 with ⟨rfl, h0⟩ | ⟨g, cap, cur, rfl, _, hh, hc1, hc2, hcs, ht⟩
  · refine ⟨none, 0, by rw [h0], by omega, h1, ?_⟩
    obtain rfl : l = [] := List.eq_nil_of_length_eq_zero (by omega)
    exact UT.nil _ _ _
  · refine ⟨_, cap, rfl, hc1, h1, fun i hi => ⟨g, 0, rfl, hT g rfl, (Array.getElem?_eq_some_iff.1 hh).1, ?_, mem_getD l IsU hl i hi⟩⟩
    have e : (cur.toList.take (n * 1))[i]? = (u32v l)[i]? := by rw [ht]
    rw [List.getElem?_take, if_pos (by omega), Array.getElem?_toList, u32v_get hi] at e
    rw [Nat.zero_add]
    exact cell_of hh e
theorem UT.drop1 {b off : Nat} (h : UT w T (some ⟨b, off, none⟩) l) : UT w T (some ⟨b, off + 1, none⟩) (l.drop 1) := fun i hi => by
  simp at hi
  obtain ⟨b', off', e, ht, hb, hc, hu⟩ := h (i + 1) (by omega)
  simp only [Option.some.injEq, Addr.mk.injEq, and_true] at e
  obtain ⟨rfl, rfl⟩ := e
  have e2 : (l.drop 1).getD i 0 = l.getD (i + 1) 0 := by simp [List.getD]
  rw [e2]
  exact ⟨b, off + 1, rfl, ht, hb, by rw [show off + 1 + i = off + (i + 1) by omega]; exact hc, hu⟩
end
/-- 'append' of one address to a row of one's own. -/
theorem pushU (w : World) (B : Nat) (a : Option Addr) (n c : Nat) (l : List Int) (hn : l.length = n) (h : w.ownsRow B 40 1 (.slice a n c) n (u32v l)) (hB : B ≤ w.heap.size) (x : Int) (hl : n ≤ 1000) :
    ∃ a7 c7 w7, (Builtin.append_ #[52, 52] 52 #[.slice a n c, .slice (some ⟨w.heap.size, 0, none⟩) 1 1]).run Try.prog (w.alloc (.cells #[.int .u32 x] 40)) = .ok (.slice a7 (n + 1) c7) w7 ∧ w7.ownsRow B 40 1 (.slice a7 (n + 1) c7) (n + 1) (u32v (l ++ [x])) ∧ Below B w w7 := by
  have b56 : Below w.heap.size w (w.alloc (.cells #[.int .u32 x] 40)) := below_alloc (Below.refl _ _) (Nat.le_refl _) _
  have hR6 := owns_keep h (fun g hg => b56.block g (owns_lt h hg).1)
  obtain ⟨v7, w7, hap, ho7, hm7, hob7⟩ := app_gen (w.alloc (.cells #[.int .u32 x] 40)) 52 52 40 _ 4 Try.underlying52 info32 rfl (by omega) (.slice a n c) (u32v l) n (by simp [hn]) (owns_zero hR6) ⟨w.heap.size, 0, none⟩ 1 1 [.int .u32 x] rfl (fun j u hj => by
    have hj2 : j < 1 := (List.getElem?_eq_some_iff.1 hj).1
    obtain rfl : j = 0 := by omega
    rw [add_addr, new_cell _ _ _ _ 0 (by simp)]
    simpa using hj) (by simp [Value.oneCell']) (by omega)
  obtain ⟨a7, c7, rfl⟩ := owns_slice ho7
  refine ⟨a7, c7, w7, hap, ?_, (b56.mono hB).trans (hm7.to_below (Below.refl B _) (Nat.le_trans hB b56.size) (fun g hg => (owns_lt h hg).2))⟩
  have e2 : u32v (l ++ [x]) = u32v l ++ [.int .u32 x] := by simp
  rw [e2]
  refine owns_base ho7 (fun g hg => ?_)
  rcases hob7 with e | e
  · rw [e] at hg; exact (owns_lt h hg).2
  · rw [e] at hg; simp at hg; omega
/-- The law's own row behind a step. -/
def rowL (l : List Int) (x : Int) : List Int := l.filter (fun y => !decide (y = x)) ++ [x]
theorem learn_row (L : List Pe) (x : Int) (m : Mac) (h0 : x ≠ 0) : (learnL L x m).map Pe.ip = if 16 < (rowL (L.map Pe.ip) x).length then (rowL (L.map Pe.ip) x).drop 1 else rowL (L.map Pe.ip) x := by
  have e : (rowL (L.map Pe.ip) x) = (dropP L x).map Pe.ip ++ [x] := by unfold rowL; rw [dropP_ips]
  rw [e]
  unfold learnL
  rw [if_neg h0]
  have hl : ((dropP L x).map Pe.ip ++ [x]).length = (dropP L x).length + 1 := by simp
  rw [hl]
  by_cases h : 16 ≤ (dropP L x).length
  · rw [if_pos h, if_pos (by omega)]
    match hd : dropP L x, h with
    | f :: r, _ => simp
  · rw [if_neg h, if_neg (by omega)]
    simp
theorem learn_look (L : List Pe) (x : Int) (m : Mac) (h0 : x ≠ 0) : lookP (learnL L x m) x = some ⟨x, m⟩ := by
  unfold learnL
  rw [if_neg h0]
  have hn : lookP (if 16 ≤ (dropP L x).length then (dropP L x).drop 1 else dropP L x) x = none := by
    split
    · exact look_none.2 (fun e he => look_none.1 (look_dropped L x) e (List.mem_of_mem_drop he))
    · exact look_dropped L x
  rw [lookP_push hn, if_pos rfl]
theorem filter_snoc (l : List Int) (j : Nat) (h : j < l.length) (p : Int → Bool) : (l.take (j + 1)).filter p = (l.take j).filter p ++ (if p (l.getD j 0) then [l.getD j 0] else []) := by
  have e : l.getD j 0 = l[j] := by simp [List.getD, h]
  rw [List.take_succ_eq_append_getElem h, List.filter_append, e]
  congr 1
  by_cases hp : p l[j] = true <;> simp [hp]
theorem cut1_run (b off len cap : Nat) (h : 1 < len) (hc : len ≤ cap) (W : World) : (Instr.slice 52 (.slice (some ⟨b, off, none⟩) len cap) (some (.int .i64 1)) none none).run Try.prog W = .ok (.slice (some ⟨b, off + 1, none⟩) (len - 1) (cap - 1)) W := by
  have hz : (sizeOf 40).run Try.prog W = .ok 1 W := by kernel_rfl
  have h1 := run_slice_l (P := Try.prog) W 52 (some ⟨b, off, none⟩) len cap Try.underlying52 .i64 1 (by omega) (by omega)
  have e : Try.prog.elem 52 = 40 := by kernel_rfl
  rw [e, hz] at h1
  have h2 : ¬ (cap = 1) := by omega
  refine Eq.trans h1 ?_
  simp [sliced, Addr.add, h2]
end Go.Proofs.Ytlflbpemjlgdiaa
