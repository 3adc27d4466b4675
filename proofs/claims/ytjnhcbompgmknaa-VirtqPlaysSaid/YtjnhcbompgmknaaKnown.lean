/- known: the chapter's example comes out as the document says; within: a number from 0 on. -/
import Derived.Test.YtjnhcbompgmknaaRunA
namespace Go.Proofs.Ytjnhcbompgmknaa
open Go.RowKit

theorem cellsB_len (L : List Bf) : (cellsB L).length = L.length * 3 := by
  induction L with
  | nil => rfl
  | cons b L ih => simp only [cellsB, List.flatMap_cons, List.length_append, List.length_cons, List.length_nil] at *; omega
theorem cellsB_get (L : List Bf) (i : Nat) (h : i < L.length) : (cellsB L)[i * 3]? = some (.int .i64 (L.getD i default).addr) ∧ (cellsB L)[i * 3 + 1]? = some (.int .i64 (L.getD i default).len) ∧ (cellsB L)[i * 3 + 2]? = some (.bool (L.getD i default).wt) := by
  induction L generalizing i with
  | nil => simp at h
  | cons b L ih =>
    have e : cellsB (b :: L) = [Value.int .i64 b.addr, .int .i64 b.len, .bool b.wt] ++ cellsB L := by simp [cellsB]
    rw [e]
    match i with
    | 0 => simp
    | i + 1 =>
      have := ih i (by simpa using h)
      rw [List.getElem?_append_right (by simp; omega), List.getElem?_append_right (by simp; omega), List.getElem?_append_right (by simp; omega)]
      simp only [List.length_cons, List.length_nil]
      rw [show (i + 1) * 3 - (0 + 1 + 1 + 1) = i * 3 by omega, show (i + 1) * 3 + 1 - (0 + 1 + 1 + 1) = i * 3 + 1 by omega, show (i + 1) * 3 + 2 - (0 + 1 + 1 + 1) = i * 3 + 2 by omega]
      exact this
theorem bufs_new (w : World) (bufs : List Bf) (g : Nat) (hg : g < w.heap.size) : Bufs (w.alloc (.cells (cellsB bufs).toArray 51)) (some ⟨w.heap.size, 0, none⟩) bufs g := by
  intro i hi
  obtain ⟨h1, h2, h3⟩ := cellsB_get bufs i hi
  have hl := cellsB_len bufs
  refine ⟨w.heap.size, 0, rfl, by omega, ?_, ?_, ?_⟩
  · rw [Nat.zero_add, new_cell w _ _ _ (i * 3) (by simp; omega)]
    rw [List.getElem?_eq_getElem (by omega)] at h1
    simpa using h1
  · rw [Nat.zero_add, new_cell w _ _ _ (i * 3 + 1) (by simp; omega)]
    rw [List.getElem?_eq_getElem (by omega)] at h2
    simpa using h2
  · rw [Nat.zero_add, new_cell w _ _ _ (i * 3 + 2) (by simp; omega)]
    rw [List.getElem?_eq_getElem (by omega)] at h3
    simpa using h3
theorem ownsB_open {w : World} {base : Nat} {v : Value} {L : List Bf} (h : w.ownsRow base 51 3 v L.length (cellsB L)) (hp : 0 < L.length) : ∃ b cap, v = .slice (some ⟨b, 0, none⟩) L.length cap ∧ L.length ≤ cap ∧ base ≤ b ∧ b < w.heap.size ∧ ∀ i, i < L.length →
    w.cell? ⟨b, i * 3, none⟩ = some (.int .i64 (L.getD i default).addr) ∧ w.cell? ⟨b, i * 3 + 1, none⟩ = some (.int .i64 (L.getD i default).len) ∧ w.cell? ⟨b, i * 3 + 2, none⟩ = some (.bool (L.getD i default).wt) := by
  rcases h.2 with ⟨_, h0⟩ | ⟨g, cap, cur, rfl, hb, hh, hc1, hc2, hcs, ht⟩
  · omega
  · refine ⟨g, cap, rfl, hc1, hb, (Array.getElem?_eq_some_iff.1 hh).1, fun i hi => ?_⟩
    obtain ⟨h1, h2, h3⟩ := cellsB_get L i hi
    have e : ∀ j, j < L.length * 3 → w.cell? ⟨g, j, none⟩ = (cellsB L)[j]? := fun j hj => by
      rw [← ht, List.getElem?_take, if_pos hj]
      simp [World.cell?, hh]
    rw [e _ (by omega), e _ (by omega), e _ (by omega)]
    exact ⟨h1, h2, h3⟩

/-- A number modulo n, from 0 on. -/
def wi (at_ n : Int) : Int := if at_.tmod n < 0 then at_.tmod n + n else at_.tmod n
theorem wi_bd (at_ n : Int) (h : 0 < n) : 0 ≤ wi at_ n ∧ wi at_ n < n := by
  unfold wi
  have h1 := Int.tmod_lt_of_pos at_ h
  have h2 : -n < at_.tmod n := by
    rcases Int.lt_or_le at_ 0 with h3 | h3
    · have h4 := Int.neg_tmod (-at_) n
      rw [Int.neg_neg] at h4
      rw [h4]
      have := Int.tmod_lt_of_pos (-at_) h
      omega
    · have := Int.tmod_nonneg n h3
      omega
  split <;> omega
theorem wrap_wi {x n : Int} (h0 : 0 < n) (hn : n < 1099511627776) (h : x.tmod n < 0) : IntKind.i64.wrap (x.tmod n + n) = x.tmod n + n := by
  have h1 := wi_bd x n h0
  unfold wi at h1
  rw [if_pos h] at h1
  exact IntWalk.i64_in _ (by omega)
set_option maxHeartbeats 400000 in
theorem within_any (x n : Int) (h0 : 0 < n) (hn : n < 1099511627776) (w : World) : Calls Try.prog 17 #[.int .i64 x, .int .i64 n] w fun e w' => e = .returned (.int .i64 (wi x n)) ∧ w' = w := by
  have hne : ¬ (n = 0) := by omega
  have hne' : n ≠ 0 := by omega
  by_cases h : x.tmod n < 0
  · have hw := wrap_wi h0 hn h
    have e : wi x n = x.tmod n + n := by unfold wi; rw [if_pos h]
    rw [e]
    go_enter Try.func17, Try.ntmps17
    go_wp2
    go_ret
    exact ⟨rfl, rfl⟩
  · have e : wi x n = x.tmod n := by unfold wi; rw [if_neg h]
    rw [e]
    go_enter Try.func17, Try.ntmps17
    go_wp2
    go_ret
    exact ⟨rfl, rfl⟩

theorem mem_made (w : World) (n : Nat) : Mem (w.alloc (.cells (madeCells #[.int .u8 0] n) 5)) w.heap.size n (fun _ => 0) := Mem.of_row (World.rowIs_made w (.int .u8 0) n 5) (fun i _ => by show (0 : Int) ≤ 0 ∧ (0 : Int) < 256; omega)

/-- The queue of n descriptors at the head of memory of N bytes. -/
def qu (g n N : Nat) (h1 : 1 ≤ n) (h2 : n ≤ 256) (h3 : 26 * n + 8 ≤ N) (h4 : N ≤ 1099511627776) : Qu := ⟨g, 0, n, N, 16 * n, 18 * n + 4, 16 * n, 4 + 2 * n, 4 + 8 * n, ⟨h1, h2, (Nat.zero_add _).symm, by rw [Nat.zero_add], rfl, rfl, rfl, by rw [Nat.zero_add]; exact h3, h4⟩⟩

def kn : List Bf := [⟨100, 16, false⟩, ⟨200, 512, true⟩]

set_option maxRecDepth 100000 in
set_option maxHeartbeats 2000000 in
theorem known_any (w : World) : Calls Try.prog 7 #[] w fun e w' => e = .returned (.bool true) ∧ Below w.heap.size w w' := by
  have hmk := run_make_row' (P := Try.prog) 36 5 (.int .u8 0) 1 Try.underlying36 info5 rfl .i64 .i64 200 (by omega) (by omega)
  have ec : ((200 : Nat) : Int) = 200 := rfl
  rw [ec] at hmk
  clear ec
  have hcon := made w.heap.size w (w.alloc (.cells (madeCells #[.int .u8 0] 200) 5)) (qu w.heap.size 4 200 (by omega) (by omega) (by omega) (by omega)) 200 200 (fun _ => 0) ((Below.refl _ w).alloc (Nat.le_refl _) _) (by simp) (Nat.le_refl _) (mem_made w 200) rfl (by show 0 + (8 + 26 * 4) ≤ 200; omega) (Nat.le_refl _) (by omega)
  change Calls Try.prog 18 #[.slice (some ⟨w.heap.size, 0, none⟩) 200 200, .int .i64 0, .int .i64 4] _ _ at hcon
  have HC := hid hcon
  clear hcon
  go_enter Try.func7, Try.ntmps7
  go_wp2_with fail
  refine HC.out.mono ?_
  rintro e w1 ⟨pd, rfl, hc1⟩
  change Calls Try.prog 19 #[.slice (some ⟨w.heap.size, 0, none⟩) 200 200, .int .i64 0, .int .i64 4] _ _ at hc1
  have HC1 := hid hc1
  clear hc1 HC hmk
  go_wp2_with fail
  refine HC1.out.mono ?_
  rintro e w2 ⟨pv, rfl, hrun⟩
  have hsane := Sane.of_zr (qu w.heap.size 4 200 (by omega) (by omega) (by omega) (by omega)) (fun _ => 0) rfl
  obtain ⟨q, f, hqn, hrun, hsane⟩ : ∃ (q : Qu) (f : Nat → Int), q.n = 4 ∧ Run w.heap.size w w2 (fun _ => False) pd pv q (A0 q.n) 0 f 0 0 ∧ Sane q f (A0 q.n) 0 [] := ⟨_, _, rfl, hrun, hsane⟩
  have hg2 := hrun.mem.lt
  have hcon := hrun.add (w2.alloc (.cells (cellsB kn).toArray 51)) ((Below.refl _ _).alloc (Nat.le_refl _) _) (some ⟨w2.heap.size, 0, none⟩) 2 2 kn rfl (bufs_new w2 kn q.g hg2) (fun b off e => by simp at e; omega) (fun b hb => by simp [kn] at hb; rcases hb with rfl | rfl <;> (unfold okB; simp)) (by omega) (by simp [A0]; omega) (by omega)
  rw [show ((A0 q.n).free.getD 0 0 : Nat) = 0 by simp [A0, hqn, List.range_succ]] at hcon
  have hs1 := hsane.add kn (by decide) (by simp [A0, kn]; omega) (fun b hb => by simp [kn] at hb; rcases hb with rfl | rfl <;> (unfold okB; simp)) (fun b hb => by simp [kn] at hb; rcases hb with rfl | rfl <;> simp)
  have HC2 := hid hcon
  have HS1 := hid hs1
  have HQN := hid hqn
  clear hcon hs1 hsane hrun hg2 hqn HC1
  go_wp2_with fail
  refine HC2.out.mono ?_
  rintro e w3 ⟨rfl, hrun3, _⟩
  have hsan := HS1.out
  rw [List.nil_append] at hsan
  generalize hA1 : AddA (A0 q.n) kn.length = A1 at *
  have hA1' : AddA (A0 q.n) 2 = A1 := hA1
  rw [hA1'] at hrun3
  have hu1 : A1.uses = 0 := by rw [← hA1]; rfl
  generalize addF f q (A0 q.n) kn = f1 at *
  have hch0 : (List.take kn.length (A0 q.n).free).getD 0 0 = 0 := by rw [HQN.out]; rfl
  generalize List.take kn.length (A0 q.n).free = ch at *
  obtain ⟨a1, a2, a3, a4, a5, a6, a7⟩ := hsan.head
  simp only at a1 a2 a3 a4 a5 a6 a7
  rw [hch0] at a2 a4
  have hcon := hid (hrun3.take_some a1 0 a2 kn a4)
  obtain ⟨b1, hsan2⟩ := hsan.pop 513 (by omega) (by omega)
  simp only at b1 hsan2
  rw [hch0] at b1 hsan2
  obtain ⟨c1, c2, c3⟩ := given_rd f1 q A1.uses 0 513 (by omega) (by omega) (by omega) (by omega)
  rw [hu1] at c1 c2 c3
  have HB1 := hid b1
  have HS2 := hid hsan2
  have HC1 := hid (And.intro c1 (And.intro c2 c3))
  have HU1 := hid hu1
  clear hrun3 hsan hA1 hA1' hch0 a1 a2 a3 a4 a5 a6 a7 b1 hsan2 c1 c2 c3 hu1 HC2 HS1
  go_wp2_with fail
  refine hcon.out.mono ?_
  rintro e w4 ⟨v, rfl, hown, hrun4, _⟩
  obtain ⟨vb, vc, rfl, _, _, _, hcells⟩ := ownsB_open hown (by decide)
  have hcw := (hcells 1 (by decide)).2.2
  have hcon4 := hid (hrun4.give 0 513 (by rw [HQN.out]; rfl))
  have HCW : Hid (w4.cell? ⟨vb, 5, none⟩ = some (.bool true)) := hid hcw
  clear hown hcells hcw hrun4 hcon
  go_wp2_with fail
  refine hcon4.out.mono ?_
  rintro e w5 ⟨rfl, hrun5, hk5⟩
  have HCW5 := hid (cell_kept hk5 (b := vb) (.inr rfl) HCW.out)
  have hcon5 := hid (hrun5.used_some (by rw [HU1.out, HC1.out.1]; omega) 0 513 (by rw [HU1.out]; exact HC1.out.2.1) (by rw [HU1.out]; exact HC1.out.2.2) ch HB1.out)
  clear hrun5 hk5 HCW hcon4
  go_wp2_with fail
  refine hcon5.out.mono ?_
  rintro e w6 ⟨rfl, hrun6, hk6⟩
  have hcw6 := cell_kept hk6 (b := vb) (.inr rfl) HCW5.out
  have hfree : (UseA A1 0 ch).free.length = 4 := by
    have h1 := hrun6.wf.len
    have h2 : (UseA A1 0 ch).fl = [] := HS2.out.fl
    rw [h2] at h1
    simp at h1
    rw [← HQN.out]
    exact h1
  have hcon6 := hid hrun6.free
  have HF := hid hfree
  have HBL := hid hrun6.bel.1
  clear hrun6 hk6 HCW5 hcon5 hfree
  go_wp2_with (go_at_call 12; refine hcon6.out.mono ?_; rintro e w7 ⟨rfl, hw7⟩; rw [hw7, HF.out]; clear hw7 w7)
  go_ret
  exact ⟨rfl, HBL.out⟩
end Go.Proofs.Ytjnhcbompgmknaa
