/- One call of both sides: taken, given back. -/
import Derived.Test.YtjnhcbompgmknaaBothD
namespace Go.Proofs.Ytjnhcbompgmknaa
open Go.RowKit

theorem ownsZ_open {w : World} {base : Nat} {v : Value} {L : List Int} (h : w.ownsRow base 3 1 v L.length (L.map encZ)) (hp : 0 < L.length) : ∃ b cap, v = .slice (some ⟨b, 0, none⟩) L.length cap ∧ base ≤ b ∧ b < w.heap.size ∧ ∀ i, i < L.length → w.cell? ⟨b, i, none⟩ = some (.int .i64 (L.getD i 0)) := by
  rcases h.2 with ⟨_, h0⟩ | ⟨g, cap, cur, rfl, hb, hh, hc1, hc2, hcs, ht⟩
  · omega
  · refine ⟨g, cap, rfl, hb, (Array.getElem?_eq_some_iff.1 hh).1, fun i hi => ?_⟩
    have e : (cur.toList.take (L.length * 1))[i]? = (L.map encZ)[i]? := by rw [ht]
    rw [List.getElem?_take] at e
    simp [hi] at e
    simp [World.cell?, hh, e, encZ, List.getD, hi]
theorem owns_cints {w : World} {base : Nat} {v : Value} {L : List Int} (h : w.ownsRow base 3 1 v L.length (L.map encZ)) : ∃ a c, v = .slice a L.length c ∧ CInts w a L := by
  by_cases hp : 0 < L.length
  · obtain ⟨b, cap, h1, _, _, h2⟩ := ownsZ_open h hp
    exact ⟨_, cap, h1, fun i hi => ⟨b, 0, rfl, by rw [Nat.zero_add]; exact h2 i hi⟩⟩
  · obtain ⟨a, c, h1⟩ := owns_slice h
    exact ⟨a, c, h1, fun i hi => by omega⟩
theorem owns_cbufs {w : World} {base : Nat} {v : Value} {L : List Bf} (h : w.ownsRow base 51 3 v L.length (cellsB L)) : ∃ a c, v = .slice a L.length c ∧ CBufs w a L ∧ (0 < L.length → ∀ b off, a = some ⟨b, off, none⟩ → base ≤ b ∧ b < w.heap.size) := by
  by_cases hp : 0 < L.length
  · obtain ⟨b, cap, h1, _, h2, h3, h4⟩ := ownsB_open h hp
    refine ⟨_, cap, h1, fun i hi => ⟨b, 0, rfl, ?_⟩, fun _ b' off e => ?_⟩
    · rw [Nat.zero_add]; exact h4 i hi
    · simp only [Option.some.injEq, Addr.mk.injEq] at e
      omega
  · obtain ⟨a, c, h1⟩ := owns_slice h
    exact ⟨a, c, h1, fun i hi => by omega, fun e => by omega⟩
theorem CBufs.keep {w w' : World} {a : Option Addr} {l : List Bf} (h : CBufs w a l) (hk : 0 < l.length → ∀ b off, a = some ⟨b, off, none⟩ → w'.heap[b]? = w.heap[b]?) : CBufs w' a l := fun i hi => by
  obtain ⟨b, off, h1, h2, h3, h4⟩ := h i hi
  have hb := hk (by omega) b off h1
  exact ⟨b, off, h1, (World.cell?_of_block (w := w) hb).trans h2, (World.cell?_of_block (w := w) hb).trans h3, (World.cell?_of_block (w := w) hb).trans h4⟩

section
variable {w0 w : World} {H : Hd} {c : Nat} {S S2 : Sd} {T : List Int}
set_option maxRecDepth 100000 in
set_option maxHeartbeats 4000000 in
theorem do_give (h : Both (Z0 w0) w0 w H c S S T) (n m : Int) (hm : Is64 m) (va : Option Addr) (vn vc : Nat) :
    Calls Try.prog 11 #[.pointer (some ⟨H.pb, 0, none⟩), .agg #[.int .i64 3, .int .i64 n, .int .i64 m, .slice va vn vc]] w fun e w' => e = .returned (.bool true) ∧ ∃ S' T', Both (Z0 w0) w0 w' H (c + 1) S' S' T' ∧ T'.length ≤ T.length + 1 := by
  have hbe : Below w.heap.size w (w.alloc (.cells #[.int .i64 3, .int .i64 n, .int .i64 m, .slice va vn vc] 30)) := (Below.refl _ w).alloc (Nat.le_refl _) _
  have h1 := h.wide hbe (Z' := fun b => b < w0.heap.size ∨ b = w.heap.size) (fun b e => by
    have hs := h.bel.size
    have hs1 : (w.alloc (.cells #[.int .i64 3, .int .i64 n, .int .i64 m, .slice va vn vc] 30)).heap.size = w.heap.size + 1 := by simp
    rcases e with e | e
    · exact ⟨by omega, .inr (.inr e)⟩
    · exact ⟨by omega, .inr (.inl (by omega))⟩)
  have e0 : (w.alloc (.cells #[.int .i64 3, .int .i64 n, .int .i64 m, .slice va vn vc] 30)).cell? ⟨w.heap.size, 0, none⟩ = some (.int .i64 3) := new_cell w _ _ _ 0 (by simp)
  have e1 : (w.alloc (.cells #[.int .i64 3, .int .i64 n, .int .i64 m, .slice va vn vc] 30)).cell? ⟨w.heap.size, 1, none⟩ = some (.int .i64 n) := new_cell w _ _ _ 1 (by simp)
  have e2 : (w.alloc (.cells #[.int .i64 3, .int .i64 n, .int .i64 m, .slice va vn vc] 30)).cell? ⟨w.heap.size, 2, none⟩ = some (.int .i64 m) := new_cell w _ _ _ 2 (by simp)
  obtain ⟨d0, d1, d2, d3, d4, d5⟩ := h1.cells
  obtain ⟨ta, tc, d6, hT⟩ : ∃ ta tc, (w.alloc (.cells #[.int .i64 3, .int .i64 n, .int .i64 m, .slice va vn vc] 30)).cell? ⟨H.pb, 6, none⟩ = some (.slice ta T.length tc) ∧ (0 < T.length → ∃ tb, ta = some ⟨tb, 0, none⟩ ∧ ∀ i, i < T.length → (w.alloc (.cells #[.int .i64 3, .int .i64 n, .int .i64 m, .slice va vn vc] 30)).cell? ⟨tb, i, none⟩ = some (.int .i64 (T.getD i 0))) := by
    obtain ⟨vt, al, ar, lab, b, hZ⟩ := h1
    obtain ⟨_, _, _, _, _, _, d6, _⟩ := b.cells
    obtain ⟨ta, tc, hv⟩ := owns_slice b.tk
    rw [hv] at d6
    refine ⟨ta, tc, d6, fun hp => ?_⟩
    obtain ⟨tb, tcap, hv2, _, _, hc⟩ := ownsZ_open b.tk hp
    rw [hv] at hv2
    simp only [Value.slice.injEq] at hv2
    exact ⟨tb, hv2.1, hc⟩
  have H1 := hid h1
  have HT := hid hT
  have HM64 := hid hm
  clear h h1 hbe hT hm
  generalize hTL : T.length = tl at *
  have HTL := hid hTL
  clear hTL
  have key : ∀ x : Int, Hid (∀ w1, Both (fun b => b < w0.heap.size ∨ b = w.heap.size) w0 w1 H c S S T → Calls Try.prog 22 #[.pointer (some ⟨H.pv, 0, none⟩), .int .i64 x, .int .i64 m] w1 fun e w' => e = .returned (.int .i64 (giveR H.q x m)) ∧ Goes (fun b => b < w0.heap.size ∨ b = w.heap.size) w0 w1 w' H c (giveS H.q S x m) S T) := fun x => hid (fun w1 hb => hb.give1 x m HM64.out)
  by_cases hn : 0 ≤ n ∧ n < (tl : Int)
  · obtain ⟨hn0, hn1⟩ := hn
    obtain ⟨k, rfl⟩ : ∃ k : Nat, n = k := ⟨n.toNat, by omega⟩
    obtain ⟨tb, hta, htc⟩ := HT.out (by omega)
    subst hta
    have ct := htc k (by omega)
    generalize T.getD k 0 = x at *
    have hc22 := key x
    clear htc HT key
    go_enter Try.func11, Try.ntmps11
    go_wp2
    generalize w.alloc (.cells #[.int .i64 3, .int .i64 (k : Int), .int .i64 m, .slice va vn vc] 30) = w1 at *
    have h1d := H1.out.below ((Below.refl _ w1).drew)
    have hc := hid (hc22.out _ h1d)
    have hr : (giveR H.q x m == giveR H.q x m) = true := by simp
    have e2d : w1.drew.cell? ⟨w.heap.size, 2, none⟩ = some (.int .i64 m) := e2
    clear h1d hc22
    go_region_held3 (fun w' => w'.cell? ⟨H.pb, 1, none⟩ = some (.pointer (some ⟨H.pv, 0, none⟩)) ∧ w'.cell? ⟨H.pb, 3, none⟩ = some (.pointer (some ⟨H.py, 0, none⟩)) ∧ w'.cell? ⟨w.heap.size, 2, none⟩ = some (.int .i64 m)) ((first | exact ⟨d1, d3, e2⟩ | exact HS6.out | exact HS5.out))
      ((first | (go_at_call 22; refine hc.out.mono ?_; rintro e w5 ⟨rfl, hg5⟩; have HG5 := hid hg5; have HS5 := hid (And.intro hg5.1.cells.2.1 (And.intro hg5.1.cells.2.2.2.1 ((World.cell?_of_block (w := w1.drew) (hg5.2 w.heap.size (.inr rfl))).trans e2d))); clear hg5) | (go_at_call 30; refine (HG5.out.1.give2 x m).mono ?_; rintro e w6 ⟨rfl, hg6⟩; have HG6 := hid hg6; have HS6 := hid (And.intro hg6.1.cells.2.1 (And.intro hg6.1.cells.2.2.2.1 ((World.cell?_of_block (w := w5) (hg6.2 w.heap.size (.inr rfl))).trans HS5.out.2.2))); clear hg6)))
    clear HS5 HS6
    go_wp2
    go_ret
    exact ⟨by simp, _, T, (HG6.out.1.count (Nat.le_succ c)).less (fun b hb => .inl hb), Nat.le_of_lt (by have := HTL.out; omega)⟩
  · by_cases hn0 : 0 ≤ n
    · have hn1 : ¬ (n < (tl : Int)) := fun e => hn ⟨hn0, e⟩
      have hn1b : decide (n < (tl : Int)) = false := by simp; omega
      have hc22 := key n
      clear hn HT key
      go_enter Try.func11, Try.ntmps11
      go_wp2
      generalize w.alloc (.cells #[.int .i64 3, .int .i64 n, .int .i64 m, .slice va vn vc] 30) = w1 at *
      have h1d := H1.out.below ((Below.refl _ w1).drew)
      have hc := hid (hc22.out _ h1d)
      have hr : (giveR H.q n m == giveR H.q n m) = true := by simp
      have e2d : w1.drew.cell? ⟨w.heap.size, 2, none⟩ = some (.int .i64 m) := e2
      clear h1d hc22
      go_region_held3 (fun w' => w'.cell? ⟨H.pb, 1, none⟩ = some (.pointer (some ⟨H.pv, 0, none⟩)) ∧ w'.cell? ⟨H.pb, 3, none⟩ = some (.pointer (some ⟨H.py, 0, none⟩)) ∧ w'.cell? ⟨w.heap.size, 2, none⟩ = some (.int .i64 m)) ((first | exact ⟨d1, d3, e2⟩ | exact HS6.out | exact HS5.out))
        ((first | (go_at_call 22; refine hc.out.mono ?_; rintro e w5 ⟨rfl, hg5⟩; have HG5 := hid hg5; have HS5 := hid (And.intro hg5.1.cells.2.1 (And.intro hg5.1.cells.2.2.2.1 ((World.cell?_of_block (w := w1.drew) (hg5.2 w.heap.size (.inr rfl))).trans e2d))); clear hg5) | (go_at_call 30; refine (HG5.out.1.give2 n m).mono ?_; rintro e w6 ⟨rfl, hg6⟩; have HG6 := hid hg6; have HS6 := hid (And.intro hg6.1.cells.2.1 (And.intro hg6.1.cells.2.2.2.1 ((World.cell?_of_block (w := w5) (hg6.2 w.heap.size (.inr rfl))).trans HS5.out.2.2))); clear hg6)))
      clear HS5 HS6
      go_wp2
      go_ret
      exact ⟨by simp, _, T, (HG6.out.1.count (Nat.le_succ c)).less (fun b hb => .inl hb), Nat.le_of_lt (by have := HTL.out; omega)⟩
    · have hn0b : decide (0 ≤ n) = false := by simp; omega
      have hc22 := key n
      clear hn HT key
      go_enter Try.func11, Try.ntmps11
      go_wp2
      generalize w.alloc (.cells #[.int .i64 3, .int .i64 n, .int .i64 m, .slice va vn vc] 30) = w1 at *
      have h1d := H1.out.below ((Below.refl _ w1).drew)
      have hc := hid (hc22.out _ h1d)
      have hr : (giveR H.q n m == giveR H.q n m) = true := by simp
      have e2d : w1.drew.cell? ⟨w.heap.size, 2, none⟩ = some (.int .i64 m) := e2
      clear h1d hc22
      go_region_held3 (fun w' => w'.cell? ⟨H.pb, 1, none⟩ = some (.pointer (some ⟨H.pv, 0, none⟩)) ∧ w'.cell? ⟨H.pb, 3, none⟩ = some (.pointer (some ⟨H.py, 0, none⟩)) ∧ w'.cell? ⟨w.heap.size, 2, none⟩ = some (.int .i64 m)) ((first | exact ⟨d1, d3, e2⟩ | exact HS6.out | exact HS5.out))
        ((first | (go_at_call 22; refine hc.out.mono ?_; rintro e w5 ⟨rfl, hg5⟩; have HG5 := hid hg5; have HS5 := hid (And.intro hg5.1.cells.2.1 (And.intro hg5.1.cells.2.2.2.1 ((World.cell?_of_block (w := w1.drew) (hg5.2 w.heap.size (.inr rfl))).trans e2d))); clear hg5) | (go_at_call 30; refine (HG5.out.1.give2 n m).mono ?_; rintro e w6 ⟨rfl, hg6⟩; have HG6 := hid hg6; have HS6 := hid (And.intro hg6.1.cells.2.1 (And.intro hg6.1.cells.2.2.2.1 ((World.cell?_of_block (w := w5) (hg6.2 w.heap.size (.inr rfl))).trans HS5.out.2.2))); clear hg6)))
      clear HS5 HS6
      go_wp2
      go_ret
      exact ⟨by simp, _, T, (HG6.out.1.count (Nat.le_succ c)).less (fun b hb => .inl hb), Nat.le_of_lt (by have := HTL.out; omega)⟩
end
end Go.Proofs.Ytjnhcbompgmknaa
