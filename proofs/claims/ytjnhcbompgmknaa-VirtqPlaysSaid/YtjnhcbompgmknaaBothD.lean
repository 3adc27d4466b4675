/- One call of both sides: used, given back, poked. -/
import Derived.Test.YtjnhcbompgmknaaBothC
namespace Go.Proofs.Ytjnhcbompgmknaa
open Go.RowKit

def Z0 (w0 : World) (b : Nat) : Prop := b < w0.heap.size
section
variable {w0 w : World} {H : Hd} {c : Nat} {S : Sd} {T : List Int}

theorem Goes.back {Z : Nat → Prop} {w' : World} {c' : Nat} {S' S2' : Sd} {T' : List Int} (h : Goes Z w0 w w' H c' S' S2' T') : Both Z w0 w' H c' S' S2' T' := h.1

set_option maxRecDepth 100000 in
set_option maxHeartbeats 2000000 in
theorem do_used (h : Both (Z0 w0) w0 w H c S S T) (n m : Int) (va : Option Addr) (vn vc : Nat) :
    Calls Try.prog 11 #[.pointer (some ⟨H.pb, 0, none⟩), .agg #[.int .i64 4, .int .i64 n, .int .i64 m, .slice va vn vc]] w fun e w' => e = .returned (.bool true) ∧ ∃ S' T', Both (Z0 w0) w0 w' H (c + 1) S' S' T' ∧ T'.length ≤ T.length + 1 := by
  have hwf := h.wf
  have h1 := h.below ((Below.refl _ w).alloc (Nat.le_refl _) (.cells #[.int .i64 4, .int .i64 n, .int .i64 m, .slice va vn vc] 30))
  have hc1 := h1.used1
  obtain ⟨d0, d1, d2, d3, d4, d5⟩ := h1.cells
  have HC1 := hid hc1
  have HW := hid hwf
  clear h h1 hc1 hwf
  go_enter Try.func11, Try.ntmps11
  go_wp2_with fail
  refine HC1.out.mono ?_
  rintro e w2 ⟨rfl, hg2⟩
  obtain ⟨d0, d1, d2, d3, d4, d5⟩ := hg2.1.cells
  have HC2 := hid (hg2.1.used2 HW.out)
  clear hg2
  generalize usedR H.q S = R at *
  go_wp2_with fail
  refine HC2.out.mono ?_
  rintro e w3 ⟨rfl, hg3⟩
  have HG3 := hid hg3
  clear hg3
  go_wp2
  go_ret
  exact ⟨rfl, usedS H.q S, T, HG3.out.1.count (Nat.le_succ c), Nat.le_succ _⟩

set_option maxRecDepth 100000 in
set_option maxHeartbeats 2000000 in
theorem do_else (h : Both (Z0 w0) w0 w H c S S T) (k n m : Int) (va : Option Addr) (vn vc : Nat) (k1 : k ≠ 1) (k2 : k ≠ 2) (k3 : k ≠ 3) (k4 : k ≠ 4) (k5 : k ≠ 5) :
    Calls Try.prog 11 #[.pointer (some ⟨H.pb, 0, none⟩), .agg #[.int .i64 k, .int .i64 n, .int .i64 m, .slice va vn vc]] w fun e w' => e = .returned (.bool true) ∧ ∃ S' T', Both (Z0 w0) w0 w' H (c + 1) S' S' T' ∧ T'.length ≤ T.length + 1 := by
  have H1 := hid (h.below ((Below.refl _ w).alloc (Nat.le_refl _) (.cells #[.int .i64 k, .int .i64 n, .int .i64 m, .slice va vn vc] 30)))
  have q1 : (k == 1) = false := by simpa using k1
  have q2 : (k == 2) = false := by simpa using k2
  have q3 : (k == 3) = false := by simpa using k3
  have q4 : (k == 4) = false := by simpa using k4
  have q5 : (k == 5) = false := by simpa using k5
  clear h k1 k2 k3 k4 k5
  go_enter Try.func11, Try.ntmps11
  go_wp2
  go_ret
  exact ⟨rfl, S, T, H1.out.count (Nat.le_succ c), Nat.le_succ _⟩

set_option maxRecDepth 100000 in
set_option maxHeartbeats 2000000 in
theorem do_poke (h : Both (Z0 w0) w0 w H c S S T) (n m : Int) (va : Option Addr) (vn vc : Nat) :
    Calls Try.prog 11 #[.pointer (some ⟨H.pb, 0, none⟩), .agg #[.int .i64 5, .int .i64 n, .int .i64 m, .slice va vn vc]] w fun e w' => e = .returned (.bool true) ∧ ∃ S' T', Both (Z0 w0) w0 w' H (c + 1) S' S' T' ∧ T'.length ≤ T.length + 1 := by
  have hbe : Below w.heap.size w (w.alloc (.cells #[.int .i64 5, .int .i64 n, .int .i64 m, .slice va vn vc] 30)) := (Below.refl _ w).alloc (Nat.le_refl _) _
  have h1 := h.wide hbe (Z' := fun b => b < w0.heap.size ∨ b = w.heap.size) (fun b e => by
    have hs := h.bel.size
    have hs1 : (w.alloc (.cells #[.int .i64 5, .int .i64 n, .int .i64 m, .slice va vn vc] 30)).heap.size = w.heap.size + 1 := by simp
    rcases e with e | e
    · exact ⟨by omega, .inr (.inr e)⟩
    · exact ⟨by omega, .inr (.inl (by omega))⟩)
  have e0 : (w.alloc (.cells #[.int .i64 5, .int .i64 n, .int .i64 m, .slice va vn vc] 30)).cell? ⟨w.heap.size, 0, none⟩ = some (.int .i64 5) := new_cell w _ _ _ 0 (by simp)
  have e1 : (w.alloc (.cells #[.int .i64 5, .int .i64 n, .int .i64 m, .slice va vn vc] 30)).cell? ⟨w.heap.size, 1, none⟩ = some (.int .i64 n) := new_cell w _ _ _ 1 (by simp)
  have e2 : (w.alloc (.cells #[.int .i64 5, .int .i64 n, .int .i64 m, .slice va vn vc] 30)).cell? ⟨w.heap.size, 2, none⟩ = some (.int .i64 m) := new_cell w _ _ _ 2 (by simp)
  obtain ⟨d0, d1, d2, d3, d4, d5⟩ := h1.cells
  have H1 := hid h1
  have hB := IntKind.wrap_u8 m
  have hisB : IsB (IntKind.u8.wrap m) := by rw [hB]; exact ⟨by omega, by omega⟩
  clear h h1 hbe hB
  generalize hwx : IntKind.u8.wrap m = x at *
  have HX := hid hisB
  clear hisB
  by_cases hn : 0 ≤ n ∧ n < (H.q.N : Int)
  · obtain ⟨hn0, hn1⟩ := hn
    obtain ⟨k, rfl⟩ : ∃ k : Nat, n = k := ⟨n.toNat, by omega⟩
    go_enter Try.func11, Try.ntmps11
    go_wp2
    have hCw : w.heap.size ≠ H.q.g ∧ w.heap.size ≠ H.g ∧ H.pb ≠ H.q.g ∧ H.pb ≠ H.g := by
      obtain ⟨vt, al, ar, lab, b, hZ⟩ := H1.out
      have z1 := (hZ w.heap.size (.inr rfl)).2
      have z3 := b.l3
      have z6 := b.l6
      have z7 := b.l7
      refine ⟨fun e => ?_, fun e => ?_, fun e => ?_, fun e => ?_⟩
      · rw [e] at z1; omega
      · rw [e] at z1; omega
      · rw [e] at z7; omega
      · rw [e] at z7; omega
    obtain ⟨n1, n2, n3, n4⟩ := hCw
    generalize w.alloc (.cells #[.int .i64 5, .int .i64 (k : Int), .int .i64 m, .slice va vn vc] 30) = w1 at *
    go_quiet (fail)
    obtain ⟨w2, hw2⟩ : ∃ w2, w2 = w1.drewN nq := ⟨_, rfl⟩
    rw [← hw2]
    have hb2 : Below w1.heap.size w1 w2 := by rw [hw2]; exact below_drewN (Below.refl _ _) _
    clear hw2
    have h2 := H1.out.below hb2
    have e1' := cell_later hb2 e1
    have e2' := cell_later hb2 e2
    obtain ⟨d0, d1, d2, d3, d4, d5⟩ := h2.cells
    have hg := h2.poke1 k x HX.out
    obtain ⟨cg, fg⟩ : (∃ y, w2.cell? ⟨H.q.g, k, none⟩ = some (.int .u8 y)) ∧ w2.frozen? ⟨H.q.g, k, none⟩ = false := by
      obtain ⟨vt, al, ar, lab, b, hZ⟩ := h2
      exact ⟨⟨_, b.mem.cell (by omega)⟩, b.mem.frozen k⟩
    obtain ⟨y, cg⟩ := cg
    have hmS : Mods (fun b => b = H.q.g) w2 (w2.setCell ⟨H.q.g, k, none⟩ (.int .u8 x)) := (Mods.refl _ w2).setCell H.q.g k _ rfl
    have HS := hid (And.intro (hmS.cell d4 n3) (And.intro (hmS.cell e1' n1) (hmS.cell e2' n1)))
    have f1 := hmS.cell e1' n1
    have f2 := hmS.cell e2' n1
    have HG := hid hg
    clear e0 e1 e2 hb2 h2 hg hmS
    go_wp2
    go_region_held3 (fun w' => w'.cell? ⟨H.pb, 4, none⟩ = some (.slice (some ⟨H.q.g, 0, none⟩) H.q.N H.q.N) ∧ w'.cell? ⟨w.heap.size, 1, none⟩ = some (.int .i64 (k : Int)) ∧ w'.cell? ⟨w.heap.size, 2, none⟩ = some (.int .i64 m)) ((first | exact ⟨d4, e1', e2'⟩ | exact HS.out)) (fail)
    have h3 := HG.out.1.below ((Below.refl _ (w2.setCell ⟨H.q.g, k, none⟩ (.int .u8 x))).drew)
    have f1' : (w2.setCell ⟨H.q.g, k, none⟩ (.int .u8 x)).drew.cell? ⟨w.heap.size, 1, none⟩ = some (.int .i64 (k : Int)) := f1
    have f2' : (w2.setCell ⟨H.q.g, k, none⟩ (.int .u8 x)).drew.cell? ⟨w.heap.size, 2, none⟩ = some (.int .i64 m) := f2
    clear HG HS f1 f2 cg fg d0 d1 d2 d3 d4 d5 e1' e2'
    generalize (w2.setCell ⟨H.q.g, k, none⟩ (.int .u8 x)).drew = w3 at *
    obtain ⟨d0, d1, d2, d3, d4, d5⟩ := h3.cells
    have hg := h3.poke2 k x HX.out
    obtain ⟨cg, fg⟩ : (∃ y, w3.cell? ⟨H.g, k, none⟩ = some (.int .u8 y)) ∧ w3.frozen? ⟨H.g, k, none⟩ = false := by
      obtain ⟨vt, al, ar, lab, b, hZ⟩ := h3
      exact ⟨⟨_, b.rmem.cell (by omega)⟩, b.rmem.frozen k⟩
    obtain ⟨y, cg⟩ := cg
    have hmS : Mods (fun b => b = H.g) w3 (w3.setCell ⟨H.g, k, none⟩ (.int .u8 x)) := (Mods.refl _ w3).setCell H.g k _ rfl
    have HS := hid (And.intro (hmS.cell d5 n4) (And.intro (hmS.cell f1' n2) (hmS.cell f2' n2)))
    have HG := hid hg
    clear h3 hg hmS
    go_wp2
    go_region_held3 (fun w' => w'.cell? ⟨H.pb, 5, none⟩ = some (.slice (some ⟨H.g, 0, none⟩) H.q.N H.q.N) ∧ w'.cell? ⟨w.heap.size, 1, none⟩ = some (.int .i64 (k : Int)) ∧ w'.cell? ⟨w.heap.size, 2, none⟩ = some (.int .i64 m)) ((first | exact ⟨d5, f1', f2'⟩ | exact HS.out)) (fail)
    have H4 := hid (HG.out.1.below ((Below.refl _ (w3.setCell ⟨H.g, k, none⟩ (.int .u8 x))).drew))
    clear HG HS cg fg d0 d1 d2 d3 d4 d5 f1' f2'
    go_wp2
    go_ret
    exact ⟨rfl, _, T, (H4.out.count (Nat.le_succ c)).less (fun b hb => .inl hb), Nat.le_succ _⟩
  · have hcond : ¬ (0 ≤ n ∧ n < (H.q.N : Int)) := hn
    by_cases hn0 : 0 ≤ n
    · have hn1 : ¬ (n < (H.q.N : Int)) := fun e => hn ⟨hn0, e⟩
      have hn1b : decide (n < (H.q.N : Int)) = false := by simp; omega
      clear hn hcond
      go_enter Try.func11, Try.ntmps11
      go_wp2
      generalize w.alloc (.cells #[.int .i64 5, .int .i64 n, .int .i64 m, .slice va vn vc] 30) = w1 at *
      go_quiet (fail)
      go_wp2
      go_ret
      exact ⟨rfl, S, T, ((H1.out.below (below_drewN (Below.refl _ _) _)).count (Nat.le_succ c)).less (fun b hb => .inl hb), Nat.le_succ _⟩
    · have hn0b : decide (0 ≤ n) = false := by simp; omega
      have hn0c : n < 0 := by omega
      clear hn hcond
      go_enter Try.func11, Try.ntmps11
      go_wp2
      generalize w.alloc (.cells #[.int .i64 5, .int .i64 n, .int .i64 m, .slice va vn vc] 30) = w1 at *
      go_quiet (fail)
      go_wp2
      go_ret
      exact ⟨rfl, S, T, ((H1.out.below (below_drewN (Below.refl _ _) _)).count (Nat.le_succ c)).less (fun b hb => .inl hb), Nat.le_succ _⟩
end
end Go.Proofs.Ytjnhcbompgmknaa
