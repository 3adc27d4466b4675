/- The device: Give. The pieces that may not be. -/
import Derived.Test.YtpmbknlafeljlaaDevA
namespace Go.Proofs.Ytpmbknlafeljlaa
open Go.RowKit

def lenB (n : Int) : Bool := decide (0 ≤ n) && decide (n < 4294967296)
def Is64 (x : Int) : Prop := -9223372036854775808 ≤ x ∧ x < 9223372036854775808

set_option maxRecDepth 100000 in
set_option maxHeartbeats 400000 in
theorem isLength_any (w : World) (n : Int) (hn : Is64 n) : Calls Try.prog 46 #[.int .i64 n] w fun e w' => e = .returned (.bool (lenB n)) ∧ w' = w := by
  unfold Is64 at hn
  by_cases h : 0 ≤ n
  · have hw : IntKind.u64.wrap n = n := by rw [IntKind.wrap_u64]; omega
    go_enter Try.func46, Try.ntmps46
    go_wp2
    go_ret
    refine ⟨ret_bool ?_, rfl⟩
    simp [lenB, h]
    omega
  · go_enter Try.func46, Try.ntmps46
    go_wp2
    go_ret
    refine ⟨ret_bool ?_, rfl⟩
    simp [lenB]
    omega

def badB (b : Bf) : Bool := decide (b.addr < 0) || !lenB b.len
set_option maxRecDepth 100000 in
set_option maxHeartbeats 400000 in
theorem mayNotBe_any (w : World) (b : Bf) (hn : Is64 b.len) : Calls Try.prog 55 #[.agg #[.int .i64 b.addr, .int .i64 b.len, .bool b.wt]] w fun e w' => e = .returned (.bool (badB b)) ∧ Below w.heap.size w w' := by
  obtain ⟨addr, len, wt⟩ := b
  simp only [badB] at *
  have HN := hid hn
  clear hn
  by_cases h : addr < 0
  · go_enter Try.func55, Try.ntmps55
    go_wp2
    go_ret
    exact ⟨ret_bool (by simp [h]), (Below.refl _ _).alloc (Nat.le_refl _) _⟩
  · go_enter Try.func55, Try.ntmps55
    go_wp2_with (go_at_call 46; refine (isLength_any _ _ HN.out).mono ?_; rintro e w' ⟨rfl, hw⟩; rw [hw]; clear hw w')
    go_ret
    exact ⟨ret_bool (by simp; intro hh; omega), (Below.refl _ _).alloc (Nat.le_refl _) _⟩

def giveB (n : Nat) (hd len : Int) : Bool := decide (0 ≤ hd) && decide (hd < n) && lenB len
def given (f : Nat → Int) (pu n u : Nat) (hd len : Int) : Nat → Int := wr (wr (wr f (pu + (4 + u % n * 8)) 4 hd) (pu + (4 + u % n * 8) + 4) 4 len) (pu + 2) 2 ((u + 1) % 65536 : Nat)

set_option maxRecDepth 100000 in
set_option maxHeartbeats 1000000 in
theorem Give_bad (w : World) (pv : Nat) (q : Qu) (o u : Nat) (hdv : Dev w pv q o u) (hd len : Int) (hl : Is64 len) (hb : giveB q.n hd len = false) :
    Calls Try.prog 27 #[.pointer (some ⟨pv, 0, none⟩), .int .i64 hd, .int .i64 len] w fun e w' => e = .returned (.int .i64 1) ∧ w' = w := by
  obtain ⟨g, base, n, N, po, pu, Ld, Lo, Lu, geo⟩ := q
  obtain ⟨d0, _⟩ := hdv.cells
  simp only [giveB] at hb
  have HL := hid hl
  clear hdv hl
  by_cases h1 : hd < 0
  · clear hb
    go_enter Try.func27, Try.ntmps27
    go_wp2
    go_ret
    exact ⟨rfl, rfl⟩
  · by_cases h2 : (n : Int) ≤ hd
    · clear hb
      go_enter Try.func27, Try.ntmps27
      go_wp2
      go_ret
      exact ⟨rfl, rfl⟩
    · have h3 : lenB len = false := by
        simp [show 0 ≤ hd by omega, show hd < (n : Int) by omega] at hb
        exact hb
      have H3 := hid h3
      clear hb h3
      go_enter Try.func27, Try.ntmps27
      go_wp2_with (go_at_call 46; refine (isLength_any _ _ HL.out).mono ?_; rintro e w' ⟨rfl, hw⟩; rw [hw, H3.out]; clear hw w')
      go_ret
      exact ⟨rfl, rfl⟩

set_option maxRecDepth 100000 in
set_option maxHeartbeats 2000000 in
theorem Give_ok (w : World) (pv : Nat) (q : Qu) (o u : Nat) (f : Nat → Int) (hdv : Dev w pv q o u) (hm : Mem w q.g q.N f) (hd len : Int) (hb : giveB q.n hd len = true) :
    Calls Try.prog 27 #[.pointer (some ⟨pv, 0, none⟩), .int .i64 hd, .int .i64 len] w fun e w' => e = .returned (.int .i64 0) ∧ Mods (fun b => b = pv ∨ b = q.g) w w' ∧ Dev w' pv q o ((u + 1) % 65536) ∧ Mem w' q.g q.N (given f q.pu q.n u hd len) := by
  obtain ⟨g, base, n, N, po, pu, Ld, Lo, Lu, geo⟩ := q
  simp only [giveB, lenB, Bool.and_eq_true, decide_eq_true_eq] at hb
  obtain ⟨⟨h1, h2⟩, h3, h4⟩ := hb
  obtain ⟨d0, d1, d2, d3, d4, d5, d6, d7, d8, d9, _, _⟩ := hdv.cells
  have hu : u < 65536 := hdv.2.2.1
  have hne : pv ≠ g := hdv.2.2.2
  have hpl : pv < w.heap.size := hdv.lt
  have hn2 := geo.n2
  have h1' : ¬ (hd < 0) := by omega
  have h2' : ¬ ((n : Int) ≤ hd) := by omega
  have HLB : Hid (lenB len = true) := hid (by simp [lenB]; omega)
  have HD := hid hdv
  have HL : Hid (Is64 len) := hid ⟨by omega, by omega⟩
  have hcon := putUse_any w.drew g base n N po pu Ld Lo Lu u (u % n) hd len f hm geo rfl hu h1 (by omega) h3 h4
  rw [memV_eq] at hcon
  have HC := hid hcon
  have hw16 : IntKind.u16.wrap ((u : Int) + 1) = (((u + 1) % 65536 : Nat) : Int) := by rw [IntKind.wrap_u16]; omega
  have hu1 : (u + 1) % 65536 < 65536 := Nat.mod_lt _ (by omega)
  simp only [given]
  generalize hu1e : (u + 1) % 65536 = u1 at *
  clear hdv hm hcon hu1e
  go_enter Try.func27, Try.ntmps27
  go_wp2_with (go_at_call 46; refine (isLength_any _ _ HL.out).mono ?_; rintro e w' ⟨rfl, hw⟩; rw [hw, HLB.out]; clear hw w')
  go_region_held3 (fun w' => w'.cell? ⟨pv, 0, none⟩ = some (.int .i64 n) ∧ w'.cell? ⟨pv, 1, none⟩ = some (.slice (some ⟨g, base, none⟩) Ld Ld) ∧ w'.cell? ⟨pv, 2, none⟩ = some (.slice (some ⟨g, po, none⟩) Lo Lo) ∧ w'.cell? ⟨pv, 3, none⟩ = some (.int .i64 n) ∧ w'.cell? ⟨pv, 4, none⟩ = some (.int .i64 2) ∧ w'.cell? ⟨pv, 5, none⟩ = some (.slice (some ⟨g, pu, none⟩) Lu Lu) ∧ w'.cell? ⟨pv, 6, none⟩ = some (.int .i64 n) ∧ w'.cell? ⟨pv, 7, none⟩ = some (.int .i64 8) ∧ w'.cell? ⟨pv, 9, none⟩ = some (.int .u16 u)) ((first | exact ⟨d0, d1, d2, d3, d4, d5, d6, d7, d9⟩ | exact HS5.out))
    ((go_at_call 47; refine HC.out.mono ?_; rintro e w5 ⟨rfl, hm5, hmo5⟩; have HM5 := hid hm5; have HMO5 := hid hmo5; have HS5 := hid (And.intro (hmo5.cell (w := w.drew) d0 hne) (And.intro (hmo5.cell (w := w.drew) d1 hne) (And.intro (hmo5.cell (w := w.drew) d2 hne) (And.intro (hmo5.cell (w := w.drew) d3 hne) (And.intro (hmo5.cell (w := w.drew) d4 hne) (And.intro (hmo5.cell (w := w.drew) d5 hne) (And.intro (hmo5.cell (w := w.drew) d6 hne) (And.intro (hmo5.cell (w := w.drew) d7 hne) (hmo5.cell (w := w.drew) d9 hne))))))))); clear hm5 hmo5))
  have hdev5 := HD.out.mods (w' := w5) (al := fun b => b = g) ⟨HMO5.out.os, HMO5.out.tape, HMO5.out.output, HMO5.out.size, HMO5.out.block⟩ hne
  obtain ⟨_, _, _, _, _, _, _, _, _, d9, _, fz9⟩ := hdev5.cells
  have HD5 := hid hdev5
  clear hdev5 HS5
  go_wp2
  go_ret
  have hmo : Mods (fun b => b = pv ∨ b = g) w w5 := ⟨HMO5.out.os, HMO5.out.tape, HMO5.out.output, HMO5.out.size, fun b hb hn => HMO5.out.block b hb (fun e => hn (.inr e))⟩
  refine ⟨rfl, hmo.setCell pv 9 _ (.inl rfl), ⟨setc HD5.out.1 9 _, HD5.out.2.1, hu1, hne⟩, HM5.out.mods ((Mods.refl (fun b => b = pv) w5).setCell pv 9 _ rfl) (fun e => hne e.symm)⟩
end Go.Proofs.Ytpmbknlafeljlaa
