/- One call of both disks: what it leaves; Flush and Read. -/
import Derived.Test.YtdbpjdaaggenpaaRefL
import Derived.Test.YtdbpjdaaggenpaaWalkH
namespace Go.Proofs.Ytdbpjdaaggenpaa
open Go.RowKit

/-- Both disks hold A, each in blocks of its own. -/
def Pair (w : World) (pd px : Nat) (A : Abs) (n : Nat) (ald alx : Nat → Prop) : Prop := Disk w pd A n ald ∧ RDisk w px A n alx ∧ ∀ b, ald b → ¬ alx b
/-- What became of both. -/
def PStep (w w' : World) (pd px : Nat) (A : Abs) (n : Nat) (ald alx : Nat → Prop) : Prop :=
  ∃ ald' alx', Pair w' pd px A n ald' alx' ∧ (∀ b, ald' b ∨ alx' b → (ald b ∨ alx b) ∨ w.heap.size ≤ b) ∧ Mods (fun b => ald b ∨ alx b) w w'

theorem RDisk.mono {w : World} {px : Nat} {A : Abs} {n n' : Nat} {al : Nat → Prop} (h : RDisk w px A n al) (hn : n ≤ n') : RDisk w px A n' al :=
  let ⟨vL, es, d, h1, h2⟩ := h; ⟨vL, es, d, Nat.le_trans h1 hn, fun k => Nat.le_trans (h2 k) hn⟩
theorem Pair.below {w w' : World} {pd px : Nat} {A : Abs} {n : Nat} {ald alx : Nat → Prop} (h : Pair w pd px A n ald alx) (hb : Below w.heap.size w w') : Pair w' pd px A n ald alx := ⟨h.1.below hb, h.2.1.below hb, h.2.2⟩
theorem Pair.mono {w : World} {pd px : Nat} {A : Abs} {n n' : Nat} {ald alx : Nat → Prop} (h : Pair w pd px A n ald alx) (hn : n ≤ n') : Pair w pd px A n' ald alx := ⟨h.1.mono hn, h.2.1.mono hn, h.2.2⟩
theorem Mods.mono {al al' : Nat → Prop} {w w' : World} (h : Mods al w w') (ha : ∀ b, al b → al' b) : Mods al' w w' := ⟨h.os, h.tape, h.output, h.size, fun b hb hn => h.block b hb (fun h2 => hn (ha b h2))⟩
theorem PStep.of_below {w w' : World} {pd px : Nat} {A : Abs} {n : Nat} {ald alx : Nat → Prop} (h : Pair w pd px A n ald alx) (hb : Below w.heap.size w w') : PStep w w' pd px A n ald alx :=
  ⟨ald, alx, h.below hb, fun _ hb => .inl hb, Mods.of_below hb⟩

/-- First the one disk takes a step, then (nothing but new blocks having turned) the other one. -/
theorem PStep.both {w w1 w2 w3 : World} {pd px : Nat} {A A' : Abs} {n n' : Nat} {ald alx : Nat → Prop} (h : Pair w pd px A n ald alx) (h1 : Below w.heap.size w w1) {w1' : World} (hs : Step w1 w1' pd A' n' ald) {nb : Nat → Prop} (hm : Mods nb w1' w2) (hnb : ∀ b, nb b → w.heap.size ≤ b ∧ b < w1.heap.size)
    (hr : RDisk w2 px A n alx → RStep w2 w3 px A' n' alx) : PStep w w3 pd px A' n' ald alx := by
  obtain ⟨hd, hx, hap⟩ := h
  obtain ⟨ald1, hd1, hsub1, hmo1⟩ := hs
  have hx1 : RDisk w1' px A n alx := (hx.below h1).apart hmo1 (fun b hb hb2 => hap b hb2 hb)
  have hnx : ∀ b, alx b → ¬ nb b := fun b hb hb2 => by have := (hnb b hb2).1; have := hx.lt b hb; omega
  have hnd : ∀ b, ald1 b → ¬ nb b := fun b hb hb2 => by
    obtain ⟨h5, h6⟩ := hnb b hb2
    rcases hsub1 b hb with h3 | h3
    · have := hd.lt b h3; omega
    · omega
  have hx2 : RDisk w2 px A n alx := hx1.apart hm hnx
  have hd2 : Disk w2 pd A' n' ald1 := hd1.apart hm hnd
  obtain ⟨alx3, hx3, hsub3, hmo3⟩ := hr hx2
  have hap1 : ∀ b, ald1 b → ¬ alx b := fun b hb hb2 => by
    rcases hsub1 b hb with h3 | h3
    · exact hap b h3 hb2
    · have := hx.lt b hb2; have := h1.size; omega
  have hd3 : Disk w3 pd A' n' ald1 := hd2.apart hmo3 (fun b hb hb2 => hap1 b hb hb2)
  refine ⟨ald1, alx3, ⟨hd3, hx3, fun b hb hb2 => ?_⟩, fun b hb => ?_, ?_⟩
  · rcases hsub3 b hb2 with h3 | h3
    · exact hap1 b hb h3
    · have := hd2.lt b hb; omega
  · rcases hb with hb | hb
    · rcases hsub1 b hb with h3 | h3
      · exact .inl (.inl h3)
      · right; have := h1.size; omega
    · rcases hsub3 b hb with h3 | h3
      · exact .inl (.inr h3)
      · right; have := h1.size; have := hmo1.size; have := hm.size; omega
  · have m1 : Mods (fun b => ald b ∨ alx b) w w1' := (Mods.of_below h1).trans hmo1 (fun b hb => .inl (.inl hb))
    have m2 := m1.trans hm (fun b hb => .inr (hnb b hb).1)
    exact m2.trans hmo3 (fun b hb => .inl (.inr hb))

theorem RStep.mono {w w' : World} {px : Nat} {A : Abs} {n n' : Nat} {al : Nat → Prop} (h : RStep w w' px A n al) (hn : n ≤ n') : RStep w w' px A n' al := let ⟨al', h1, h2, h3⟩ := h; ⟨al', h1.mono hn, h2, h3⟩
theorem Pair.other {w w1 w1' : World} {pd px : Nat} {A A' : Abs} {n n' : Nat} {ald alx : Nat → Prop} (h : Pair w pd px A n ald alx) (h1 : Below w.heap.size w w1) (hs : Step w1 w1' pd A' n' ald) : RDisk w1' px A n alx :=
  let ⟨_, _, _, hmo⟩ := hs; (h.2.1.below h1).apart hmo (fun b hb hb2 => h.2.2 b hb2 hb)

/-- A call as it is handed over. -/
def clV (c : Cl) : Value := .agg #[.int .i64 c.kind, .int .i64 c.at_, .int .i64 c.n, .int .u8 c.b, .slice c.pa c.pl.length c.pc]

set_option maxRecDepth 100000 in
set_option maxHeartbeats 1000000 in
theorem done_flush (w : World) (pd px : Nat) (A : Abs) (n : Nat) (ald alx : Nat → Prop) (hp : Pair w pd px A n ald alx) (hn : n ≤ 274877906944) (c : Cl) (hk : c.kind = 3) :
    Calls Try.prog 11 #[.pointer (some ⟨pd, 0, none⟩), .pointer (some ⟨px, 0, none⟩), clV c] w fun e w' => e = .returned (.bool true) ∧ ∃ A', A'.N = A.N ∧ PStep w w' pd px A' (n + 65536) ald alx := by
  unfold clV
  rw [hk]
  have HP := hid hp
  have hb0 : Below w.heap.size w (w.alloc (.cells #[.int .i64 3, .int .i64 c.at_, .int .i64 c.n, .int .u8 c.b, .slice c.pa c.pl.length c.pc] 34)) := (Below.refl _ w).alloc (Nat.le_refl _) _
  have HB0 := hid hb0
  clear hp hk hb0
  go_enter Try.func11, Try.ntmps11
  go_wp2_with fail
  refine (Flush_any _ pd A n ald (HP.out.below HB0.out).1 (by omega)).mono ?_
  rintro e w1 ⟨rfl, hst⟩
  have HX := hid (HP.out.other HB0.out hst)
  have HS := hid hst
  clear hst
  go_wp2_with fail
  refine (RFlush_any w1 px A n alx HX.out (by omega)).mono ?_
  rintro e w2 ⟨rfl, hrs⟩
  have HR := hid hrs
  clear hrs
  go_wp2
  go_ret
  exact ⟨rfl, { A with P := lastOf A, V := fun _ => [] }, rfl, PStep.both HP.out HB0.out HS.out (Mods.refl (fun _ => False) w1) (fun _ h => h.elim) (fun _ => HR.out.mono (by omega))⟩

theorem Fresh.mine {w : World} {g M : Nat} {l : List Int} (h : Fresh w g l) (hl : l.length = M) : Mine w (.slice (some ⟨g, 0, none⟩) M M) l := by
  subst hl; exact h

/-- What Read tells, on both disks. -/
theorem both_read (w : World) (pd px : Nat) (A : Abs) (n : Nat) (ald alx : Nat → Prop) (hp : Pair w pd px A n ald alx) (hn : n ≤ 274877906944) (at_ q : Int) (hq : q ≤ 200) :
    ∃ (er : Int) (l : List Int), Hid (Calls Try.prog 19 #[.pointer (some ⟨pd, 0, none⟩), .int .i64 at_, .int .i64 q] w fun e w' => ∃ v, e = .returned (.tuple #[v, .int .i64 er]) ∧ Below w.heap.size w w' ∧ Mine w' v l) ∧
      Hid (∀ w1, Below w.heap.size w w1 → Calls Try.prog 26 #[.pointer (some ⟨px, 0, none⟩), .int .i64 at_, .int .i64 q] w1 fun e w' => ∃ v, e = .returned (.tuple #[v, .int .i64 er]) ∧ Below w1.heap.size w1 w' ∧ Mine w' v l) := by
  cases hh : hasB A.N at_ q with
  | true =>
    obtain ⟨m, rfl⟩ : ∃ m : Nat, q = (m : Int) := ⟨q.toNat, by unfold hasB at hh; simp at hh; omega⟩
    refine ⟨0, readTo A at_ m, hid ?_, hid fun w1 hb => RRead_any w1 px A n alx (hp.below hb).2.1 (by omega) at_ m (by omega) hh⟩
    refine (read_f w pd A n ald hp.1 at_ m (m * 512) rfl (by omega) hh).mono ?_
    rintro e w' ⟨rfl, h1, h2, h3⟩
    exact ⟨_, rfl, h1, h2.mine h3⟩
  | false =>
    refine ⟨1, [], hid ?_, hid fun w1 hb => ?_⟩
    · refine (Read_err w pd A n ald hp.1 at_ q (by omega) hh).mono ?_
      rintro e w' ⟨rfl, rfl⟩
      exact ⟨_, rfl, Below.refl _ _, Mine.nil_ _⟩
    · refine (RRead_err w1 px A n alx (hp.below hb).2.1 at_ q hh).mono ?_
      rintro e w' ⟨rfl, rfl⟩
      exact ⟨_, rfl, Below.refl _ _, Mine.nil_ _⟩

set_option maxRecDepth 100000 in
set_option maxHeartbeats 2000000 in
theorem done_read (w : World) (pd px : Nat) (A : Abs) (n : Nat) (ald alx : Nat → Prop) (hp : Pair w pd px A n ald alx) (hn : n ≤ 274877906944) (c : Cl) (hk1 : c.kind ≠ 1) (hk3 : c.kind ≠ 3) (hk4 : c.kind ≠ 4) :
    Calls Try.prog 11 #[.pointer (some ⟨pd, 0, none⟩), .pointer (some ⟨px, 0, none⟩), clV c] w fun e w' => e = .returned (.bool true) ∧ Below w.heap.size w w' := by
  unfold clV
  obtain ⟨kd, at_, cn, cb, pa, pc, pl⟩ := c
  simp only at hk1 hk3 hk4 ⊢
  have hb0 : Below w.heap.size w (w.alloc (.cells #[.int .i64 kd, .int .i64 at_, .int .i64 cn, .int .u8 cb, .slice pa pl.length pc] 34)) := (Below.refl _ w).alloc (Nat.le_refl _) _
  have HP := hid (hp.below hb0)
  have HB0 := hid hb0
  have hcell : (w.alloc (.cells #[.int .i64 kd, .int .i64 at_, .int .i64 cn, .int .u8 cb, .slice pa pl.length pc] 34)).cell? ⟨w.heap.size, 1, none⟩ = some (.int .i64 at_) := by
    have := (MapKept.heap_alloc w (.cells #[.int .i64 kd, .int .i64 at_, .int .i64 cn, .int .u8 cb, .slice pa pl.length pc] 34)).1
    simp only [World.cell?, this]
    rfl
  have HC := hid hcell
  clear hp hb0 hcell
  by_cases h2 : 200 < cn
  · obtain ⟨er, l, hrd, hrx⟩ := both_read _ pd px A n ald alx HP.out hn at_ 200 (by omega)
    clear hn
    go_enter Try.func11, Try.ntmps11
    go_wp2_with fail
    refine hrd.out.mono ?_
    rintro e w1 ⟨v1, rfl, hb1, hm1⟩
    have HB1 := hid hb1
    have HM1 := hid hm1
    have hc1 := cell_later hb1 HC.out
    clear hb1 hm1
    go_wp2_with fail
    refine (hrx.out w1 HB1.out).mono ?_
    rintro e w2 ⟨v2, rfl, hb2, hm2⟩
    have hcv1 := (HM1.out.keep hb2).conv
    have hcv2 := hm2.conv
    have HB2 := hid (HB1.out.trans (hb2.mono HB1.out.size))
    clear hb2 hm2
    go_wp2
    go_ret
    exact ⟨by simp, HB0.out.trans (HB2.out.mono HB0.out.size)⟩
  · obtain ⟨er, l, hrd, hrx⟩ := both_read _ pd px A n ald alx HP.out hn at_ cn (by omega)
    clear hn
    go_enter Try.func11, Try.ntmps11
    go_wp2_with fail
    refine hrd.out.mono ?_
    rintro e w1 ⟨v1, rfl, hb1, hm1⟩
    have HB1 := hid hb1
    have HM1 := hid hm1
    have hc1 := cell_later hb1 HC.out
    clear hb1 hm1
    go_wp2_with fail
    refine (hrx.out w1 HB1.out).mono ?_
    rintro e w2 ⟨v2, rfl, hb2, hm2⟩
    have hcv1 := (HM1.out.keep hb2).conv
    have hcv2 := hm2.conv
    have HB2 := hid (HB1.out.trans (hb2.mono HB1.out.size))
    clear hb2 hm2
    go_wp2
    go_ret
    exact ⟨by simp, HB0.out.trans (HB2.out.mono HB0.out.size)⟩
end Go.Proofs.Ytdbpjdaaggenpaa
