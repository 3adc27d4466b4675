/- One call of both disks: Crash. -/
import Derived.Test.YtdbpjdaaggenpaaRefN
namespace Go.Proofs.Ytdbpjdaaggenpaa
open Go.RowKit

theorem append_nothing (w : World) (ty : TypeId) (g : Nat) (a : Option Addr) (k : Nat) :
    (Builtin.append_ #[32, 32] ty #[.slice (some ⟨g, 0, none⟩) 0 0, .slice a 0 k]).run Try.prog w = .ok (.slice (some ⟨g, 0, none⟩) 0 0) w := by
  obtain ⟨i0, hi, _, hz1, _⟩ := info3b
  cases a with
  | none => simp [Builtin.append_, run_underlying Try.underlying32, sizeOf, typeInfo, hi, Builtin.lenOf, Builtin.firstCells, storeCells]
  | some a =>
    have := run_firstCells_some (P := Try.prog) w 1 0 a 0 k [] (by simp) (by simp)
    simp [Builtin.append_, run_underlying Try.underlying32, sizeOf, typeInfo, hi, hz1, Builtin.lenOf, this, storeCells]
theorem own_empty3 (w : World) : (w.alloc (.cells #[] 3)).ownsRow w.heap.size 3 1 (.slice (some ⟨w.heap.size, 0, none⟩) 0 0) 0 [] :=
  ⟨rfl, .inr ⟨w.heap.size, 0, #[], rfl, Nat.le_refl _, (MapKept.heap_alloc w _).1, Nat.le_refl _, by unfold maxLen; omega, rfl, rfl⟩⟩

/-- The picks, copied. -/
theorem copy_picks (w : World) (pa : Option Addr) (pc : Nat) (pl : List Int) (hp : Ints w pa pl) (hl : pl.length * 8 ≤ 140737488355328) :
    ∃ ap cp wp, (Builtin.append_ #[32, 32] 32 #[.slice (some ⟨w.heap.size, 0, none⟩) 0 0, .slice pa pl.length pc]).run Try.prog (w.alloc (.cells #[] 3)) = .ok (.slice ap pl.length cp) wp ∧ Below w.heap.size w wp ∧ Hid (Ints wp ap pl) ∧ Hid (∀ b off, ap = some ⟨b, off, none⟩ → w.heap.size ≤ b ∧ b < wp.heap.size) := by
  have hba : Below w.heap.size w (w.alloc (.cells #[] 3)) := (Below.refl _ w).alloc (Nat.le_refl _) _
  by_cases h0 : pl = []
  · subst h0
    refine ⟨some ⟨w.heap.size, 0, none⟩, 0, w.alloc (.cells #[] 3), append_nothing _ _ _ _ _, hba, hid (fun i hi => by simp at hi), hid (fun b off e => ?_)⟩
    simp only [Option.some.injEq, Addr.mk.injEq] at e
    obtain ⟨rfl, _⟩ := e
    exact ⟨Nat.le_refl _, by simp⟩
  · have hpos := List.length_pos_iff.2 h0
    obtain ⟨b, off, rfl, _, _⟩ := hp 0 hpos
    obtain ⟨i0, hi, hz0, hz1, hz2⟩ := info3b
    obtain ⟨v', wp, hr, ho, hg, _, _⟩ := run_append_own_at (P := Try.prog) (w.alloc (.cells #[] 3)) w.heap.size 32 32 3 i0 (.int .i64 0) 1 8 Try.underlying32 hi hz0 hz1 hz2 rfl (by decide) _ _ _ (own_empty3 w) ⟨b, off, none⟩ pl.length pc (pl.map encZ) (by simp) (fun j u hj => by
      rw [add_addr]
      rw [List.getElem?_map] at hj
      simp only [Option.map_eq_some_iff] at hj
      obtain ⟨y, hy, rfl⟩ := hj
      have hj2 := (List.getElem?_eq_some_iff.1 hy).1
      obtain ⟨b2, o2, e2, hc, _⟩ := hp j hj2
      simp only [Option.some.injEq, Addr.mk.injEq, and_true] at e2
      obtain ⟨rfl, rfl⟩ := e2
      rw [show pl.getD j 0 = y by simp [List.getD, hy]] at hc
      exact cell_later hba hc) (by intro u hu; simp at hu; obtain ⟨y, _, rfl⟩ := hu; rfl) (by unfold maxLen; omega) (by omega) (by simp)
    rw [List.nil_append, Nat.zero_add] at ho
    obtain ⟨ap, cp, rfl, h1, h2⟩ := ints_of_owns ho (fun x hx => by
      obtain ⟨i, hi2, rfl⟩ := List.getElem_of_mem hx
      obtain ⟨_, _, _, _, h3⟩ := hp i hi2
      simpa [List.getD, hi2] using h3)
    refine ⟨ap, cp, wp, hr, hba.grown hg (by simp) (fun g e => (owns_lt (own_empty3 w) e).2), hid h1, hid h2⟩

theorem PStep.below {w w1 w2 : World} {pd px : Nat} {A : Abs} {n : Nat} {ald alx : Nat → Prop} (h : PStep w w1 pd px A n ald alx) (hb : Below w1.heap.size w1 w2) : PStep w w2 pd px A n ald alx :=
  let ⟨a, b, h1, h2, h3⟩ := h; ⟨a, b, h1.below hb, h2, h3.trans (Mods.of_below (al := fun _ => False) hb) (fun _ h => h.elim)⟩

set_option maxRecDepth 100000 in
set_option maxHeartbeats 4000000 in
theorem done_crash (w : World) (pd px : Nat) (A : Abs) (n : Nat) (ald alx : Nat → Prop) (hp : Pair w pd px A n ald alx) (hn : n ≤ 274877906944) (c : Cl) (hk : c.kind = 4) (hi : Ints w c.pa c.pl) (hl : c.pl.length * 8 ≤ 140737488355328) (ho : Off (fun b => ald b ∨ alx b) w c.pa c.pl) :
    Calls Try.prog 11 #[.pointer (some ⟨pd, 0, none⟩), .pointer (some ⟨px, 0, none⟩), clV c] w fun e w' => e = .returned (.bool true) ∧ ∃ A', A'.N = A.N ∧ PStep w w' pd px A' (n + 65536) ald alx := by
  unfold clV
  rw [hk]
  obtain ⟨kd, at_, cn, cb, pa, pc, pl⟩ := c
  simp only at hi hl ho ⊢
  clear hk
  have hb0 : Below w.heap.size w (w.alloc (.cells #[.int .i64 4, .int .i64 at_, .int .i64 cn, .int .u8 cb, .slice pa pl.length pc] 34)) := (Below.refl _ w).alloc (Nat.le_refl _) _
  have hbox := (MapKept.heap_alloc w (.cells #[.int .i64 4, .int .i64 at_, .int .i64 cn, .int .u8 cb, .slice pa pl.length pc] 34)).1
  have HSB : Hid (∀ w' : World, w'.heap[w.heap.size]? = some (.cells #[.int .i64 4, .int .i64 at_, .int .i64 cn, .int .u8 cb, .slice pa pl.length pc] 34 (0, 0)) → w'.cell? ⟨w.heap.size, 4, none⟩ = some (.slice pa pl.length pc)) := hid fun w' h => by
    simp only [World.cell?, h]; rfl
  have hsz0 : (w.alloc (.cells #[.int .i64 4, .int .i64 at_, .int .i64 cn, .int .u8 cb, .slice pa pl.length pc] 34)).heap.size = w.heap.size + 1 := by simp
  obtain ⟨ap, cp, wp, hr, hbp, HIp, HLp⟩ := copy_picks (w.alloc (.cells #[.int .i64 4, .int .i64 at_, .int .i64 cn, .int .u8 cb, .slice pa pl.length pc] 34)) pa pc pl (hi.below hb0) hl
  have HBp : Hid (Below w.heap.size w wp) := hid (hb0.trans (hbp.mono (by omega)))
  have HBoxp : Hid (wp.heap[w.heap.size]? = some (.cells #[.int .i64 4, .int .i64 at_, .int .i64 cn, .int .u8 cb, .slice pa pl.length pc] 34 (0, 0))) := hid ((hbp.block _ (by omega)).trans hbox)
  have hbxlt : w.heap.size < wp.heap.size := (Array.getElem?_eq_some_iff.1 HBoxp.out).1
  have hcb : ((w.alloc (.cells #[.int .i64 4, .int .i64 at_, .int .i64 cn, .int .u8 cb, .slice pa pl.length pc] 34)).alloc (.cells #[] 3)).cell? ⟨w.heap.size, 4, none⟩ = some (.slice pa pl.length pc) := HSB.out _ ((Below.heap_alloc _ _ _ (by omega)).trans hbox)
  rw [hsz0] at hr HLp
  have HP := hid hp
  have HI := hid hi
  have HO := hid ho
  have hml : pl.length ≤ maxLen := by unfold maxLen; omega
  have hSp := HSB.out wp.drew HBoxp.out
  have HOd : Hid (Off ald wp.drew ap pl) := hid fun b off e h0 => by
    have := HLp.out b off e
    exact ⟨this.2, fun h => by have := HP.out.1.lt b h; omega⟩
  have hcr := hid (Crash_any wp.drew pd A n ald (HP.out.below (HBp.out.drew)).1 (by omega) ap cp pl (HIp.out.below (Below.drew (Below.refl _ wp))) HOd.out)
  clear hp hi ho hb0 hbox hbp hsz0
  go_enter Try.func11, Try.ntmps11
  go_wp2_with (at_builtin; refine wpList_append_run rfl _ _ 32 rfl rfl rfl hr ?_)
  go_region_held3 (fun w' => w'.cell? ⟨w.heap.size, 4, none⟩ = some (.slice pa pl.length pc)) ((first | exact hSp | exact hS2 | exact hS3 | exact hS4))
    ((first
      | (go_at_call 18; refine hcr.out.mono ?_; rintro e w2 ⟨L, hL, rfl, hst⟩; have HS := hid hst; have HL := hid hL; have HX2 := hid (HP.out.other (HBp.out.drew) hst); have HBox2 := hid (show w2.heap[w.heap.size]? = some (.cells #[.int .i64 4, .int .i64 at_, .int .i64 cn, .int .u8 cb, .slice pa pl.length pc] 34 (0, 0)) from (by obtain ⟨_, _, _, hm2⟩ := hst; exact (hm2.block _ hbxlt (fun h => by have := HP.out.1.lt _ h; omega)).trans HBoxp.out)); have hS2 := HSB.out w2 HBox2.out; have HI2 := hid (show Ints w2 pa pl from (by obtain ⟨_, _, _, hm2⟩ := hst; exact ((HI.out.below (HBp.out.drew)).mods (fun b off e h0 => ⟨Nat.lt_of_lt_of_le (HO.out b off e h0).1 HBp.out.size, fun h => (HO.out b off e h0).2 (.inl h)⟩) hm2))); have HIp2 := hid (show Ints w2 ap pl from (by obtain ⟨_, _, _, hm2⟩ := hst; exact (Ints.mods (w := wp.drew) HIp.out HOd.out hm2))); have hlt2 := hid (show wp.heap.size ≤ w2.heap.size from (by obtain ⟨_, _, _, hm2⟩ := hst; exact hm2.size)); have hrc := hid (RCrash_any w2 px A n alx HX2.out (by omega) pa pc pl HI2.out (fun b off e h0 => ⟨Nat.lt_of_lt_of_le (HO.out b off e h0).1 (Nat.le_trans HBp.out.size hlt2.out), fun h => (HO.out b off e h0).2 (.inr h)⟩)); clear hst hL)
      | (go_at_call 24; refine hrc.out.mono ?_; rintro e w3 ⟨L3, hL3, rfl, hrs⟩; have e3 := hL3.same HL.out; subst e3; have hS3 := HSB.out w3 (by obtain ⟨_, _, _, hm3⟩ := hrs; exact (hm3.block _ (Array.getElem?_eq_some_iff.1 HBox2.out).1 (fun h => by have := HP.out.2.1.lt _ h; omega)).trans HBox2.out); have hsi := hid (sameInts_any w3 ap pa cp pc pl (by obtain ⟨_, _, _, hm3⟩ := hrs; exact HIp2.out.mods (fun b off e h0 => ⟨Nat.lt_of_lt_of_le (HLp.out b off e).2 hlt2.out, fun h => by have := (HLp.out b off e).1; have := HP.out.2.1.lt _ h; omega⟩) hm3) (by obtain ⟨_, _, _, hm3⟩ := hrs; exact HI2.out.mods (fun b off e h0 => ⟨Nat.lt_of_lt_of_le (HO.out b off e h0).1 (Nat.le_trans HBp.out.size hlt2.out), fun h => (HO.out b off e h0).2 (.inr h)⟩) hm3) hml); have HR := hid hrs; clear hL3 hrs)
      | (go_at_call 25; refine hsi.out.mono ?_; rintro e w4 ⟨rfl, hb4⟩; have hS4 := cell_later hb4 hS3; have HB4 := hid hb4; clear hb4)))
  go_wp2
  go_ret
  refine ⟨by simp, { A with P := crashTo A L3 pl (min L3.length pl.length), V := fun _ => [] }, rfl, PStep.below (PStep.both HP.out (HBp.out.drew) HS.out (Mods.refl (fun _ => False) w2) (fun _ h => h.elim) (fun _ => HR.out.mono (by omega))) HB4.out⟩
end Go.Proofs.Ytdbpjdaaggenpaa
