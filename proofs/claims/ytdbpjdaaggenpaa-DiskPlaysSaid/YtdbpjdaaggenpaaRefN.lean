/- One call of both disks: Write. -/
import Derived.Test.YtdbpjdaaggenpaaRefM
namespace Go.Proofs.Ytdbpjdaaggenpaa
open Go.RowKit

/-- A row of bytes that is being blotted out. -/
def Blot (w : World) (a : Option Addr) (M : Nat) : Prop := 0 < M → ∃ g, a = some ⟨g, 0, none⟩ ∧ ∃ cur, w.heap[g]? = some (.cells cur 5 (0, 0)) ∧ M ≤ cur.size
theorem Blot.of_owns {w : World} {base : Nat} {a : Option Addr} {M cap : Nat} {xs : List Value} (h : w.ownsRow base 5 1 (.slice a M cap) M xs) : Blot w a M := fun h0 => by
  rcases h.2 with ⟨_, h1⟩ | ⟨g, c, cur, e, _, hh, h2, _, h3, _⟩
  · omega
  · simp only [Value.slice.injEq] at e
    obtain ⟨rfl, _, rfl⟩ := e
    exact ⟨g, rfl, cur, hh, by omega⟩
theorem Blot.keep {w w' : World} {a : Option Addr} {M : Nat} (h : Blot w a M) (hk : ∀ g, a = some ⟨g, 0, none⟩ → 0 < M → w'.heap[g]? = w.heap[g]?) : Blot w' a M := fun h0 => by
  obtain ⟨g, rfl, cur, h1, h2⟩ := h h0
  exact ⟨g, rfl, cur, (hk g rfl h0).trans h1, h2⟩

set_option maxRecDepth 100000 in
set_option maxHeartbeats 4000000 in
theorem done_write_gen (w : World) (pd px : Nat) (A : Abs) (n : Nat) (ald alx : Nat → Prop) (hp : Pair w pd px A n ald alx) (at_ cn cb : Int) (pv : Value) (hpv : ∃ pa pl pc, pv = .slice pa pl pc) (M : Nat) (hM : M ≤ 16384) (data : List Int) (E : Int) (A' : Abs) (n' : Nat)
    (h15 : ∀ W, Calls Try.prog 15 #[.int .u8 cb, .int .i64 cn] W fun e W' => ∃ a cap, e = .returned (.slice a M cap) ∧ W'.ownsRow W.heap.size 5 1 (.slice a M cap) M (data.map fun x => Value.int .u8 x) ∧ Below W.heap.size W W')
    (h14 : ∀ W a cap, Disk W pd A n ald → W.ownsRow 0 5 1 (.slice a M cap) M (data.map fun x => Value.int .u8 x) → (∀ g, (Value.slice a M cap).ownBlock = some g → ¬ ald g) → Calls Try.prog 14 #[.pointer (some ⟨pd, 0, none⟩), .int .i64 at_, .slice a M cap] W fun e W' => e = .returned (.int .i64 E) ∧ Step W W' pd A' n' ald)
    (h22 : ∀ W a cap, RDisk W px A n alx → W.ownsRow 0 5 1 (.slice a M cap) M (data.map fun x => Value.int .u8 x) → (∀ g, (Value.slice a M cap).ownBlock = some g → ¬ alx g) → Calls Try.prog 22 #[.pointer (some ⟨px, 0, none⟩), .int .i64 at_, .slice a M cap] W fun e W' => e = .returned (.int .i64 E) ∧ RStep W W' px A' n' alx) :
    Calls Try.prog 11 #[.pointer (some ⟨pd, 0, none⟩), .pointer (some ⟨px, 0, none⟩), .agg #[.int .i64 1, .int .i64 at_, .int .i64 cn, .int .u8 cb, pv]] w fun e w' => e = .returned (.bool true) ∧ PStep w w' pd px A' n' ald alx := by
  obtain ⟨pa, pl, pc, rfl⟩ := hpv
  have hb0 : Below w.heap.size w (w.alloc (.cells #[.int .i64 1, .int .i64 at_, .int .i64 cn, .int .u8 cb, .slice pa pl pc] 34)) := (Below.refl _ w).alloc (Nat.le_refl _) _
  have hbox := (MapKept.heap_alloc w (.cells #[.int .i64 1, .int .i64 at_, .int .i64 cn, .int .u8 cb, .slice pa pl pc] 34)).1
  have HSB : Hid (∀ w' : World, w'.heap[w.heap.size]? = some (.cells #[.int .i64 1, .int .i64 at_, .int .i64 cn, .int .u8 cb, .slice pa pl pc] 34 (0, 0)) →
      w'.cell? ⟨w.heap.size, 1, none⟩ = some (.int .i64 at_) ∧ w'.cell? ⟨w.heap.size, 2, none⟩ = some (.int .i64 cn) ∧ w'.cell? ⟨w.heap.size, 3, none⟩ = some (.int .u8 cb)) := hid fun w' h => by
    refine ⟨?_, ?_, ?_⟩ <;> (simp only [World.cell?, h]; rfl)
  have hsz0 : (w.alloc (.cells #[.int .i64 1, .int .i64 at_, .int .i64 cn, .int .u8 cb, .slice pa pl pc] 34)).heap.size = w.heap.size + 1 := by simp
  have HSz := hid hsz0
  have HP := hid hp
  have HB0 := hid hb0
  have HBox := hid hbox
  have H15 := hid h15
  have H14 := hid h14
  have H22 := hid h22
  clear hp hb0 hbox h15 h14 h22 hsz0
  go_enter Try.func11, Try.ntmps11
  go_wp2_with fail
  refine (H15.out _).mono ?_
  rintro e w1 ⟨a1, cap1, rfl, ho1, hb1⟩
  have HO1 := hid ho1
  have HB01 := hid (HB0.out.trans (hb1.mono (by rw [HSz.out]; omega)))
  have HBox1 : Hid (w1.heap[w.heap.size]? = some (.cells #[.int .i64 1, .int .i64 at_, .int .i64 cn, .int .u8 cb, .slice pa pl pc] 34 (0, 0))) := hid ((hb1.block _ (by rw [HSz.out]; omega)).trans HBox.out)
  obtain ⟨hca, _, _⟩ := HSB.out w1 HBox1.out
  have HOn : Hid (∀ g, (Value.slice a1 M cap1).ownBlock = some g → w.heap.size + 1 ≤ g ∧ g < w1.heap.size) := hid fun g hg => by have := owns_lt ho1 hg; rw [HSz.out] at this; exact ⟨this.2, this.1⟩
  clear ho1 hb1
  have h14' := hid (H14.out w1 a1 cap1 (HP.out.below HB01.out).1 (owns_base0 HO1.out) (fun g hg h => by have := (HOn.out g hg).1; have := HP.out.1.lt g h; omega))
  go_wp2_with fail
  refine h14'.out.mono ?_
  rintro e w2 ⟨rfl, hst⟩
  have HS := hid hst
  have HX2 := hid (HP.out.other HB01.out hst)
  have HBox2 : Hid (w2.heap[w.heap.size]? = some (.cells #[.int .i64 1, .int .i64 at_, .int .i64 cn, .int .u8 cb, .slice pa pl pc] 34 (0, 0))) := hid (by
    obtain ⟨_, _, _, hmo⟩ := hst
    exact (hmo.block _ (by have := HB01.out.size; have := (Array.getElem?_eq_some_iff.1 HBox1.out).1; omega) (fun h => by have := HP.out.1.lt _ h; omega)).trans HBox1.out)
  have HBl2 : Hid (Blot w2 a1 M) := hid ((Blot.of_owns HO1.out).keep (fun g e h0 => by
    obtain ⟨_, _, _, hmo⟩ := hst
    have hg : (Value.slice a1 M cap1).ownBlock = some g := by rw [e]; rfl
    have := HOn.out g hg
    exact hmo.block g this.2 (fun h => by have := HP.out.1.lt _ h; omega)))
  clear hst hca
  go_wp2_with fail
  go_loopw [9] (fun i wr => ∃ k : Nat, k ≤ M ∧ i = .int .i64 k ∧ Blot wr a1 M ∧ Mods (fun b => (Value.slice a1 M cap1).ownBlock = some b) w2 wr) (fun i _ => M - (RowKit.intOf i).toNat)
  case atStart => exact ⟨0, Nat.zero_le _, rfl, HBl2.out, Mods.refl _ _⟩
  case round =>
    obtain ⟨k, hk, rfl, hbl, hmo⟩ := hrel
    by_cases hlt : k < M
    · have hki : (k : Int) < (M : Int) := by omega
      obtain ⟨g, rfl, cur, hcur, hcs⟩ := hbl (by omega)
      have hcell : ∃ v, wr.cell? ⟨g, k, none⟩ = some v := ⟨cur[k]'(by omega), by simp [World.cell?, hcur, show k < cur.size by omega]⟩
      obtain ⟨v, hcell⟩ := hcell
      have hfz : wr.frozen? ⟨g, k, none⟩ = false := by simp [World.frozen?, hcur]
      have HFin : Hid (Blot (wr.setCell ⟨g, k, none⟩ (.int .u8 238)) (some ⟨g, 0, none⟩) M ∧ Mods (fun b => (Value.slice (some ⟨g, 0, none⟩) M cap1).ownBlock = some b) w2 (wr.setCell ⟨g, k, none⟩ (.int .u8 238))) := hid ⟨fun _ => ⟨g, rfl, cur.setIfInBounds k (.int .u8 238), by
          have hl : g < wr.heap.size := (Array.getElem?_eq_some_iff.1 hcur).1
          have h' : wr.heap[g] = .cells cur 5 (0, 0) := (Array.getElem?_eq_some_iff.1 hcur).2
          simp [World.setCell, hl, Array.getElem_modify, h'], by simpa using hcs⟩, hmo.set (g := g) (show (Value.slice (some ⟨g, 0, none⟩) M cap1).ownBlock = some g from rfl) _⟩
      clear hbl hmo hcur hcs
      go_wp2
      go_roundw
      case rel => exact ⟨k + 1, by omega, by go_num, HFin.out.1, HFin.out.2⟩
      case measure => simp [RowKit.intOf]; omega
    · have hki : ¬ ((k : Int) < (M : Int)) := by omega
      have HMo := hid hmo
      obtain ⟨w3, rfl⟩ : ∃ w3, w3 = wr := ⟨_, rfl⟩
      have HBox3 : Hid (w3.heap[w.heap.size]? = some (.cells #[.int .i64 1, .int .i64 at_, .int .i64 cn, .int .u8 cb, .slice pa pl pc] 34 (0, 0))) := hid
        ((hmo.block _ (Array.getElem?_eq_some_iff.1 HBox2.out).1 (fun h => by have := (HOn.out _ h).1; omega)).trans HBox2.out)
      have HX3 : Hid (RDisk w3 px A n alx) := hid (HX2.out.apart hmo (fun b hb h => by have := (HOn.out _ h).1; have := HP.out.2.1.lt b hb; omega))
      have hS3 := HSB.out w3.drew HBox3.out
      have hxlt : Hid (∀ b, alx b → b < w3.heap.size) := hid HX3.out.lt
      have hbxlt : w.heap.size < w3.heap.size := (Array.getElem?_eq_some_iff.1 HBox3.out).1
      have h15' := hid (H15.out w3.drew)
      clear hbl hmo
      go_wp2_with fail
      go_region_held3 (fun w' => w'.cell? ⟨w.heap.size, 1, none⟩ = some (.int .i64 at_) ∧ w'.cell? ⟨w.heap.size, 2, none⟩ = some (.int .i64 cn) ∧ w'.cell? ⟨w.heap.size, 3, none⟩ = some (.int .u8 cb)) ((first | exact hS3 | exact hS4 | exact hS5))
        ((first
          | (go_at_call 15; refine h15'.out.mono ?_; rintro e w4 ⟨a4, cap4, rfl, ho4, hb4⟩; have hB4 : Below w3.heap.size w3 w4 := ⟨hb4.os, hb4.tape, hb4.output, hb4.size, hb4.block⟩; have HBox4 := hid ((hB4.block _ hbxlt).trans HBox3.out); have hS4 := HSB.out w4 HBox4.out; have HX4 := hid (HX3.out.below hB4); have h22' := hid (H22.out w4 a4 cap4 HX4.out (owns_base0 ho4) (fun g hg h => by have := (owns_lt ho4 hg).2; have h9 : w3.heap.size ≤ g := this; have := hxlt.out g h; omega)); have HB4 := hid hB4; clear ho4 hb4 hB4)
          | (go_at_call 22; refine h22'.out.mono ?_; rintro e w5 ⟨rfl, hrs⟩; have hS5 := HSB.out w5 (by obtain ⟨_, _, _, hm5⟩ := hrs; exact (hm5.block _ (Array.getElem?_eq_some_iff.1 HBox4.out).1 (fun h => by have := HP.out.2.1.lt _ h; omega)).trans HBox4.out); have HR := hid hrs; clear hrs)))
      go_wp2
      go_ret
      refine ⟨by simp, PStep.both HP.out HB01.out HS.out (HMo.out.trans (Mods.of_below (al := fun _ => False) HB4.out) (fun _ h => h.elim)) (fun b hb => ?_) (fun _ => HR.out)⟩
      have := HOn.out b hb
      exact ⟨by omega, this.2⟩
theorem Step.of_below {w w' : World} {pd : Nat} {A : Abs} {n : Nat} {al : Nat → Prop} (h : Disk w pd A n al) (hb : Below w.heap.size w w') : Step w w' pd A n al := ⟨al, h.below hb, fun _ h => .inl h, Mods.of_below hb⟩
theorem RStep.same {w : World} {px : Nat} {A : Abs} {n : Nat} {al : Nat → Prop} (h : RDisk w px A n al) : RStep w w px A n al := ⟨al, h, fun _ h => .inl h, Mods.refl _ _⟩
theorem PStep.mono {w w' : World} {pd px : Nat} {A : Abs} {n n' : Nat} {ald alx : Nat → Prop} (h : PStep w w' pd px A n ald alx) (hn : n ≤ n') : PStep w w' pd px A n' ald alx := let ⟨a, b, h1, h2, h3⟩ := h; ⟨a, b, h1.mono hn, h2, h3⟩

set_option maxRecDepth 100000 in
set_option maxHeartbeats 400000 in
theorem row_neg2 (b : Int) (n : Int) (hn : n < 0) (w : World) :
    Calls Try.prog 15 #[.int .u8 b, .int .i64 n] w fun e w' => ∃ a cap, e = .returned (.slice a 100 cap) ∧ w'.ownsRow w.heap.size 5 1 (.slice a 100 cap) 100 ((List.replicate 100 (0 : Int)).map fun x => Value.int .u8 x) ∧ Below w.heap.size w w' := by
  have hmk := run_make_row' (P := Try.prog) 42 5 (.int .u8 0) 1 Try.underlying42 info5 rfl .i64 .i64 100 (by omega) (by omega)
  rw [show ((100 : Nat) : Int) = 100 by omega] at hmk
  have HO : Hid ((w.alloc (.cells (madeCells #[.int .u8 0] 100) 5)).ownsRow w.heap.size 5 1 (.slice (some ⟨w.heap.size, 0, none⟩) 100 100) 100 ((List.replicate 100 (0 : Int)).map fun x => Value.int .u8 x)) := hid (by
    refine ⟨by rw [List.length_map, List.length_replicate], .inr ⟨w.heap.size, 100, _, rfl, Nat.le_refl _, (MapKept.heap_alloc w _).1, Nat.le_refl _, by unfold maxLen; omega, by rw [size_madeCells], ?_⟩⟩
    rw [toList_madeCells_one, List.map_replicate]
    exact List.take_of_length_le (by rw [List.length_replicate]; omega))
  go_enter Try.func15, Try.ntmps15
  go_wp2
  go_ret
  exact ⟨_, _, rfl, HO.out, (Below.refl _ _).alloc (Nat.le_refl _) _⟩

theorem owns_at {w : World} {base g M cap : Nat} {data : List Int} (h : w.ownsRow base 5 1 (.slice (some ⟨g, 0, none⟩) M cap) M (data.map fun x => Value.int .u8 x)) (j : Nat) (hj : j < M) : w.cell? ⟨g, j, none⟩ = some (.int .u8 (data.getD j 0)) := by
  have hl : data.length = M := by have := h.1; simpa using this
  rcases h.2 with ⟨e, _⟩ | ⟨g', c, cur, e, _, hh, hc1, _, hcs, ht⟩
  · cases e
  · simp only [Value.slice.injEq, Option.some.injEq, Addr.mk.injEq] at e
    obtain ⟨⟨rfl, _⟩, _, _⟩ := e
    have : cur[j]? = some (.int .u8 (data.getD j 0)) := by
      have e : (cur.toList.take (M * 1))[j]? = (data.map fun x => Value.int .u8 x)[j]? := by rw [ht]
      rw [List.getElem?_take, if_pos (by omega), List.getElem?_map, List.getElem?_eq_getElem (l := data) (show j < data.length by omega)] at e
      rw [← Array.getElem?_toList, e, List.getD, List.getElem?_eq_getElem (l := data) (show j < data.length by omega)]
      rfl
    simp [World.cell?, hh, this]

theorem done_write (w : World) (pd px : Nat) (A : Abs) (n : Nat) (ald alx : Nat → Prop) (hp : Pair w pd px A n ald alx) (hn : n ≤ 274877906944) (c : Cl) (hk : c.kind = 1) :
    Calls Try.prog 11 #[.pointer (some ⟨pd, 0, none⟩), .pointer (some ⟨px, 0, none⟩), clV c] w fun e w' => e = .returned (.bool true) ∧ ∃ A', A'.N = A.N ∧ PStep w w' pd px A' (n + 65536) ald alx := by
  unfold clV
  rw [hk]
  by_cases h0 : c.n < 0
  · refine (done_write_gen w pd px A n ald alx hp c.at_ c.n c.b _ ⟨_, _, _, rfl⟩ 100 (by omega) (List.replicate 100 0) 14 A n (row_neg2 c.b c.n h0) (fun W a cap hd _ _ => ?_) (fun W a cap hx _ _ => ?_)).mono ?_
    · refine (Write_size W pd c.at_ a 100 cap (.inr rfl)).mono ?_
      rintro e W' ⟨rfl, hb⟩
      exact ⟨rfl, Step.of_below hd hb⟩
    · refine (RWrite_size W px c.at_ a 100 cap (.inr rfl)).mono ?_
      rintro e W' ⟨rfl, rfl⟩
      exact ⟨rfl, RStep.same hx⟩
    · rintro e w' ⟨rfl, h⟩
      exact ⟨rfl, A, rfl, h.mono (by omega)⟩
  · obtain ⟨m, hm⟩ : ∃ m : Nat, (m : Int) = min c.n 20 := ⟨(min c.n 20).toNat, by omega⟩
    have hrow : ∀ W, Calls Try.prog 15 #[.int .u8 c.b, .int .i64 c.n] W fun e W' => ∃ a cap, e = .returned (.slice a (512 * m) cap) ∧ W'.ownsRow W.heap.size 5 1 (.slice a (512 * m) cap) (512 * m) ((rowL c.b m).map fun x => Value.int .u8 x) ∧ Below W.heap.size W W' := fun W => by
      refine (row_any c.b c.n m (by omega) hm W).mono ?_
      rintro e W' ⟨v, rfl, ho, _, hb⟩
      rcases ho.2 with ⟨rfl, h1⟩ | ⟨g, cap, cur, rfl, h2⟩
      · have h3 : 512 * m = 0 := h1
        rw [h3] at ho ⊢
        exact ⟨none, 0, rfl, ho, hb⟩
      · exact ⟨_, _, rfl, ho, hb⟩
    by_cases hm0 : m = 0
    · subst hm0
      refine (done_write_gen w pd px A n ald alx hp c.at_ c.n c.b _ ⟨_, _, _, rfl⟩ 0 (by omega) (rowL c.b 0) 14 A n hrow (fun W a cap hd _ _ => ?_) (fun W a cap hx _ _ => ?_)).mono ?_
      · refine (Write_size W pd c.at_ a 0 cap (.inl rfl)).mono ?_
        rintro e W' ⟨rfl, hb⟩
        exact ⟨rfl, Step.of_below hd hb⟩
      · refine (RWrite_size W px c.at_ a 0 cap (.inl rfl)).mono ?_
        rintro e W' ⟨rfl, rfl⟩
        exact ⟨rfl, RStep.same hx⟩
      · rintro e w' ⟨rfl, h⟩
        exact ⟨rfl, A, rfl, h.mono (by omega)⟩
    · cases hh : hasB A.N c.at_ m with
      | false =>
        refine (done_write_gen w pd px A n ald alx hp c.at_ c.n c.b _ ⟨_, _, _, rfl⟩ (512 * m) (by omega) (rowL c.b m) 1 A n hrow (fun W a cap hd _ _ => ?_) (fun W a cap hx _ _ => ?_)).mono ?_
        · refine (Write_arg W pd A n ald hd c.at_ a m _ cap rfl (by omega) (by omega) hh).mono ?_
          rintro e W' ⟨rfl, hb⟩
          exact ⟨rfl, Step.of_below hd hb⟩
        · refine (RWrite_arg W px A n alx hx c.at_ a m _ cap rfl (by omega) (by omega) hh).mono ?_
          rintro e W' ⟨rfl, rfl⟩
          exact ⟨rfl, RStep.same hx⟩
        · rintro e w' ⟨rfl, h⟩
          exact ⟨rfl, A, rfl, h.mono (by omega)⟩
      | true =>
        refine (done_write_gen w pd px A n ald alx hp c.at_ c.n c.b _ ⟨_, _, _, rfl⟩ (512 * m) (by omega) (rowL c.b m) 0 (wrA A c.at_ (rowsL c.b m)) (n + m) hrow (fun W a cap hd ho hng => ?_) (fun W a cap hx ho hng => ?_)).mono ?_
        · exact WriteRow W pd A n ald hd c.at_ c.b m 0 _ ho hng (by omega) hh (by omega)
        · rcases ho.2 with ⟨_, h1⟩ | ⟨g, cap', cur, e, _, hhp, h2, _⟩
          · omega
          · simp only [Value.slice.injEq] at e
            obtain ⟨rfl, _, rfl⟩ := e
            refine RWrite_any W px A n alx hx (by omega) c.at_ g cap m (512 * m) rfl (by omega) h2 hh (rowsL c.b m) (rowsL_len _ _) (fun i hi => by rw [rowsL_get c.b m i hi]; exact ⟨blk_len _, blk_isB _⟩) (fun i hi j hj => ?_) (Array.getElem?_eq_some_iff.1 hhp).1 (hng g rfl)
            rw [rowsL_get c.b m i hi, ← rowL_get c.b m i j hi hj]
            exact owns_at ho _ (by omega)
        · rintro e w' ⟨rfl, h⟩
          exact ⟨rfl, wrA A c.at_ (rowsL c.b m), rfl, h.mono (by omega)⟩

end Go.Proofs.Ytdbpjdaaggenpaa
