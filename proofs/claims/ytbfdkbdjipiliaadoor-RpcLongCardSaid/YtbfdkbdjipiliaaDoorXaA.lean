/- XaP, XaA in one text. -/
import Derived.Test.YtbfdkbdjipiliaaDoorPbE
/- num.PutBe of numbers of eight bytes, at this program. -/
namespace Go.Proofs.YtbfdkbdjipiliaaDoor
open Go.RowKit
set_option linter.unusedVariables false
set_option maxHeartbeats 400000 in
theorem writeHigh_8 (g N cap : Nat) (L : List Int) (v : Int) (hv : IsW v) (w : World) (hr : w.rowIs g 5 N (fun i => .int .u8 (L.getD i 0))) (hN : L.length + 8 ≤ N) :
    Calls Tryd.prog 62 #[.slice (some ⟨g, L.length, none⟩) 8 cap, .int .u64 v] w fun e w' => e = .returned (.tuple #[]) ∧ Below g w w' ∧ w'.heap.size = w.heap.size ∧
      w'.rowIs g 5 N (fun i => .int .u8 ((L ++ bytesBe 8 v).getD i 0)) := by
  unfold IsW at hv
  have HR := hid hr
  obtain ⟨p, hp⟩ : ∃ p, L.length = p := ⟨_, rfl⟩
  rw [hp] at hN ⊢
  obtain ⟨x0, c0⟩ : ∃ x, w.cell? ⟨g, p, none⟩ = some x := ⟨_, hr.cell (i := p) (by omega)⟩
  have f0 := hr.frozen (p)
  obtain ⟨x1, c1⟩ : ∃ x, w.cell? ⟨g, p + 1, none⟩ = some x := ⟨_, hr.cell (i := p + 1) (by omega)⟩
  have f1 := hr.frozen (p + 1)
  obtain ⟨x2, c2⟩ : ∃ x, w.cell? ⟨g, p + 2, none⟩ = some x := ⟨_, hr.cell (i := p + 2) (by omega)⟩
  have f2 := hr.frozen (p + 2)
  obtain ⟨x3, c3⟩ : ∃ x, w.cell? ⟨g, p + 3, none⟩ = some x := ⟨_, hr.cell (i := p + 3) (by omega)⟩
  have f3 := hr.frozen (p + 3)
  obtain ⟨x4, c4⟩ : ∃ x, w.cell? ⟨g, p + 4, none⟩ = some x := ⟨_, hr.cell (i := p + 4) (by omega)⟩
  have f4 := hr.frozen (p + 4)
  obtain ⟨x5, c5⟩ : ∃ x, w.cell? ⟨g, p + 5, none⟩ = some x := ⟨_, hr.cell (i := p + 5) (by omega)⟩
  have f5 := hr.frozen (p + 5)
  obtain ⟨x6, c6⟩ : ∃ x, w.cell? ⟨g, p + 6, none⟩ = some x := ⟨_, hr.cell (i := p + 6) (by omega)⟩
  have f6 := hr.frozen (p + 6)
  obtain ⟨x7, c7⟩ : ∃ x, w.cell? ⟨g, p + 7, none⟩ = some x := ⟨_, hr.cell (i := p + 7) (by omega)⟩
  have f7 := hr.frozen (p + 7)
  have HP := hid hp
  clear hp hr
  go_enter Tryd.func62, Tryd.ntmps62
  go_wp2
  go_end0
  refine ⟨rfl, (below_set (below_set (below_set (below_set (below_set (below_set (below_set (below_set (Below.refl _ _) _) _) _) _) _) _) _) _), by simp [World.setCell], ((((((((HR.out.set (p) _).set (p + 1) _).set (p + 2) _).set (p + 3) _).set (p + 4) _).set (p + 5) _).set (p + 6) _).set (p + 7) _).congr fun i hi => ?_⟩
  rw [getD_app, HP.out]
  by_cases h1 : i < p
  · rw [if_pos h1]
    simp only [show ¬ i = p by omega, show ¬ i = p + 1 by omega, show ¬ i = p + 2 by omega, show ¬ i = p + 3 by omega, show ¬ i = p + 4 by omega, show ¬ i = p + 5 by omega, show ¬ i = p + 6 by omega, show ¬ i = p + 7 by omega, if_false]
  · rw [if_neg h1]
    obtain ⟨j, rfl⟩ : ∃ j, i = p + j := ⟨i - p, by omega⟩
    rw [Nat.add_sub_cancel_left]
    by_cases h2 : j < 8
    · rw [getD_be 8 v j h2]
      rcases (show j = 0 ∨ j = 1 ∨ j = 2 ∨ j = 3 ∨ j = 4 ∨ j = 5 ∨ j = 6 ∨ j = 7 by omega) with rfl | rfl | rfl | rfl | rfl | rfl | rfl | rfl <;> first | (simp; done) | (simp; omega)
    · rw [getD_out (bytesBe 8 v) j (by rw [len_be]; omega), getD_out L (p + j) (by rw [HP.out]; omega)]
      simp only [show ¬ p + j = p by omega, show ¬ p + j = p + 1 by omega, show ¬ p + j = p + 2 by omega, show ¬ p + j = p + 3 by omega, show ¬ p + j = p + 4 by omega, show ¬ p + j = p + 5 by omega, show ¬ p + j = p + 6 by omega, show ¬ p + j = p + 7 by omega, if_false]
theorem writeHigh_at8 (g N cap p : Nat) (L : List Int) (v : Int) (hv : IsW v) (w : World) (hr : w.rowIs g 5 N (fun i => .int .u8 (L.getD i 0))) (hp : L.length = p) (hN : p + 8 ≤ N) :
    Calls Tryd.prog 62 #[.slice (some ⟨g, p, none⟩) 8 cap, .int .u64 v] w fun e w' => e = .returned (.tuple #[]) ∧ Below g w w' ∧ w'.heap.size = w.heap.size ∧
      w'.rowIs g 5 N (fun i => .int .u8 ((L ++ bytesBe 8 v).getD i 0)) := by
  subst hp; exact writeHigh_8 g N cap L v hv w hr hN
set_option maxHeartbeats 400000 in
theorem putBe_8 (a a2 : Option Addr) (cap cap2 : Nat) (b l : List Int) (w : World) (hb : b.length ≤ 140737488351232) (hl : l.length ≤ 1099511627776) (h : Bytes w a b) (h2 : Words w a2 l) (hf : fitsB 8 l = true) :
    Calls Tryd.prog 50 #[.slice a b.length cap, .int .i64 8, .slice a2 l.length cap2] w fun e w' => e = .returned (.tuple #[.slice (some ⟨w.heap.size, 0, none⟩) (b.length + 8 * l.length) (b.length + 8 * l.length), .int .i64 0]) ∧
      Below w.heap.size w w' ∧ w'.heap.size = w.heap.size + 1 ∧ w'.rowIs w.heap.size 5 (b.length + 8 * l.length) (fun i => .int .u8 ((outBe b 8 l).getD i 0)) := by
  have HF := hid hf
  have HB := hid h
  have HW := hid h2
  clear hf h h2
  obtain ⟨ll, hll⟩ : ∃ ll, l.length = ll := ⟨_, rfl⟩
  have HL := hid hll
  go_enter Tryd.func50, Tryd.ntmps50
  go_wp2_with fail
  refine (isWidth_any _ _).mono ?_
  rintro e w' ⟨rfl, rfl⟩
  rw [show widB 8 = true from rfl]
  go_wp2_with fail
  rw [← hll]
  clear hll
  refine (allFit_8 _ _ _ _ (by omega) HW.out).mono ?_
  rintro e w' ⟨rfl, rfl⟩
  rw [HF.out, HL.out]
  rw [HL.out] at hl
  go_wp2_with fail
  refine (grown_int _ _ _ _ (8 * ll) _ (by omega) (by omega) (by omega) HB.out).mono ?_
  rintro e w1 ⟨rfl, hb1, hs1, hr1⟩
  have HB1 := hid hb1
  have HS1 := hid hs1
  have HR1 := hid hr1
  clear hb1 hs1 hr1
  go_wp2
  go_loopw [29] (fun i wr => ∃ k : Nat, k ≤ ll ∧ i = .int .i64 k ∧ Below w'.heap.size w' wr ∧ wr.heap.size = w'.heap.size + 1 ∧ wr.rowIs w'.heap.size 5 (b.length + 8 * ll) (fun i => .int .u8 ((outBe b 8 (l.take k)).getD i 0))) (fun i _ => ll - (intOf i).toNat)
  case atStart => exact ⟨0, Nat.zero_le _, rfl, HB1.out, HS1.out, HR1.out.congr fun i _ => by simp [outBe]⟩
  case round =>
    obtain ⟨k, hk, rfl, hb2, hs2, hr2⟩ := hrel
    have HB2 := hid hb2
    have HZ := hid hs2
    have HR2 := hid hr2
    clear HB1 HS1 HR1 hs2 hr2
    by_cases hlt : k < ll
    · have hkl : k < l.length := by rw [HL.out]; exact hlt
      obtain ⟨b2, off2, rfl, hcs⟩ := (HW.out.later hb2).open_ (by omega)
      have hc := hcs k hkl
      have hx := mem_getD l IsW HW.out.isW k hkl
      have HO := hid (outBe_snoc b 8 l k hkl)
      have HLL := hid (show (outBe b 8 (l.take k)).length = b.length + 8 * k by rw [outBe_len, List.length_take, Nat.min_eq_left (by omega)])
      generalize l.getD k 0 = x at *
      clear hcs hb2
      go_wp2_with fail
      refine (writeHigh_at8 _ _ _ _ _ _ hx _ HR2.out (by rw [HLL.out]; omega) (by omega)).mono ?_
      rintro e w2 ⟨rfl, hb3, hs3, hr3⟩
      have HB3 := hid hb3
      have HS3 := hid hs3
      have HR3 := hid hr3
      clear hb3 hs3 hr3
      go_wp2
      go_roundw
      case rel => exact ⟨k + 1, by omega, by go_num, HB2.out.trans HB3.out, HS3.out.trans HZ.out, by rw [HO.out]; exact HR3.out⟩
      case measure => simp [intOf]; omega
    · go_wp2
      go_ret2
      have e : l.take k = l := List.take_of_length_le (by rw [HL.out]; omega)
      rw [e] at HR2
      rw [HL.out]
      exact ⟨rfl, HB2.out, HZ.out, HR2.out⟩
theorem be_back_8 (u : Int) (h0 : 0 ≤ u) (h1 : u < 18446744073709551616) : beOf (bytesBe 8 u) = u := by
  simp [bytesBe, beOf, beOn, List.range, List.range.loop]; omega
end Go.Proofs.YtbfdkbdjipiliaaDoor

/- Bytes put behind a row; the document's High and Noughts. -/
namespace Go.Proofs.YtbfdkbdjipiliaaDoor
open Go.RowKit Go.Maps
set_option linter.unusedVariables false

theorem u8s_len (l : List Int) : (u8s l).length = l.length * 1 := by simp
theorem u8s_append (l m : List Int) : u8s (l ++ m) = u8s l ++ u8s m := by simp
theorem bytes_cells {w : World} {b off : Nat} {m : List Int} (h : ∀ i, i < m.length → w.cell? ⟨b, off + i, none⟩ = some (.int .u8 (m.getD i 0))) : ∀ j u, (u8s m)[j]? = some u → w.cell? ((⟨b, off, none⟩ : Addr).add j) = some u := fun j u hj => by
  have hj2 : j < m.length := by have := (List.getElem?_eq_some_iff.1 hj).1; simpa using this
  rw [u8s_get hj2] at hj
  rw [add_addr, h j hj2]
  simpa using hj
/-- 'append' of bytes to a row that may have been cut at its head. -/
theorem RB.push (w : World) (v : Value) (l : List Int) (h : RW w 5 1 v l.length (u8s l)) (m : List Int) (a : Option Addr) (n c : Nat) (hn : m.length = n) (hm : Bytes w a m) (hl : l.length + n ≤ 900000) (ty : TypeId) :
    ∃ a' c' w', (Builtin.append_ #[27, 27] ty #[v, .slice a n c]).run Tryd.prog w = .ok (.slice a' (l.length + n) c') w' ∧ RW w' 5 1 (.slice a' (l.length + n) c') (l ++ m).length (u8s (l ++ m)) ∧ Mods (fun b => blkV v = some b) w w' ∧ (blkV (.slice a' (l.length + n) c') = blkV v ∨ ∃ x, w.heap.size ≤ x ∧ blkV (.slice a' (l.length + n) c') = some x) := by
  obtain ⟨i0, hi, hz0, hz1, hz2⟩ := info5b
  have hlm : (l ++ m).length = l.length + n := by rw [List.length_append, hn]
  rw [hlm, u8s_append]
  by_cases hp : 0 < n
  · obtain ⟨b0, off0, rfl, hcur⟩ := hm.open_ (by omega)
    have hcell := bytes_cells hcur
    have hml : (u8s m).length = n * 1 := by rw [u8s_len, hn]
    have hone := u8s_one m
    have fromOwn : ∀ (v' : Value) (w' : World), w'.ownsRow w.heap.size 5 1 v' (l.length + n) (u8s l ++ u8s m) → ∃ a c, v' = .slice a (l.length + n) c ∧ RW w' 5 1 v' (l.length + n) (u8s l ++ u8s m) ∧ ∃ x, w.heap.size ≤ x ∧ blkV v' = some x := fun v' w' ho => by
      have hR := RW.of_owns ho
      rcases ho.2 with ⟨_, h0⟩ | ⟨g', cap', cur', rfl, hge, hh', _⟩
      · omega
      · exact ⟨_, _, rfl, hR, g', hge, rfl⟩
    rcases h.2 with ⟨rfl, h0⟩ | ⟨b, off, cap, cur, rfl, hh, h1, hmx, h2, h3⟩
    · have hl0 : l = [] := List.eq_nil_of_length_eq_zero h0
      subst hl0
      obtain ⟨v', w', hr, ho, hgr, _, hob⟩ := run_append_own_at (P := Tryd.prog) w w.heap.size 27 ty 5 i0 _ 1 1 Tryd.underlying27 hi hz0 hz1 hz2 rfl (by omega) (.slice none 0 0) 0 [] ⟨by simp, .inl ⟨rfl, rfl⟩⟩ ⟨b0, off0, none⟩ n c (u8s m) hml hcell hone (by unfold maxLen; omega) (by omega) (Nat.le_refl _)
      obtain ⟨a', c', rfl, hp', x, hx1, hx2⟩ := fromOwn v' w' (by simpa using ho)
      exact ⟨a', c', w', hr, hp', ⟨hgr.os, hgr.tape, hgr.output, hgr.size, fun y hy hn => hgr.block y hy (by simp [Value.ownBlock])⟩, .inr ⟨x, hx1, hx2⟩⟩
    · by_cases hroom : l.length + n ≤ cap
      · have hr := run_append_room_cells (P := Tryd.prog) w 27 ty 5 i0 Tryd.underlying27 hi b off l.length cap ⟨b0, off0, none⟩ n c (u8s m) (by rw [hz1, hml]) hcell hone hroom (fun j hj => by
          rw [hz1]
          rw [hml] at hj
          have hlt : off + l.length * 1 + j < cur.size := by omega
          have := cell_of hh (i := off + l.length * 1 + j) (v := cur[off + l.length * 1 + j]) (by simp)
          rw [this]; rfl) (fun j hj => froz_of hh _)
        rw [hz1] at hr
        have hb' := setCells_heap (g := b) (t := 5) (u8s m) w cur (off + l.length * 1) hh
        refine ⟨_, _, _, hr, ⟨by simp [hn], .inr ⟨b, off, cap, _, rfl, hb', hroom, hmx, by rw [putA_size]; exact h2, fun j hj => ?_⟩⟩, (setCells_mods b (u8s m) w _).weak (fun y hy => by subst hy; exact .inl rfl), .inl rfl⟩
        rw [putA_get _ _ _ (by rw [hml]; omega), hml]
        by_cases hj2 : j < l.length * 1
        · rw [if_neg (by omega), h3 j hj2, List.getElem?_append_left (by rw [u8s_len]; exact hj2)]
        · rw [if_pos (by omega), List.getElem?_append_right (by rw [u8s_len]; omega), u8s_len]
          rw [show off + j - (off + l.length * 1) = j - l.length * 1 by omega]
      · have hold : ∀ j u, (u8s l)[j]? = some u → w.cell? ((⟨b, off, none⟩ : Addr).add j) = some u := fun j u hj => by
          have hj2 : j < l.length * 1 := by have := (List.getElem?_eq_some_iff.1 hj).1; rw [u8s_len] at this; exact this
          rw [add_addr]
          exact cell_of hh (by rw [h3 j hj2]; exact hj)
        obtain ⟨v', w', hr, ho, hgr⟩ := run_append_arg_grows (P := Tryd.prog) w 27 ty 5 i0 _ 1 1 Tryd.underlying27 hi hz0 hz1 hz2 rfl (by omega) ⟨b, off, none⟩ l.length cap (u8s l) (u8s_len l) hold ⟨b0, off0, none⟩ n c (u8s m) hml hcell (by omega) (by unfold maxLen; omega) (by omega)
        obtain ⟨a', c', rfl, hp', x, hx1, hx2⟩ := fromOwn v' w' ho
        exact ⟨a', c', w', hr, hp', ⟨hgr.os, hgr.tape, hgr.output, hgr.size, fun y hy hn => hgr.block y hy (by simp)⟩, .inr ⟨x, hx1, hx2⟩⟩
  · obtain rfl : n = 0 := by omega
    obtain rfl : m = [] := List.eq_nil_of_length_eq_zero hn
    have hs : Src Tryd.prog i0.size 27 (.slice a 0 c) 0 [] w := by
      cases a with
      | none => exact Src.ofNil _ Tryd.underlying27 c
      | some ad => exact Src.ofSlice _ Tryd.underlying27 ad 0 c [] (by simp) (fun j u hj => by simp at hj) (fun u hu => by simp at hu)
    rcases h.2 with ⟨rfl, h0⟩ | ⟨b, off, cap, cur, rfl, hh, h1, r⟩
    · have hl0 : l = [] := List.eq_nil_of_length_eq_zero h0
      subst hl0
      exact ⟨none, 0, w, run_append_nothing _ 27 27 ty 5 i0 Tryd.underlying27 hi _ _ _ (Nat.le_refl _) _ hs, by simpa using RW.nil w 5 1, Mods.refl _ _, .inl rfl⟩
    · exact ⟨some ⟨b, off, none⟩, cap, w, run_append_nothing _ 27 27 ty 5 i0 Tryd.underlying27 hi _ _ _ h1 _ hs, by simpa using h, Mods.refl _ _, .inl rfl⟩
/-- A row of bytes that has grown out of the row v0 since w0. -/
def RWc (w0 : World) (v0 : Value) (w : World) (v : Value) (l : List Int) : Prop := RW w 5 1 v l.length (u8s l) ∧ Mods (fun b => blkV v0 = some b) w0 w ∧ (blkV v = blkV v0 ∨ ∃ x, w0.heap.size ≤ x ∧ blkV v = some x)
theorem RWc.refl {w : World} {v : Value} {l : List Int} (h : RW w 5 1 v l.length (u8s l)) : RWc w v w v l := ⟨h, Mods.refl _ _, .inl rfl⟩
theorem RWc.later {w0 w w' : World} {v0 v : Value} {l : List Int} (h : RWc w0 v0 w v l) (hb : Below w.heap.size w w') : RWc w0 v0 w' v l := ⟨h.1.later hb, h.2.1.below hb, h.2.2⟩
theorem RWc.shape {w0 w : World} {v0 v : Value} {l : List Int} (h : RWc w0 v0 w v l) : ∃ a c, v = .slice a l.length c := h.1.shape
theorem RWc.push {w0 w : World} {v0 : Value} {a : Option Addr} {k c : Nat} {l : List Int} (h : RWc w0 v0 w (.slice a k c) l) (hk : l.length = k) (m : List Int) (a2 : Option Addr) (n c2 : Nat) (hn : m.length = n) (hm : Bytes w a2 m) (hl : k + n ≤ 900000) (ty : TypeId) :
    ∃ a' c' w', (Builtin.append_ #[27, 27] ty #[.slice a k c, .slice a2 n c2]).run Tryd.prog w = .ok (.slice a' (k + n) c') w' ∧ RWc w0 v0 w' (.slice a' (k + n) c') (l ++ m) := by
  subst hk
  obtain ⟨a', c', w', hr, hw, hm2, hb⟩ := RB.push w _ l h.1 m a2 n c2 hn hm hl ty
  refine ⟨a', c', w', hr, hw, h.2.1.trans hm2 (fun b hb2 => ?_), ?_⟩
  · rcases h.2.2 with e | ⟨x, hx, e⟩
    · exact .inl (by rw [← e]; exact hb2)
    · exact .inr (by rw [e] at hb2; simp at hb2; omega)
  · rcases hb with e | ⟨x, hx, e⟩
    · rcases h.2.2 with e' | ⟨y, hy, e'⟩
      · exact .inl (e.trans e')
      · exact .inr ⟨y, hy, e.trans e'⟩
    · exact .inr ⟨x, Nat.le_trans h.2.1.size hx, e⟩
theorem bytes_one {w : World} {g : Nat} {x : Int} (hx : IsB x) (h : w.cell? ⟨g, 0, none⟩ = some (.int .u8 x)) : Bytes w (some ⟨g, 0, none⟩) [x] := Bytes.mk_ (by simpa using hx) (fun i hi => by
  obtain rfl : i = 0 := by simp at hi; omega
  simpa using h)
end Go.Proofs.YtbfdkbdjipiliaaDoor
