/- NewDriver. -/
import Derived.Test.YtdjghkngiicncaaGreatDrvA
namespace Go.Proofs.YtdjghkngiicncaaGreat
open Go.RowKit

def A0 (n : Nat) : Abs := ⟨List.range n, [], 0, 0⟩
theorem wf0 (n : Nat) : Wf n (A0 n) where
  srt := List.pairwise_lt_range
  perm := by simp [A0]
  hd := fun p hp => by simp [A0] at hp
  o := by simp [A0]
  u := by simp [A0]
theorem info3 : (Tryz.prog.info? 3).map (fun i => (i.zero, i.size, i.bytes)) = some (some (.int .i64 0), 1, 8) := by kernel_rfl
theorem rowIs_irow {w : World} {g n : Nat} (h : w.rowIs g 3 n (fun i => .int .i64 (i : Nat))) (hl : n ≤ maxLen) : IRow w (.slice (some ⟨g, 0, none⟩) n n) (List.range n) := by
  obtain ⟨c, hb, hs, hc⟩ := h
  refine ⟨by simp, .inr ⟨g, n, c, by simp, Nat.zero_le _, hb, by simp, hl, by omega, ?_⟩⟩
  apply List.ext_getElem?
  intro i
  by_cases hi : i < n
  · have := hc i hi
    rw [List.getElem?_take]
    simp [hi]
    rw [← Array.getElem?_toList] at this
    simpa using this
  · simp [hi]; omega

set_option maxRecDepth 100000 in
set_option maxHeartbeats 2000000 in
theorem NewDriver_ok (w : World) (q : Qu) (len cap : Nat) (f : Nat → Int) (hm : Mem w q.g q.N f) (hp : pow2 q.n = true) (hf : q.base + (8 + 26 * q.n) ≤ len) (hc : len ≤ cap) (hl : len ≤ 1099511627776) :
    Calls Tryz.prog 54 #[.slice (some ⟨q.g, 0, none⟩) len cap, .int .i64 q.base, .int .i64 q.n] w fun e w' => ∃ pd, e = .returned (.tuple #[.pointer (some ⟨pd, 0, none⟩), .int .i64 0]) ∧ Mods (fun b => b = q.g) w w' ∧ Mem w' q.g q.N (zr f q.base (8 + 26 * q.n)) ∧ ∃ al, Drv w' pd q (A0 q.n) 0 al ∧ ∀ b, al b → w.heap.size ≤ b := by
  obtain ⟨g, base, n, N, po, pu, Ld, Lo, Lu, geo⟩ := q
  simp only at hm hp hf hc ⊢
  have hcon := share_ok w g len cap base n N po pu Ld Lo Lu hp hf hc hl geo
  rw [memV_eq] at hcon
  have HC := hid hcon
  have HM := hid hm
  have hglt := hm.lt
  have n2 := geo.n2
  have hmm := @run_makeMap Tryz.prog
  have hmk := run_make_row' (P := Tryz.prog) 94 3 (.int .i64 0) 8 Tryz.underlying94 info3 rfl .i64 .i64 n (by omega) (by omega)
  clear hcon hp hf hc hm hl
  go_enter Tryz.func54, Tryz.ntmps54
  go_wp2_with fail
  refine HC.out.mono ?_
  rintro e w1 ⟨rfl, hb1⟩
  have hM1 := (HM.out.below hb1).below ((Below.refl _ w1).alloc (Nat.le_refl _) (.cells #[.int .i64 n, .slice (some ⟨g, base, none⟩) Ld Ld, .slice (some ⟨g, po, none⟩) Lo Lo, .int .i64 n, .int .i64 2, .slice (some ⟨g, pu, none⟩) Lu Lu, .int .i64 n, .int .i64 8] 119))
  have hcon := wipe_any _ g base n N po pu Ld Lo Lu f hM1 geo
  rw [memV_eq] at hcon
  have HW := hid hcon
  have HB1 := hid hb1
  have hbx : Hid ((w1.alloc (.cells #[.int .i64 n, .slice (some ⟨g, base, none⟩) Ld Ld, .slice (some ⟨g, po, none⟩) Lo Lo, .int .i64 n, .int .i64 2, .slice (some ⟨g, pu, none⟩) Lu Lu, .int .i64 n, .int .i64 8] 119)).heap[w1.heap.size]? = some (.cells (memC g base n po pu Ld Lo Lu).toArray 119 (0, 0))) := hid (MapKept.heap_alloc w1 _).1
  have hs1 := hb1.size
  clear hcon hb1 hM1 HC
  go_wp2_with fail
  refine HW.out.mono ?_
  rintro e w2 ⟨rfl, hm2, hmo2⟩
  have hbx2 := (hmo2.block w1.heap.size (by simp) (by omega)).trans hbx.out
  obtain ⟨d0, d1, d2, d3, d4, d5, d6, d7⟩ := box76 hbx2
  have hs2 : w1.heap.size < w2.heap.size := (Array.getElem?_eq_some_iff.1 hbx2).1
  have HMO2 := hid ((Mods.of_below (HB1.out.alloc hs1 _)).tr hmo2)
  have HM2 := hid hm2
  clear hbx2 hmo2 hm2 HW hbx HB1
  go_wp2_with fail
  go_region
  · have z1 : (w2.alloc (.cells (madeCells #[.int .i64 0] n) 3)).heap.size = w2.heap.size + 1 := by simp
    have z2 : ((w2.alloc (.cells (madeCells #[.int .i64 0] n) 3)).alloc (.map #[] 0)).heap.size = w2.heap.size + 1 + 1 := by simp
    have z3 : (((w2.alloc (.cells (madeCells #[.int .i64 0] n) 3)).alloc (.map #[] 0)).alloc (.cells #[.int .i64 n, .slice (some ⟨g, base, none⟩) Ld Ld, .slice (some ⟨g, po, none⟩) Lo Lo, .int .i64 n, .int .i64 2, .slice (some ⟨g, pu, none⟩) Lu Lu, .int .i64 n, .int .i64 8, .int .u16 0, .int .u16 0, .slice (some ⟨w2.heap.size, 0, none⟩) n n, .map (some (w2.heap.size + 1))] 123)).drew.heap.size = w2.heap.size + 1 + 1 + 1 := by show (((w2.alloc (.cells (madeCells #[.int .i64 0] n) 3)).alloc (.map #[] 0)).alloc (.cells #[.int .i64 n, .slice (some ⟨g, base, none⟩) Ld Ld, .slice (some ⟨g, po, none⟩) Lo Lo, .int .i64 n, .int .i64 2, .slice (some ⟨g, pu, none⟩) Lu Lu, .int .i64 n, .int .i64 8, .int .u16 0, .int .u16 0, .slice (some ⟨w2.heap.size, 0, none⟩) n n, .map (some (w2.heap.size + 1))] 123)).heap.size = _; simp
    have hbx : (((w2.alloc (.cells (madeCells #[.int .i64 0] n) 3)).alloc (.map #[] 0)).alloc (.cells #[.int .i64 n, .slice (some ⟨g, base, none⟩) Ld Ld, .slice (some ⟨g, po, none⟩) Lo Lo, .int .i64 n, .int .i64 2, .slice (some ⟨g, pu, none⟩) Lu Lu, .int .i64 n, .int .i64 8, .int .u16 0, .int .u16 0, .slice (some ⟨w2.heap.size, 0, none⟩) n n, .map (some (w2.heap.size + 1))] 123)).drew.heap[w2.heap.size + 1 + 1]? = some (.cells #[.int .i64 n, .slice (some ⟨g, base, none⟩) Ld Ld, .slice (some ⟨g, po, none⟩) Lo Lo, .int .i64 n, .int .i64 2, .slice (some ⟨g, pu, none⟩) Lu Lu, .int .i64 n, .int .i64 8, .int .u16 0, .int .u16 0, .slice (some ⟨w2.heap.size, 0, none⟩) n n, .map (some (w2.heap.size + 1))] 123 (0, 0)) := by have h := (MapKept.heap_alloc ((w2.alloc (.cells (madeCells #[.int .i64 0] n) 3)).alloc (.map #[] 0)) (.cells #[.int .i64 n, .slice (some ⟨g, base, none⟩) Ld Ld, .slice (some ⟨g, po, none⟩) Lo Lo, .int .i64 n, .int .i64 2, .slice (some ⟨g, pu, none⟩) Lu Lu, .int .i64 n, .int .i64 8, .int .u16 0, .int .u16 0, .slice (some ⟨w2.heap.size, 0, none⟩) n n, .map (some (w2.heap.size + 1))] 123)).1; rw [z2] at h; exact h
    have hrow : (((w2.alloc (.cells (madeCells #[.int .i64 0] n) 3)).alloc (.map #[] 0)).alloc (.cells #[.int .i64 n, .slice (some ⟨g, base, none⟩) Ld Ld, .slice (some ⟨g, po, none⟩) Lo Lo, .int .i64 n, .int .i64 2, .slice (some ⟨g, pu, none⟩) Lu Lu, .int .i64 n, .int .i64 8, .int .u16 0, .int .u16 0, .slice (some ⟨w2.heap.size, 0, none⟩) n n, .map (some (w2.heap.size + 1))] 123)).drew.rowIs (w2.heap.size) 3 n (fun _ => .int .i64 0) := ((World.rowIs_made w2 (.int .i64 0) n 3).of_block (Below.heap_alloc (w2.alloc (.cells (madeCells #[.int .i64 0] n) 3)) _ _ (by omega))).of_block (w' := (((w2.alloc (.cells (madeCells #[.int .i64 0] n) 3)).alloc (.map #[] 0)).alloc (.cells #[.int .i64 n, .slice (some ⟨g, base, none⟩) Ld Ld, .slice (some ⟨g, po, none⟩) Lo Lo, .int .i64 n, .int .i64 2, .slice (some ⟨g, pu, none⟩) Lu Lu, .int .i64 n, .int .i64 8, .int .u16 0, .int .u16 0, .slice (some ⟨w2.heap.size, 0, none⟩) n n, .map (some (w2.heap.size + 1))] 123))) (Below.heap_alloc ((w2.alloc (.cells (madeCells #[.int .i64 0] n) 3)).alloc (.map #[] 0)) _ _ (by omega))
    have hmap : MapIs (((w2.alloc (.cells (madeCells #[.int .i64 0] n) 3)).alloc (.map #[] 0)).alloc (.cells #[.int .i64 n, .slice (some ⟨g, base, none⟩) Ld Ld, .slice (some ⟨g, po, none⟩) Lo Lo, .int .i64 n, .int .i64 2, .slice (some ⟨g, pu, none⟩) Lu Lu, .int .i64 n, .int .i64 8, .int .u16 0, .int .u16 0, .slice (some ⟨w2.heap.size, 0, none⟩) n n, .map (some (w2.heap.size + 1))] 123)).drew (w2.heap.size + 1) 0 (fun _ => none) := by have h := MapIs.made (w2.alloc (.cells (madeCells #[.int .i64 0] n) 3)); rw [z1] at h; exact h.keep (w' := (((w2.alloc (.cells (madeCells #[.int .i64 0] n) 3)).alloc (.map #[] 0)).alloc (.cells #[.int .i64 n, .slice (some ⟨g, base, none⟩) Ld Ld, .slice (some ⟨g, po, none⟩) Lo Lo, .int .i64 n, .int .i64 2, .slice (some ⟨g, pu, none⟩) Lu Lu, .int .i64 n, .int .i64 8, .int .u16 0, .int .u16 0, .slice (some ⟨w2.heap.size, 0, none⟩) n n, .map (some (w2.heap.size + 1))] 123))) (Below.heap_alloc ((w2.alloc (.cells (madeCells #[.int .i64 0] n) 3)).alloc (.map #[] 0)) _ _ (by omega))
    have hbel : Below w2.heap.size w2 (((w2.alloc (.cells (madeCells #[.int .i64 0] n) 3)).alloc (.map #[] 0)).alloc (.cells #[.int .i64 n, .slice (some ⟨g, base, none⟩) Ld Ld, .slice (some ⟨g, po, none⟩) Lo Lo, .int .i64 n, .int .i64 2, .slice (some ⟨g, pu, none⟩) Lu Lu, .int .i64 n, .int .i64 8, .int .u16 0, .int .u16 0, .slice (some ⟨w2.heap.size, 0, none⟩) n n, .map (some (w2.heap.size + 1))] 123)).drew := ((((Below.refl _ w2).alloc (Nat.le_refl _) _).alloc (by omega) _).alloc (by omega) _).drew
    have HMO3 := hid (HMO2.out.below hbel)
    have HM3 := hid (HM2.out.below hbel)
    have hsw := HMO2.out.size
    have hgw2 := HM2.out.lt
    have HF : Hid ((w.heap.size ≤ w2.heap.size ∧ w.heap.size ≤ w2.heap.size + 1 ∧ w.heap.size ≤ w2.heap.size + 1 + 1) ∧ (w2.heap.size < (((w2.alloc (.cells (madeCells #[.int .i64 0] n) 3)).alloc (.map #[] 0)).alloc (.cells #[.int .i64 n, .slice (some ⟨g, base, none⟩) Ld Ld, .slice (some ⟨g, po, none⟩) Lo Lo, .int .i64 n, .int .i64 2, .slice (some ⟨g, pu, none⟩) Lu Lu, .int .i64 n, .int .i64 8, .int .u16 0, .int .u16 0, .slice (some ⟨w2.heap.size, 0, none⟩) n n, .map (some (w2.heap.size + 1))] 123)).drew.heap.size ∧ w2.heap.size + 1 < (((w2.alloc (.cells (madeCells #[.int .i64 0] n) 3)).alloc (.map #[] 0)).alloc (.cells #[.int .i64 n, .slice (some ⟨g, base, none⟩) Ld Ld, .slice (some ⟨g, po, none⟩) Lo Lo, .int .i64 n, .int .i64 2, .slice (some ⟨g, pu, none⟩) Lu Lu, .int .i64 n, .int .i64 8, .int .u16 0, .int .u16 0, .slice (some ⟨w2.heap.size, 0, none⟩) n n, .map (some (w2.heap.size + 1))] 123)).drew.heap.size ∧ w2.heap.size + 1 + 1 < (((w2.alloc (.cells (madeCells #[.int .i64 0] n) 3)).alloc (.map #[] 0)).alloc (.cells #[.int .i64 n, .slice (some ⟨g, base, none⟩) Ld Ld, .slice (some ⟨g, po, none⟩) Lo Lo, .int .i64 n, .int .i64 2, .slice (some ⟨g, pu, none⟩) Lu Lu, .int .i64 n, .int .i64 8, .int .u16 0, .int .u16 0, .slice (some ⟨w2.heap.size, 0, none⟩) n n, .map (some (w2.heap.size + 1))] 123)).drew.heap.size) ∧ (w2.heap.size ≠ w2.heap.size + 1 ∧ w2.heap.size ≠ w2.heap.size + 1 + 1 ∧ w2.heap.size + 1 ≠ w2.heap.size + 1 + 1) ∧ (g ≠ w2.heap.size ∧ g ≠ w2.heap.size + 1 ∧ g ≠ w2.heap.size + 1 + 1)) := hid (by rw [z3]; omega)
    clear z1 z2 z3 hmm hmk d0 d1 d2 d3 d4 d5 d6 d7 HMO2 HM2 hbel hsw hgw2 hs2 hs1
    generalize World.drew (World.alloc _ _) = w3 at *
    generalize w2.heap.size + 1 + 1 = pd at *
    generalize w2.heap.size + 1 = bm at *
    generalize w2.heap.size = gf at *
    have d10 : w3.cell? ⟨pd, 10, none⟩ = some (.slice (some ⟨gf, 0, none⟩) n n) := by unfold World.cell?; simp [hbx]
    have HBX := hid hbx
    have HMP := hid hmap
    have HRW := hid hrow
    clear hbx hmap hrow
    go_wp2
    go_loopw [35] (fun x wr => ∃ k : Nat, k ≤ n ∧ x = .int .i64 k ∧ Mods (fun b => b = g) w wr ∧ wr.heap.size = w3.heap.size ∧ Mem wr g N (zr f base (8 + 26 * n)) ∧ wr.rowIs gf 3 n (fun i => .int .i64 (if i < k then (i : Int) else 0)) ∧ MapIs wr bm 0 (fun _ => none) ∧ wr.heap[pd]? = w3.heap[pd]?) (fun x _ => n - (RowKit.intOf x).toNat)
    case atStart => exact ⟨0, Nat.zero_le _, rfl, HMO3.out, rfl, HM3.out, HRW.out.congr (fun i _ => by simp), HMP.out, rfl⟩
    case round =>
      obtain ⟨k, hk, rfl, r1, r2, r3, r4, r5, r6⟩ := hrel
      clear d10
      have d10 : wr.cell? ⟨pd, 10, none⟩ = some (.slice (some ⟨gf, 0, none⟩) n n) := by unfold World.cell?; simp [r6, HBX.out]
      have R1 := hid r1
      have R2 := hid r2
      have R3 := hid r3
      have R4 := hid r4
      have R5 := hid r5
      have R6 := hid r6
      obtain ⟨⟨f1, f2, f3⟩, ⟨f4, f5, f6⟩, ⟨f7, f8, f9⟩, f10, f11, f12⟩ := HF.out
      by_cases hlt : k < n
      · have hki : (k : Int) < n := by omega
        obtain ⟨v, hcv⟩ : ∃ v, wr.cell? ⟨gf, k, none⟩ = some v := ⟨_, r4.cell hlt⟩
        have hfz := r4.frozen k
        clear r1 r2 r3 r4 r5 r6
        go_wp2
        go_roundw
        case rel =>
          refine ⟨k + 1, by omega, by go_num, R1.out.trans (al' := fun b => b = gf) ((Mods.refl _ wr).setCell gf k _ rfl) (fun b hb => .inr (by omega)), by simp [World.setCell, R2.out], R3.out.mods ((Mods.refl (fun b => b = gf) wr).setCell gf k _ rfl) f10, ?_, R5.out.keep (Below.heap_setCell _ _ _ _ f7.symm), (Below.heap_setCell _ _ _ _ f8.symm).trans R6.out⟩
          refine (R4.out.set k _).congr fun i hi => ?_
          by_cases e : i = k
          · subst e; simp
          · have e2 : (i < k + 1) = (i < k) := by simp; omega
            simp [e, e2]
        case measure => simp [RowKit.intOf]; omega
      · have hki : ¬ ((k : Int) < n) := by omega
        obtain rfl : k = n := by omega
        clear r1 r2 r3 r4 r5 r6
        go_wp2
        go_ret2
        refine ⟨pd, rfl, R1.out, R3.out, fun b => b = gf ∨ b = bm ∨ b = pd, ⟨.slice (some ⟨gf, 0, none⟩) k k, bm, fun _ => none, ?_⟩, by rintro b (rfl | rfl | rfl) <;> assumption⟩
        refine { lt := ?_, box := R6.out.trans HBX.out, apd := .inr (.inr rfl), abm := .inr (.inl rfl), fr := rowIs_irow (R4.out.congr fun i hi => by simp [hi]) (by unfold maxLen; omega), afr := ?_, mp := R5.out, ch := fun k _ => .inl ⟨rfl, rfl⟩, ng := ?_, wf := wf0 k }
        · rintro b (rfl | rfl | rfl) <;> (rw [R2.out]; assumption)
        · intro b hb; left; simpa [Value.ownBlock] using hb.symm
        · rintro (h | h | h)
          · exact f10 h
          · exact f11 h
          · exact f12 h
  · have z1 : (w2.alloc (.map #[] 0)).heap.size = w2.heap.size + 1 := by simp
    have z2 : ((w2.alloc (.map #[] 0)).alloc (.cells (madeCells #[.int .i64 0] n) 3)).heap.size = w2.heap.size + 1 + 1 := by simp
    have z3 : (((w2.alloc (.map #[] 0)).alloc (.cells (madeCells #[.int .i64 0] n) 3)).alloc (.cells #[.int .i64 n, .slice (some ⟨g, base, none⟩) Ld Ld, .slice (some ⟨g, po, none⟩) Lo Lo, .int .i64 n, .int .i64 2, .slice (some ⟨g, pu, none⟩) Lu Lu, .int .i64 n, .int .i64 8, .int .u16 0, .int .u16 0, .slice (some ⟨w2.heap.size + 1, 0, none⟩) n n, .map (some (w2.heap.size))] 123)).drew.heap.size = w2.heap.size + 1 + 1 + 1 := by show (((w2.alloc (.map #[] 0)).alloc (.cells (madeCells #[.int .i64 0] n) 3)).alloc (.cells #[.int .i64 n, .slice (some ⟨g, base, none⟩) Ld Ld, .slice (some ⟨g, po, none⟩) Lo Lo, .int .i64 n, .int .i64 2, .slice (some ⟨g, pu, none⟩) Lu Lu, .int .i64 n, .int .i64 8, .int .u16 0, .int .u16 0, .slice (some ⟨w2.heap.size + 1, 0, none⟩) n n, .map (some (w2.heap.size))] 123)).heap.size = _; simp
    have hbx : (((w2.alloc (.map #[] 0)).alloc (.cells (madeCells #[.int .i64 0] n) 3)).alloc (.cells #[.int .i64 n, .slice (some ⟨g, base, none⟩) Ld Ld, .slice (some ⟨g, po, none⟩) Lo Lo, .int .i64 n, .int .i64 2, .slice (some ⟨g, pu, none⟩) Lu Lu, .int .i64 n, .int .i64 8, .int .u16 0, .int .u16 0, .slice (some ⟨w2.heap.size + 1, 0, none⟩) n n, .map (some (w2.heap.size))] 123)).drew.heap[w2.heap.size + 1 + 1]? = some (.cells #[.int .i64 n, .slice (some ⟨g, base, none⟩) Ld Ld, .slice (some ⟨g, po, none⟩) Lo Lo, .int .i64 n, .int .i64 2, .slice (some ⟨g, pu, none⟩) Lu Lu, .int .i64 n, .int .i64 8, .int .u16 0, .int .u16 0, .slice (some ⟨w2.heap.size + 1, 0, none⟩) n n, .map (some (w2.heap.size))] 123 (0, 0)) := by have h := (MapKept.heap_alloc ((w2.alloc (.map #[] 0)).alloc (.cells (madeCells #[.int .i64 0] n) 3)) (.cells #[.int .i64 n, .slice (some ⟨g, base, none⟩) Ld Ld, .slice (some ⟨g, po, none⟩) Lo Lo, .int .i64 n, .int .i64 2, .slice (some ⟨g, pu, none⟩) Lu Lu, .int .i64 n, .int .i64 8, .int .u16 0, .int .u16 0, .slice (some ⟨w2.heap.size + 1, 0, none⟩) n n, .map (some (w2.heap.size))] 123)).1; rw [z2] at h; exact h
    have hrow : (((w2.alloc (.map #[] 0)).alloc (.cells (madeCells #[.int .i64 0] n) 3)).alloc (.cells #[.int .i64 n, .slice (some ⟨g, base, none⟩) Ld Ld, .slice (some ⟨g, po, none⟩) Lo Lo, .int .i64 n, .int .i64 2, .slice (some ⟨g, pu, none⟩) Lu Lu, .int .i64 n, .int .i64 8, .int .u16 0, .int .u16 0, .slice (some ⟨w2.heap.size + 1, 0, none⟩) n n, .map (some (w2.heap.size))] 123)).drew.rowIs (w2.heap.size + 1) 3 n (fun _ => .int .i64 0) := by have h := World.rowIs_made (w2.alloc (.map #[] 0)) (.int .i64 0) n 3; rw [z1] at h; exact h.of_block (w' := (((w2.alloc (.map #[] 0)).alloc (.cells (madeCells #[.int .i64 0] n) 3)).alloc (.cells #[.int .i64 n, .slice (some ⟨g, base, none⟩) Ld Ld, .slice (some ⟨g, po, none⟩) Lo Lo, .int .i64 n, .int .i64 2, .slice (some ⟨g, pu, none⟩) Lu Lu, .int .i64 n, .int .i64 8, .int .u16 0, .int .u16 0, .slice (some ⟨w2.heap.size + 1, 0, none⟩) n n, .map (some (w2.heap.size))] 123))) (Below.heap_alloc ((w2.alloc (.map #[] 0)).alloc (.cells (madeCells #[.int .i64 0] n) 3)) _ _ (by omega))
    have hmap : MapIs (((w2.alloc (.map #[] 0)).alloc (.cells (madeCells #[.int .i64 0] n) 3)).alloc (.cells #[.int .i64 n, .slice (some ⟨g, base, none⟩) Ld Ld, .slice (some ⟨g, po, none⟩) Lo Lo, .int .i64 n, .int .i64 2, .slice (some ⟨g, pu, none⟩) Lu Lu, .int .i64 n, .int .i64 8, .int .u16 0, .int .u16 0, .slice (some ⟨w2.heap.size + 1, 0, none⟩) n n, .map (some (w2.heap.size))] 123)).drew (w2.heap.size) 0 (fun _ => none) := ((MapIs.made w2).keep (Below.heap_alloc (w2.alloc (.map #[] 0)) _ _ (by omega))).keep (w' := (((w2.alloc (.map #[] 0)).alloc (.cells (madeCells #[.int .i64 0] n) 3)).alloc (.cells #[.int .i64 n, .slice (some ⟨g, base, none⟩) Ld Ld, .slice (some ⟨g, po, none⟩) Lo Lo, .int .i64 n, .int .i64 2, .slice (some ⟨g, pu, none⟩) Lu Lu, .int .i64 n, .int .i64 8, .int .u16 0, .int .u16 0, .slice (some ⟨w2.heap.size + 1, 0, none⟩) n n, .map (some (w2.heap.size))] 123))) (Below.heap_alloc ((w2.alloc (.map #[] 0)).alloc (.cells (madeCells #[.int .i64 0] n) 3)) _ _ (by omega))
    have hbel : Below w2.heap.size w2 (((w2.alloc (.map #[] 0)).alloc (.cells (madeCells #[.int .i64 0] n) 3)).alloc (.cells #[.int .i64 n, .slice (some ⟨g, base, none⟩) Ld Ld, .slice (some ⟨g, po, none⟩) Lo Lo, .int .i64 n, .int .i64 2, .slice (some ⟨g, pu, none⟩) Lu Lu, .int .i64 n, .int .i64 8, .int .u16 0, .int .u16 0, .slice (some ⟨w2.heap.size + 1, 0, none⟩) n n, .map (some (w2.heap.size))] 123)).drew := ((((Below.refl _ w2).alloc (Nat.le_refl _) _).alloc (by omega) _).alloc (by omega) _).drew
    have HMO3 := hid (HMO2.out.below hbel)
    have HM3 := hid (HM2.out.below hbel)
    have hsw := HMO2.out.size
    have hgw2 := HM2.out.lt
    have HF : Hid ((w.heap.size ≤ w2.heap.size + 1 ∧ w.heap.size ≤ w2.heap.size ∧ w.heap.size ≤ w2.heap.size + 1 + 1) ∧ (w2.heap.size + 1 < (((w2.alloc (.map #[] 0)).alloc (.cells (madeCells #[.int .i64 0] n) 3)).alloc (.cells #[.int .i64 n, .slice (some ⟨g, base, none⟩) Ld Ld, .slice (some ⟨g, po, none⟩) Lo Lo, .int .i64 n, .int .i64 2, .slice (some ⟨g, pu, none⟩) Lu Lu, .int .i64 n, .int .i64 8, .int .u16 0, .int .u16 0, .slice (some ⟨w2.heap.size + 1, 0, none⟩) n n, .map (some (w2.heap.size))] 123)).drew.heap.size ∧ w2.heap.size < (((w2.alloc (.map #[] 0)).alloc (.cells (madeCells #[.int .i64 0] n) 3)).alloc (.cells #[.int .i64 n, .slice (some ⟨g, base, none⟩) Ld Ld, .slice (some ⟨g, po, none⟩) Lo Lo, .int .i64 n, .int .i64 2, .slice (some ⟨g, pu, none⟩) Lu Lu, .int .i64 n, .int .i64 8, .int .u16 0, .int .u16 0, .slice (some ⟨w2.heap.size + 1, 0, none⟩) n n, .map (some (w2.heap.size))] 123)).drew.heap.size ∧ w2.heap.size + 1 + 1 < (((w2.alloc (.map #[] 0)).alloc (.cells (madeCells #[.int .i64 0] n) 3)).alloc (.cells #[.int .i64 n, .slice (some ⟨g, base, none⟩) Ld Ld, .slice (some ⟨g, po, none⟩) Lo Lo, .int .i64 n, .int .i64 2, .slice (some ⟨g, pu, none⟩) Lu Lu, .int .i64 n, .int .i64 8, .int .u16 0, .int .u16 0, .slice (some ⟨w2.heap.size + 1, 0, none⟩) n n, .map (some (w2.heap.size))] 123)).drew.heap.size) ∧ (w2.heap.size + 1 ≠ w2.heap.size ∧ w2.heap.size + 1 ≠ w2.heap.size + 1 + 1 ∧ w2.heap.size ≠ w2.heap.size + 1 + 1) ∧ (g ≠ w2.heap.size + 1 ∧ g ≠ w2.heap.size ∧ g ≠ w2.heap.size + 1 + 1)) := hid (by rw [z3]; omega)
    clear z1 z2 z3 hmm hmk d0 d1 d2 d3 d4 d5 d6 d7 HMO2 HM2 hbel hsw hgw2 hs2 hs1
    generalize World.drew (World.alloc _ _) = w3 at *
    generalize w2.heap.size + 1 + 1 = pd at *
    generalize w2.heap.size + 1 = gf at *
    generalize w2.heap.size = bm at *
    have d10 : w3.cell? ⟨pd, 10, none⟩ = some (.slice (some ⟨gf, 0, none⟩) n n) := by unfold World.cell?; simp [hbx]
    have HBX := hid hbx
    have HMP := hid hmap
    have HRW := hid hrow
    clear hbx hmap hrow
    go_wp2
    go_loopw [35] (fun x wr => ∃ k : Nat, k ≤ n ∧ x = .int .i64 k ∧ Mods (fun b => b = g) w wr ∧ wr.heap.size = w3.heap.size ∧ Mem wr g N (zr f base (8 + 26 * n)) ∧ wr.rowIs gf 3 n (fun i => .int .i64 (if i < k then (i : Int) else 0)) ∧ MapIs wr bm 0 (fun _ => none) ∧ wr.heap[pd]? = w3.heap[pd]?) (fun x _ => n - (RowKit.intOf x).toNat)
    case atStart => exact ⟨0, Nat.zero_le _, rfl, HMO3.out, rfl, HM3.out, HRW.out.congr (fun i _ => by simp), HMP.out, rfl⟩
    case round =>
      obtain ⟨k, hk, rfl, r1, r2, r3, r4, r5, r6⟩ := hrel
      clear d10
      have d10 : wr.cell? ⟨pd, 10, none⟩ = some (.slice (some ⟨gf, 0, none⟩) n n) := by unfold World.cell?; simp [r6, HBX.out]
      have R1 := hid r1
      have R2 := hid r2
      have R3 := hid r3
      have R4 := hid r4
      have R5 := hid r5
      have R6 := hid r6
      obtain ⟨⟨f1, f2, f3⟩, ⟨f4, f5, f6⟩, ⟨f7, f8, f9⟩, f10, f11, f12⟩ := HF.out
      by_cases hlt : k < n
      · have hki : (k : Int) < n := by omega
        obtain ⟨v, hcv⟩ : ∃ v, wr.cell? ⟨gf, k, none⟩ = some v := ⟨_, r4.cell hlt⟩
        have hfz := r4.frozen k
        clear r1 r2 r3 r4 r5 r6
        go_wp2
        go_roundw
        case rel =>
          refine ⟨k + 1, by omega, by go_num, R1.out.trans (al' := fun b => b = gf) ((Mods.refl _ wr).setCell gf k _ rfl) (fun b hb => .inr (by omega)), by simp [World.setCell, R2.out], R3.out.mods ((Mods.refl (fun b => b = gf) wr).setCell gf k _ rfl) f10, ?_, R5.out.keep (Below.heap_setCell _ _ _ _ f7.symm), (Below.heap_setCell _ _ _ _ f8.symm).trans R6.out⟩
          refine (R4.out.set k _).congr fun i hi => ?_
          by_cases e : i = k
          · subst e; simp
          · have e2 : (i < k + 1) = (i < k) := by simp; omega
            simp [e, e2]
        case measure => simp [RowKit.intOf]; omega
      · have hki : ¬ ((k : Int) < n) := by omega
        obtain rfl : k = n := by omega
        clear r1 r2 r3 r4 r5 r6
        go_wp2
        go_ret2
        refine ⟨pd, rfl, R1.out, R3.out, fun b => b = gf ∨ b = bm ∨ b = pd, ⟨.slice (some ⟨gf, 0, none⟩) k k, bm, fun _ => none, ?_⟩, by rintro b (rfl | rfl | rfl) <;> assumption⟩
        refine { lt := ?_, box := R6.out.trans HBX.out, apd := .inr (.inr rfl), abm := .inr (.inl rfl), fr := rowIs_irow (R4.out.congr fun i hi => by simp [hi]) (by unfold maxLen; omega), afr := ?_, mp := R5.out, ch := fun k _ => .inl ⟨rfl, rfl⟩, ng := ?_, wf := wf0 k }
        · rintro b (rfl | rfl | rfl) <;> (rw [R2.out]; assumption)
        · intro b hb; left; simpa [Value.ownBlock] using hb.symm
        · rintro (h | h | h)
          · exact f10 h
          · exact f11 h
          · exact f12 h
end Go.Proofs.YtdjghkngiicncaaGreat
