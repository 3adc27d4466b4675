/- One item written by both writers. -/
import Derived.Test.YteeakkpbpffohaaXbA
namespace Go.Proofs.Yteeakkpbpffohaa
open Go.RowKit Go.Maps
set_option linter.unusedVariables false

theorem isU_wrap (v : Int) : IsU (IntKind.u32.wrap v) := by
  have e : IntKind.u32.wrap v = v % 4294967296 := by simp [IntKind.wrap, IntKind.bits, IntKind.signed]
  rw [e]; unfold IsU; omega
set_option maxRecDepth 100000 in
set_option maxHeartbeats 4000000 in
theorem write_any {w0 w : World} {p q : Nat} {L : List Int} (h : TW w0 w p q L) (x : It) (hx : x.ok w0) (hn : x.n ≤ 3000) (hl : L.length ≤ 300000) :
    Calls Try.prog 16 #[.pointer (some ⟨p, 0, none⟩), .pointer (some ⟨q, 0, none⟩), .agg (itC x)] w fun e w' => e = .returned (.tuple #[]) ∧ TW w0 w' p q (L ++ itL x) := by
  obtain ⟨⟨S1, S2, h1, h2, hd, h4, h5⟩, hbl⟩ := h
  obtain ⟨kd, nn, v, on, a, n, c, l⟩ := x
  obtain ⟨hk, hnn, hv, hll, hb, hm, hc⟩ := hx
  simp only at hk hnn hv hll hb hm hc hn
  unfold II16 at hk
  unfold IsW at hv
  obtain ⟨W1, hW1⟩ : ∃ W, W = w.alloc (.cells #[.int .i64 kd, .int .i64 nn, .int .u64 v, .bool on, .slice a n c] 33) := ⟨_, rfl⟩
  have b1 : Below w.heap.size w W1 := by rw [hW1]; exact below_alloc (Below.refl _ _) (Nat.le_refl _) _
  have z1 : W1.heap[w.heap.size]? = some (.cells #[.int .i64 kd, .int .i64 nn, .int .u64 v, .bool on, .slice a n c] 33 (0, 0)) := by rw [hW1]; exact alloc_new w _
  have hBL := hbl.trans (b1.mono hbl.size)
  have c0 := cell_of z1 (i := 0) (v := .int .i64 kd) rfl
  have c2 := cell_of z1 (i := 2) (v := .int .u64 v) rfl
  have c3 := cell_of z1 (i := 3) (v := .bool on) rfl
  have c4 := cell_of z1 (i := 4) (v := .slice a n c) rfl
  have g1 := h1.later b1
  have g2 := h2.later b1
  have hns : ∀ b, S1 b → b < w.heap.size := h1.slt
  obtain ⟨y, hwr⟩ : ∃ y, IntKind.u32.wrap v = y := ⟨_, rfl⟩
  have hy : IsU y := by rw [← hwr]; exact isU_wrap v
  by_cases e1 : kd = 1
  · subst e1
    have hit : itL ⟨1, nn, v, on, a, n, c, l⟩ = bytesBe 4 y := by simp [itL, hwr]
    rw [hit]
    clear hit
    obtain ⟨W2, hW2⟩ : ∃ W, W = W1.alloc (.cells #[.int .u32 y] 54) := ⟨_, rfl⟩
    have b2 : Below W1.heap.size W1 W2 := by rw [hW2]; exact below_alloc (Below.refl _ _) (Nat.le_refl _) _
    have r2 : W2.cell? ⟨W1.heap.size, 0, none⟩ = some (.int .u32 y) := by rw [hW2, new_cell _ _ _ _ 0 (by simp)]; rfl
    have hsz := b1.size
    have hsz2 := b2.size
    have hszg : w.heap.size < W1.heap.size := (Array.getElem?_eq_some_iff.1 z1).1
    have k1 := g1.later b2
    have k2 := g2.later b2
    have hBL2 := hBL.trans (b2.mono hBL.size)
    have hnr : ¬ S1 W1.heap.size := fun e => by have := hns _ e; omega
    have hng : ¬ S1 w.heap.size := fun e => by have := hns _ e; omega
    have z2 : W2.heap[w.heap.size]? = some (.cells #[.int .i64 1, .int .i64 nn, .int .u64 v, .bool on, .slice a n c] 33 (0, 0)) := (b2.block _ (Array.getElem?_eq_some_iff.1 z1).1).trans z1
    have hby : ∀ W S3, Kp S1 W2 S3 W → Bytes W a l := fun W S3 hK => hb.later (hK.below0 hBL2 h4).1
    have HC := hid (by have := WU32_any k1 1 1 (some ⟨W1.heap.size, 0, none⟩) [y] rfl (by omega) (fun W S3 hK i hi => by obtain rfl : i = 0 := by { simp at hi; omega }; exact ⟨W1.heap.size, 0, rfl, hK.cell r2 hnr, hy⟩) (by omega); rwa [nuL_one] at this)
    have HK2 := hid k2
    have HBL2 := hid hBL2
    have HZ2 := hid z2
    have HD := hid hd
    have H4 := hid h4
    have H5 := hid h5
    have HB := hid hb
    have HLL := hid hll
    have HL := hid hl
    have HNG := hid hng
    have HN3 := hid hn
    have hW1' := hW1.symm
    have hW2' := hW2.symm
    clear hbl hd h4 h5 hb hll b1 z1 hBL g1 g2 hns h1 h2 b2 r2 hsz hsz2 hszg k1 k2 hBL2 hnr hng z2 hby hW1 hW2 hl hn
    go_enter Try.func16, Try.ntmps16
    go_wp2_with (first
      | (go_at_call 18
         (try rw [hW1'])
         (try rw [hW2'])
         refine HC.out.mono ?_
         rintro e w3 ⟨rfl, S3, hx3, hk3⟩
         obtain ⟨m1, m2, m3, m4⟩ := TW.mine (p := p) (L' := L) HK2.out HD.out H4.out HBL2.out hk3
         have hblk := (hk3.block (Array.getElem?_eq_some_iff.1 HZ2.out).1 HNG.out).trans HZ2.out
         have d2 := cell_of hblk (i := 2) (v := .int .u64 v) rfl
         have d3 := cell_of hblk (i := 3) (v := .bool on) rfl
         have d4 := cell_of hblk (i := 4) (v := .slice a n c) rfl
         have HX3 := hid hx3
         have M2 := hid m2
         have M3 := hid m3
         have M4 := hid m4
         have HP := hid (rWU32_any m1 y hy (by have := HL.out; omega))
         clear hx3 hk3 m1 m2 m3 m4 hblk)
      | (go_at_call 21
         refine HP.out.mono ?_
         rintro e w5 ⟨rfl, S5, hx5, hk5⟩
         obtain ⟨n1, n2, n3, n4⟩ := TW.theirs (q := q) HX3.out M2.out H5.out M4.out hk5
         have FIN : Hid (TW w0 w5 p q (L ++ bytesBe 4 y)) := hid ⟨⟨S3, S5, n1, hx5, n2, M3.out, n3⟩, n4⟩
         clear hx5 hk5 n1 n2 n3 n4))
    go_end0
    exact ⟨rfl, by first | exact FIN.out | simpa [itL] using FIN.out⟩
  have f1 : (kd == 1) = false := by simp [e1]
  by_cases e2 : kd = 2
  · subst e2
    have hit : itL ⟨2, nn, v, on, a, n, c, l⟩ = bytesBe 8 v := by simp [itL]
    rw [hit]
    clear hit
    obtain ⟨W2, hW2⟩ : ∃ W, W = W1.alloc (.cells #[.int .u64 v] 31) := ⟨_, rfl⟩
    have b2 : Below W1.heap.size W1 W2 := by rw [hW2]; exact below_alloc (Below.refl _ _) (Nat.le_refl _) _
    have r2 : W2.cell? ⟨W1.heap.size, 0, none⟩ = some (.int .u64 v) := by rw [hW2, new_cell _ _ _ _ 0 (by simp)]; rfl
    have hsz := b1.size
    have hsz2 := b2.size
    have hszg : w.heap.size < W1.heap.size := (Array.getElem?_eq_some_iff.1 z1).1
    have k1 := g1.later b2
    have k2 := g2.later b2
    have hBL2 := hBL.trans (b2.mono hBL.size)
    have hnr : ¬ S1 W1.heap.size := fun e => by have := hns _ e; omega
    have hng : ¬ S1 w.heap.size := fun e => by have := hns _ e; omega
    have z2 : W2.heap[w.heap.size]? = some (.cells #[.int .i64 2, .int .i64 nn, .int .u64 v, .bool on, .slice a n c] 33 (0, 0)) := (b2.block _ (Array.getElem?_eq_some_iff.1 z1).1).trans z1
    have hby : ∀ W S3, Kp S1 W2 S3 W → Bytes W a l := fun W S3 hK => hb.later (hK.below0 hBL2 h4).1
    have HC := hid (by have := WU64_any k1 1 1 (some ⟨W1.heap.size, 0, none⟩) [v] rfl (by omega) (fun i hi => by obtain rfl : i = 0 := by { simp at hi; omega }; exact ⟨W1.heap.size, 0, rfl, r2, hv⟩) (by omega); rwa [nuL_one] at this)
    have HK2 := hid k2
    have HBL2 := hid hBL2
    have HZ2 := hid z2
    have HD := hid hd
    have H4 := hid h4
    have H5 := hid h5
    have HB := hid hb
    have HLL := hid hll
    have HL := hid hl
    have HNG := hid hng
    have HN3 := hid hn
    have hW1' := hW1.symm
    have hW2' := hW2.symm
    clear hbl hd h4 h5 hb hll b1 z1 hBL g1 g2 hns h1 h2 b2 r2 hsz hsz2 hszg k1 k2 hBL2 hnr hng z2 hby hW1 hW2 hl hn
    go_enter Try.func16, Try.ntmps16
    go_wp2_with (first
      | (go_at_call 19
         (try rw [hW1'])
         (try rw [hW2'])
         refine HC.out.mono ?_
         rintro e w3 ⟨rfl, S3, hx3, hk3⟩
         obtain ⟨m1, m2, m3, m4⟩ := TW.mine (p := p) (L' := L) HK2.out HD.out H4.out HBL2.out hk3
         have hblk := (hk3.block (Array.getElem?_eq_some_iff.1 HZ2.out).1 HNG.out).trans HZ2.out
         have d2 := cell_of hblk (i := 2) (v := .int .u64 v) rfl
         have d3 := cell_of hblk (i := 3) (v := .bool on) rfl
         have d4 := cell_of hblk (i := 4) (v := .slice a n c) rfl
         have HX3 := hid hx3
         have M2 := hid m2
         have M3 := hid m3
         have M4 := hid m4
         have HP := hid (rWU64_any m1 v hv (by have := HL.out; omega))
         clear hx3 hk3 m1 m2 m3 m4 hblk)
      | (go_at_call 22
         refine HP.out.mono ?_
         rintro e w5 ⟨rfl, S5, hx5, hk5⟩
         obtain ⟨n1, n2, n3, n4⟩ := TW.theirs (q := q) HX3.out M2.out H5.out M4.out hk5
         have FIN : Hid (TW w0 w5 p q (L ++ bytesBe 8 v)) := hid ⟨⟨S3, S5, n1, hx5, n2, M3.out, n3⟩, n4⟩
         clear hx5 hk5 n1 n2 n3 n4))
    go_end0
    exact ⟨rfl, by first | exact FIN.out | simpa [itL] using FIN.out⟩
  have f2 : (kd == 2) = false := by simp [e2]
  by_cases e3 : kd = 3
  · subst e3
    have hit : itL ⟨3, nn, v, on, a, n, c, l⟩ = bytesBe 4 (tnum on) := by simp [itL]
    rw [hit]
    clear hit
    obtain ⟨W2, hW2⟩ : ∃ W, W = W1.alloc (.cells #[.bool on] 4) := ⟨_, rfl⟩
    have b2 : Below W1.heap.size W1 W2 := by rw [hW2]; exact below_alloc (Below.refl _ _) (Nat.le_refl _) _
    have r2 : W2.cell? ⟨W1.heap.size, 0, none⟩ = some (.bool on) := by rw [hW2, new_cell _ _ _ _ 0 (by simp)]; rfl
    have hsz := b1.size
    have hsz2 := b2.size
    have hszg : w.heap.size < W1.heap.size := (Array.getElem?_eq_some_iff.1 z1).1
    have k1 := g1.later b2
    have k2 := g2.later b2
    have hBL2 := hBL.trans (b2.mono hBL.size)
    have hnr : ¬ S1 W1.heap.size := fun e => by have := hns _ e; omega
    have hng : ¬ S1 w.heap.size := fun e => by have := hns _ e; omega
    have z2 : W2.heap[w.heap.size]? = some (.cells #[.int .i64 3, .int .i64 nn, .int .u64 v, .bool on, .slice a n c] 33 (0, 0)) := (b2.block _ (Array.getElem?_eq_some_iff.1 z1).1).trans z1
    have hby : ∀ W S3, Kp S1 W2 S3 W → Bytes W a l := fun W S3 hK => hb.later (hK.below0 hBL2 h4).1
    have HC := hid (by have := WBool_any k1 1 1 (some ⟨W1.heap.size, 0, none⟩) [on] rfl (by omega) (fun W S3 hK i hi => by obtain rfl : i = 0 := by { simp at hi; omega }; exact ⟨W1.heap.size, 0, rfl, hK.cell r2 hnr⟩) (by omega); rwa [show tnums [on] = [tnum on] from rfl, nuL_one] at this)
    have HK2 := hid k2
    have HBL2 := hid hBL2
    have HZ2 := hid z2
    have HD := hid hd
    have H4 := hid h4
    have H5 := hid h5
    have HB := hid hb
    have HLL := hid hll
    have HL := hid hl
    have HNG := hid hng
    have HN3 := hid hn
    have hW1' := hW1.symm
    have hW2' := hW2.symm
    clear hbl hd h4 h5 hb hll b1 z1 hBL g1 g2 hns h1 h2 b2 r2 hsz hsz2 hszg k1 k2 hBL2 hnr hng z2 hby hW1 hW2 hl hn
    go_enter Try.func16, Try.ntmps16
    go_wp2_with (first
      | (go_at_call 20
         (try rw [hW1'])
         (try rw [hW2'])
         refine HC.out.mono ?_
         rintro e w3 ⟨rfl, S3, hx3, hk3⟩
         obtain ⟨m1, m2, m3, m4⟩ := TW.mine (p := p) (L' := L) HK2.out HD.out H4.out HBL2.out hk3
         have hblk := (hk3.block (Array.getElem?_eq_some_iff.1 HZ2.out).1 HNG.out).trans HZ2.out
         have d2 := cell_of hblk (i := 2) (v := .int .u64 v) rfl
         have d3 := cell_of hblk (i := 3) (v := .bool on) rfl
         have d4 := cell_of hblk (i := 4) (v := .slice a n c) rfl
         have HX3 := hid hx3
         have M2 := hid m2
         have M3 := hid m3
         have M4 := hid m4
         have HP := hid (rWBool_any m1 on (by have := HL.out; omega))
         clear hx3 hk3 m1 m2 m3 m4 hblk)
      | (go_at_call 23
         refine HP.out.mono ?_
         rintro e w5 ⟨rfl, S5, hx5, hk5⟩
         obtain ⟨n1, n2, n3, n4⟩ := TW.theirs (q := q) HX3.out M2.out H5.out M4.out hk5
         have FIN : Hid (TW w0 w5 p q (L ++ bytesBe 4 (tnum on))) := hid ⟨⟨S3, S5, n1, hx5, n2, M3.out, n3⟩, n4⟩
         clear hx5 hk5 n1 n2 n3 n4))
    go_end0
    exact ⟨rfl, by first | exact FIN.out | simpa [itL] using FIN.out⟩
  have f3 : (kd == 3) = false := by simp [e3]
  by_cases e4 : kd = 4
  · subst e4
    have hit : itL ⟨4, nn, v, on, a, n, c, l⟩ = fuL l := by simp [itL]
    rw [hit]
    clear hit
    obtain ⟨W2, hW2⟩ : ∃ W, W = W1.alloc (.cells #[.slice a n c] 22) := ⟨_, rfl⟩
    have b2 : Below W1.heap.size W1 W2 := by rw [hW2]; exact below_alloc (Below.refl _ _) (Nat.le_refl _) _
    have r2 : W2.cell? ⟨W1.heap.size, 0, none⟩ = some (.slice a n c) := by rw [hW2, new_cell _ _ _ _ 0 (by simp)]; rfl
    have hsz := b1.size
    have hsz2 := b2.size
    have hszg : w.heap.size < W1.heap.size := (Array.getElem?_eq_some_iff.1 z1).1
    have k1 := g1.later b2
    have k2 := g2.later b2
    have hBL2 := hBL.trans (b2.mono hBL.size)
    have hnr : ¬ S1 W1.heap.size := fun e => by have := hns _ e; omega
    have hng : ¬ S1 w.heap.size := fun e => by have := hns _ e; omega
    have z2 : W2.heap[w.heap.size]? = some (.cells #[.int .i64 4, .int .i64 nn, .int .u64 v, .bool on, .slice a n c] 33 (0, 0)) := (b2.block _ (Array.getElem?_eq_some_iff.1 z1).1).trans z1
    have hby : ∀ W S3, Kp S1 W2 S3 W → Bytes W a l := fun W S3 hK => hb.later (hK.below0 hBL2 h4).1
    have HC := hid (by have := WBytes_any k1 1 1 (some ⟨W1.heap.size, 0, none⟩) [l] rfl (by omega) (rowsK_one hll r2 hnr hby) (fun k => by have := pad4_lt l.length; rcases k with _ | k <;> simp [fuL_len] <;> omega) (by simp; omega); simpa only [List.flatMap_cons, List.flatMap_nil, List.append_nil] using this)
    have HK2 := hid k2
    have HBL2 := hid hBL2
    have HZ2 := hid z2
    have HD := hid hd
    have H4 := hid h4
    have H5 := hid h5
    have HB := hid hb
    have HLL := hid hll
    have HL := hid hl
    have HNG := hid hng
    have HN3 := hid hn
    have hW1' := hW1.symm
    have hW2' := hW2.symm
    clear hbl hd h4 h5 hb hll b1 z1 hBL g1 g2 hns h1 h2 b2 r2 hsz hsz2 hszg k1 k2 hBL2 hnr hng z2 hby hW1 hW2 hl hn
    go_enter Try.func16, Try.ntmps16
    go_wp2_with (first
      | (go_at_call 25
         (try rw [hW1'])
         (try rw [hW2'])
         refine HC.out.mono ?_
         rintro e w3 ⟨rfl, S3, hx3, hk3⟩
         obtain ⟨m1, m2, m3, m4⟩ := TW.mine (p := p) (L' := L) HK2.out HD.out H4.out HBL2.out hk3
         have hblk := (hk3.block (Array.getElem?_eq_some_iff.1 HZ2.out).1 HNG.out).trans HZ2.out
         have d2 := cell_of hblk (i := 2) (v := .int .u64 v) rfl
         have d3 := cell_of hblk (i := 3) (v := .bool on) rfl
         have d4 := cell_of hblk (i := 4) (v := .slice a n c) rfl
         have HX3 := hid hx3
         have M2 := hid m2
         have M3 := hid m3
         have M4 := hid m4
         have HP := hid (rWBytes_any m1 n c a l HLL.out (fun W S9 hK => HB.out.later (hK.below0 m4 H5.out).1) HN3.out (by have := HL.out; have := HN3.out; omega))
         clear hx3 hk3 m1 m2 m3 m4 hblk)
      | (go_at_call 24
         refine HP.out.mono ?_
         rintro e w5 ⟨rfl, S5, hx5, hk5⟩
         obtain ⟨n1, n2, n3, n4⟩ := TW.theirs (q := q) HX3.out M2.out H5.out M4.out hk5
         have FIN : Hid (TW w0 w5 p q (L ++ fuL l)) := hid ⟨⟨S3, S5, n1, hx5, n2, M3.out, n3⟩, n4⟩
         clear hx5 hk5 n1 n2 n3 n4))
    go_end0
    exact ⟨rfl, by first | exact FIN.out | simpa [itL] using FIN.out⟩
  have f4 : (kd == 4) = false := by simp [e4]
  have hit : itL ⟨kd, nn, v, on, a, n, c, l⟩ = pdL l := by simp [itL, e1, e2, e3, e4]
  rw [hit]
  clear hit
  obtain ⟨W2, hW2⟩ : ∃ W, W = W1.alloc (.cells #[.slice a n c] 22) := ⟨_, rfl⟩
  have b2 : Below W1.heap.size W1 W2 := by rw [hW2]; exact below_alloc (Below.refl _ _) (Nat.le_refl _) _
  have r2 : W2.cell? ⟨W1.heap.size, 0, none⟩ = some (.slice a n c) := by rw [hW2, new_cell _ _ _ _ 0 (by simp)]; rfl
  have hsz := b1.size
  have hsz2 := b2.size
  have hszg : w.heap.size < W1.heap.size := (Array.getElem?_eq_some_iff.1 z1).1
  have k1 := g1.later b2
  have k2 := g2.later b2
  have hBL2 := hBL.trans (b2.mono hBL.size)
  have hnr : ¬ S1 W1.heap.size := fun e => by have := hns _ e; omega
  have hng : ¬ S1 w.heap.size := fun e => by have := hns _ e; omega
  have z2 : W2.heap[w.heap.size]? = some (.cells #[.int .i64 kd, .int .i64 nn, .int .u64 v, .bool on, .slice a n c] 33 (0, 0)) := (b2.block _ (Array.getElem?_eq_some_iff.1 z1).1).trans z1
  have hby : ∀ W S3, Kp S1 W2 S3 W → Bytes W a l := fun W S3 hK => hb.later (hK.below0 hBL2 h4).1
  have HC := hid (by have := WFixed_any k1 1 1 (some ⟨W1.heap.size, 0, none⟩) [l] rfl (by omega) (rowsK_one hll r2 hnr hby) (fun k => by have := pad4_lt l.length; rcases k with _ | k <;> simp [pdL_len] <;> omega) (by simp; omega); simpa only [List.flatMap_cons, List.flatMap_nil, List.append_nil] using this)
  have HK2 := hid k2
  have HBL2 := hid hBL2
  have HZ2 := hid z2
  have HD := hid hd
  have H4 := hid h4
  have H5 := hid h5
  have HB := hid hb
  have HLL := hid hll
  have HL := hid hl
  have HNG := hid hng
  have HN3 := hid hn
  have hW1' := hW1.symm
  have hW2' := hW2.symm
  clear hbl hd h4 h5 hb hll b1 z1 hBL g1 g2 hns h1 h2 b2 r2 hsz hsz2 hszg k1 k2 hBL2 hnr hng z2 hby hW1 hW2 hl hn
  go_enter Try.func16, Try.ntmps16
  go_wp2_with (first
    | (go_at_call 27
       (try rw [hW1'])
       (try rw [hW2'])
       refine HC.out.mono ?_
       rintro e w3 ⟨rfl, S3, hx3, hk3⟩
       obtain ⟨m1, m2, m3, m4⟩ := TW.mine (p := p) (L' := L) HK2.out HD.out H4.out HBL2.out hk3
       have hblk := (hk3.block (Array.getElem?_eq_some_iff.1 HZ2.out).1 HNG.out).trans HZ2.out
       have d2 := cell_of hblk (i := 2) (v := .int .u64 v) rfl
       have d3 := cell_of hblk (i := 3) (v := .bool on) rfl
       have d4 := cell_of hblk (i := 4) (v := .slice a n c) rfl
       have HX3 := hid hx3
       have M2 := hid m2
       have M3 := hid m3
       have M4 := hid m4
       have HP := hid (rWFixed_any m1 n c a l HLL.out (HB.out.later m4) (by have := HL.out; have := HN3.out; omega))
       clear hx3 hk3 m1 m2 m3 m4 hblk)
    | (go_at_call 26
       refine HP.out.mono ?_
       rintro e w5 ⟨rfl, S5, hx5, hk5⟩
       obtain ⟨n1, n2, n3, n4⟩ := TW.theirs (q := q) HX3.out M2.out H5.out M4.out hk5
       have FIN : Hid (TW w0 w5 p q (L ++ pdL l)) := hid ⟨⟨S3, S5, n1, hx5, n2, M3.out, n3⟩, n4⟩
       clear hx5 hk5 n1 n2 n3 n4))
  go_end0
  exact ⟨rfl, by first | exact FIN.out | simpa [itL] using FIN.out⟩
end Go.Proofs.Yteeakkpbpffohaa
