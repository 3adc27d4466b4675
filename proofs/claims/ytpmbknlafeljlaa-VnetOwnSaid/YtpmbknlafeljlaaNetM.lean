/- vnet: NewCard, NewPort. -/
import Derived.Test.YtpmbknlafeljlaaNetL
namespace Go.Proofs.Ytpmbknlafeljlaa
open Go.RowKit

theorem size46 : (Try.prog.info? 46).map (·.size) = some 3 := by kernel_rfl
theorem size54 : (Try.prog.info? 54).map (·.size) = some 2 := by kernel_rfl
set_option maxRecDepth 100000 in
set_option maxHeartbeats 1000000 in
theorem newDriverSide_any (w : World) (q : Qu) (base which first : Nat) (f : Nat → Int) (hm : Mem w q.g q.N f) (hp : pow2 q.n = true) (hw : which ≤ 2) (hb : base + which * (8 + 26 * q.n) = q.base) (hfi : base + 2 * (8 + 26 * q.n) + which * q.n * 1528 = first) :
    Calls Try.prog 20 #[.slice (some ⟨q.g, 0, none⟩) q.N q.N, .int .i64 base, .int .i64 q.n, .int .i64 which] w fun e w' => ∃ pd, e = .returned (.tuple #[sideV pd q.g q.N first, .int .i64 0]) ∧ Mods (fun b => b = q.g) w w' ∧ Mem w' q.g q.N (zr f q.base (8 + 26 * q.n)) ∧ ∃ al, Drv w' pd q (A0 q.n) 0 al ∧ ∀ b, al b → w.heap.size ≤ b := by
  have hbig := q.geo.big
  have hfit := q.geo.fit
  have hbb : base ≤ 1099511627776 := by omega
  have HQ := hid (fun W : World => queueAt_any W base q.n which hp (by omega) (by omega) q.base (by rw [← hb]; simp [Int.mul_add]))
  have HPL := hid (fun W : World => placesAt_any W base q.n which hp (by omega) (by omega) first (by rw [← hfi]; simp [Int.mul_add, Int.mul_assoc]))
  obtain ⟨W, hW⟩ : ∃ W, W = w.alloc (.cells #[.pointer none, .slice none 0 0, .int .i64 0] 46) := ⟨_, rfl⟩
  have HB0 : Hid (Below w.heap.size w W) := hid (by rw [hW]; exact (Below.refl _ _).alloc (Nat.le_refl _) _)
  have HBX : Hid (W.heap[w.heap.size]? = some (.cells #[.pointer none, .slice none 0 0, .int .i64 0] 46 (0, 0))) := hid (by rw [hW]; exact (MapKept.heap_alloc w _).1)
  have HND := hid (NewDriver_ok W q q.N q.N f (hm.below HB0.out) hp (by omega) (Nat.le_refl _) hbig)
  have HG : Hid (q.g < w.heap.size) := hid hm.lt
  clear hm hp hb hfi
  unfold sideV
  go_enter Try.func20, Try.ntmps20
  go_wp2_with fail
  rw [← hW]
  clear hW
  refine (HQ.out W).mono ?_
  rintro e w1 ⟨rfl, hw1⟩
  rw [hw1]
  clear hw1 w1
  go_wp2_with fail
  refine HND.out.mono ?_
  rintro e w2 ⟨pd, rfl, hmo2, hm2, al, hd2, ha2⟩
  have HMO2 := hid hmo2
  have HM2 := hid hm2
  have HD2 := hid hd2
  have HA2 := hid ha2
  have hbx2 : Hid (w2.heap[w.heap.size]? = some (.cells #[.pointer none, .slice none 0 0, .int .i64 0] 46 (0, 0))) := hid ((hmo2.block w.heap.size (Array.getElem?_eq_some_iff.1 HBX.out).1 (fun e => by have := HG.out; omega)).trans HBX.out)
  have k0 := cell_of (i := 0) hbx2.out rfl
  have k1 := cell_of (i := 1) hbx2.out rfl
  have k2 := cell_of (i := 2) hbx2.out rfl
  have z0 : w2.frozen? ⟨w.heap.size, 0, none⟩ = false := by unfold World.frozen?; simp [hbx2.out]
  have z1 : w2.frozen? ⟨w.heap.size, 1, none⟩ = false := by unfold World.frozen?; simp [hbx2.out]
  have z2 : w2.frozen? ⟨w.heap.size, 2, none⟩ = false := by unfold World.frozen?; simp [hbx2.out]
  clear hmo2 hm2 hd2 ha2
  go_wp2_with (go_at_call 18; refine (HPL.out w2).mono ?_; rintro e w3 ⟨rfl, hw3⟩; rw [hw3]; clear hw3 w3)
  have hws := setc (setc (setc hbx2.out 0 (.pointer (some ⟨pd, 0, none⟩))) 1 (.slice (some ⟨q.g, 0, none⟩) q.N q.N)) 2 (.int .i64 first)
  have hst : Mods (fun b => b = w.heap.size) w2 (((w2.setCell ⟨w.heap.size, 0, none⟩ (.pointer (some ⟨pd, 0, none⟩))).setCell ⟨w.heap.size, 1, none⟩ (.slice (some ⟨q.g, 0, none⟩) q.N q.N)).setCell ⟨w.heap.size, 2, none⟩ (.int .i64 first)) := (((Mods.refl (fun b => b = w.heap.size) w2).setCell w.heap.size 0 _ rfl).setCell w.heap.size 1 _ rfl).setCell w.heap.size 2 _ rfl
  have hg := HG.out
  have hwb : w.heap.size < W.heap.size := (Array.getElem?_eq_some_iff.1 HBX.out).1
  refine bodyPost_ret (results_c2 rfl _ _ _ _ _ _ rfl hws Try.underlying46 size46) rfl ⟨pd, rfl, ?_, ?_, al, ?_, ?_⟩
  · exact ((Mods.of_below HB0.out).tr HMO2.out).trans hst (fun b hb => .inr (by omega))
  · exact HM2.out.mods hst (by omega)
  · exact HD2.out.mods hst (fun b hb e => by have := HA2.out b hb; omega)
  · exact fun b hb => by have := HA2.out b hb; omega
set_option maxRecDepth 100000 in
set_option maxHeartbeats 1000000 in
theorem newDeviceSide_any (w : World) (q : Qu) (base which : Nat) (hgl : q.g < w.heap.size) (hp : pow2 q.n = true) (hw : which ≤ 2) (hb : base + which * (8 + 26 * q.n) = q.base) :
    Calls Try.prog 22 #[.slice (some ⟨q.g, 0, none⟩) q.N q.N, .int .i64 base, .int .i64 q.n, .int .i64 which] w fun e w' => ∃ pv, e = .returned (.tuple #[devV pv q.g q.N, .int .i64 0]) ∧ Below w.heap.size w w' ∧ Dev w' pv q 0 0 ∧ w.heap.size ≤ pv := by
  have hbig := q.geo.big
  have hfit := q.geo.fit
  have hbb : base ≤ 1099511627776 := by omega
  have HQ := hid (fun W : World => queueAt_any W base q.n which hp (by omega) (by omega) q.base (by rw [← hb]; simp [Int.mul_add]))
  obtain ⟨W, hW⟩ : ∃ W, W = w.alloc (.cells #[.pointer none, .slice none 0 0] 54) := ⟨_, rfl⟩
  have HB0 : Hid (Below w.heap.size w W) := hid (by rw [hW]; exact (Below.refl _ _).alloc (Nat.le_refl _) _)
  have HBX : Hid (W.heap[w.heap.size]? = some (.cells #[.pointer none, .slice none 0 0] 54 (0, 0))) := hid (by rw [hW]; exact (MapKept.heap_alloc w _).1)
  have HND := hid (NewDevice_ok W q q.N q.N hp (by omega) (Nat.le_refl _) hbig (Nat.lt_of_lt_of_le hgl HB0.out.size))
  have HG : Hid (q.g < w.heap.size) := hid hgl
  clear hgl hp hb
  unfold devV
  go_enter Try.func22, Try.ntmps22
  go_wp2_with fail
  rw [← hW]
  clear hW
  refine (HQ.out W).mono ?_
  rintro e w1 ⟨rfl, hw1⟩
  rw [hw1]
  clear hw1 w1
  go_wp2_with fail
  refine HND.out.mono ?_
  rintro e w2 ⟨pv, rfl, hb2, hpv, hd2⟩
  have HB2 := hid hb2
  have HD2 := hid hd2
  have HPV := hid hpv
  have hwb : w.heap.size < W.heap.size := (Array.getElem?_eq_some_iff.1 HBX.out).1
  have hbx2 : Hid (w2.heap[w.heap.size]? = some (.cells #[.pointer none, .slice none 0 0] 54 (0, 0))) := hid ((hb2.block w.heap.size hwb).trans HBX.out)
  have k0 := cell_of (i := 0) hbx2.out rfl
  have k1 := cell_of (i := 1) hbx2.out rfl
  have z0 : w2.frozen? ⟨w.heap.size, 0, none⟩ = false := by unfold World.frozen?; simp [hbx2.out]
  have z1 : w2.frozen? ⟨w.heap.size, 1, none⟩ = false := by unfold World.frozen?; simp [hbx2.out]
  clear hb2 hd2 hpv
  go_wp2
  have hws := setc (setc hbx2.out 0 (.pointer (some ⟨pv, 0, none⟩))) 1 (.slice (some ⟨q.g, 0, none⟩) q.N q.N)
  have hst : Mods (fun b => b = w.heap.size) w2 ((w2.setCell ⟨w.heap.size, 0, none⟩ (.pointer (some ⟨pv, 0, none⟩))).setCell ⟨w.heap.size, 1, none⟩ (.slice (some ⟨q.g, 0, none⟩) q.N q.N)) := ((Mods.refl (fun b => b = w.heap.size) w2).setCell w.heap.size 0 _ rfl).setCell w.heap.size 1 _ rfl
  have hpv := HPV.out
  refine bodyPost_ret (results_c2 rfl _ _ _ _ _ _ rfl hws Try.underlying54 size54) rfl ⟨pv, rfl, ?_, ?_, ?_⟩
  · exact hst.to_below (HB0.out.trans (HB2.out.mono HB0.out.size)) (Nat.le_trans HB0.out.size HB2.out.size) (fun b e => by omega)
  · exact HD2.out.mods hst (by omega)
  · omega
end Go.Proofs.Ytpmbknlafeljlaa
