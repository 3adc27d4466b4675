/- The law's two pairs, made. -/
import Derived.Test.YtjnhcbompgmknaaBothG
namespace Go.Proofs.Ytjnhcbompgmknaa
open Go.RowKit

def fill (k : Nat) (i : Nat) : Int := if i < k then (i : Int) % 256 else 0
theorem fill_isB (k i : Nat) : IsB (fill k i) := by
  unfold fill IsB
  split <;> omega
theorem fill_step (k i : Nat) : fill (k + 1) i = if i = k then (k : Int) % 256 else fill k i := by
  unfold fill
  by_cases e : i = k
  · subst e
    rw [if_pos (by omega), if_pos rfl]
  · rw [if_neg e]
    by_cases h : i < k
    · rw [if_pos (by omega), if_pos h]
    · rw [if_neg (by omega), if_neg h]
def box0 (g g' N : Nat) : Array Value := #[.pointer none, .pointer none, .pointer none, .pointer none, .slice (some ⟨g, 0, none⟩) N N, .slice (some ⟨g', 0, none⟩) N N, .slice none 0 0]
theorem box0_cells {w : World} {pb g g' N : Nat} (h : w.heap[pb]? = some (.cells (box0 g g' N) 39 (0, 0))) : w.cell? ⟨pb, 0, none⟩ = some (.pointer none) ∧ w.cell? ⟨pb, 1, none⟩ = some (.pointer none) ∧ w.cell? ⟨pb, 2, none⟩ = some (.pointer none) ∧ w.cell? ⟨pb, 3, none⟩ = some (.pointer none) ∧ w.cell? ⟨pb, 4, none⟩ = some (.slice (some ⟨g, 0, none⟩) N N) ∧ w.cell? ⟨pb, 5, none⟩ = some (.slice (some ⟨g', 0, none⟩) N N) ∧ ∀ k, w.frozen? ⟨pb, k, none⟩ = false := by
  unfold World.cell? World.frozen?
  simp [h, box0]
theorem cells39 {w : World} {pb : Nat} {c : Array Value} (h : w.heap[pb]? = some (.cells c 39 (0, 0))) (k : Nat) (v : Value) (hk : c[k]? = some v) : w.cell? ⟨pb, k, none⟩ = some v ∧ w.frozen? ⟨pb, k, none⟩ = false := by
  unfold World.cell? World.frozen?
  simp [h, hk]
def labOf (s0 g g' pb s1 s2 s3 s4 s5 b : Nat) : Nat :=
  if b < s0 then 0 else if b = g then 3 else if b = g' then 6 else if b = pb then 7 else if b < s1 then 0 else if b < s2 then 1 else if b < s3 then 4 else if b < s4 then 2 else if b < s5 then 5 else 0
/-- What begun gives. -/
def Begun (w : World) (e : Ending) (w' : World) : Prop := (e = .returned (.tuple #[.pointer none, .bool true]) ∧ Below w.heap.size w w') ∨ ∃ H S, e = .returned (.tuple #[.pointer (some ⟨H.pb, 0, none⟩), .bool true]) ∧ Both (Z0 w) w w' H 0 S S []

set_option maxRecDepth 100000 in
set_option maxHeartbeats 8000000 in
theorem begun_any (w : World) (size base n : Int) (hb64 : -9223372036854775808 ≤ base ∧ base < 9223372036854775808) :
    Calls Try.prog 10 #[.int .i64 size, .int .i64 base, .int .i64 n] w fun e w' => Begun w e w' := by
  obtain ⟨N, hN, hN2⟩ : ∃ N : Nat, min (max size 0) 12000 = (N : Int) ∧ N ≤ 12000 := ⟨(min (max size 0) 12000).toNat, by omega, by omega⟩
  have hmk := run_make_row' (P := Try.prog) 36 5 (.int .u8 0) 1 Try.underlying36 info5 rfl .i64 .i64 N (by omega) (by omega)
  have HB64 := hid hb64
  clear hb64
  go_enter Try.func10, Try.ntmps10
  go_wp2
  refine wp_region_held_drew (S := fun _ => True) (by kernel_rfl) trivial (fun hS => ?_)
  refine any_take 0 21 (.int .i64 N) rfl rfl (by kernel_rfl) (by kernel_rfl) (by kernel_rfl) (fun _ _ _ h => h) (Or.inl ⟨by rfl, ?_⟩) hS ?_
  · rintro w' hw'
    go_simp
  simp only [List.setIfInBounds_toArray, List.set_cons_zero, List.set_cons_succ]
  refine any_take 2 23 (.int .i64 N) rfl rfl (by kernel_rfl) (by kernel_rfl) (by kernel_rfl) (fun _ _ _ h => h) (Or.inl ⟨by rfl, ?_⟩) hS ?_
  · rintro w' hw'
    go_simp
  simp only [List.setIfInBounds_toArray, List.set_cons_zero, List.set_cons_succ]
  refine any_two 1 3 (by kernel_rfl) ?_ ?_
  · refine op_value' 22 (v := .slice (some ⟨w.heap.size, 0, none⟩) N N) (w' := (w.drew.alloc (.cells (madeCells #[.int .u8 0] N) 5))) rfl (by rfl) rfl (by go_simp) ⟨trivial, ?_⟩
    simp only [List.setIfInBounds_toArray, List.set_cons_zero, List.set_cons_succ]
    refine any_one 3 (by kernel_rfl) ?_
    refine op_value' 24 (v := .slice (some ⟨w.heap.size + 1, 0, none⟩) N N) (w' := ((w.drew.alloc (.cells (madeCells #[.int .u8 0] N) 5)).alloc (.cells (madeCells #[.int .u8 0] N) 5))) rfl (by rfl) rfl (by go_simp) ⟨trivial, ?_⟩
    simp only [List.setIfInBounds_toArray, List.set_cons_zero, List.set_cons_succ]
    refine any_one 4 (by kernel_rfl) ?_
    refine op_value' 25 (v := .agg #[.pointer none, .pointer none, .pointer none, .pointer none, .slice (some ⟨w.heap.size, 0, none⟩) N N, .slice (some ⟨w.heap.size + 1, 0, none⟩) N N, .slice none 0 0]) (w' := ((w.drew.alloc (.cells (madeCells #[.int .u8 0] N) 5)).alloc (.cells (madeCells #[.int .u8 0] N) 5))) rfl (by rfl) rfl (by go_simp) ⟨trivial, ?_⟩
    simp only [List.setIfInBounds_toArray, List.set_cons_zero, List.set_cons_succ]
    refine any_one 5 (by kernel_rfl) ?_
    refine op_value' 26 (v := .pointer (some ⟨w.heap.size + 2, 0, none⟩)) (w' := (((w.drew.alloc (.cells (madeCells #[.int .u8 0] N) 5)).alloc (.cells (madeCells #[.int .u8 0] N) 5)).alloc (.cells #[.pointer none, .pointer none, .pointer none, .pointer none, .slice (some ⟨w.heap.size, 0, none⟩) N N, .slice (some ⟨w.heap.size + 1, 0, none⟩) N N, .slice none 0 0] 39))) rfl (by rfl) rfl (by go_simp) ⟨trivial, ?_⟩
    simp only [List.setIfInBounds_toArray, List.set_cons_zero, List.set_cons_succ]
    refine any_one 6 (by kernel_rfl) ?_
    refine op_value' 8 (v := .pointer (some ⟨w.heap.size + 2, 0, none⟩)) (w' := (((w.drew.alloc (.cells (madeCells #[.int .u8 0] N) 5)).alloc (.cells (madeCells #[.int .u8 0] N) 5)).alloc (.cells #[.pointer none, .pointer none, .pointer none, .pointer none, .slice (some ⟨w.heap.size, 0, none⟩) N N, .slice (some ⟨w.heap.size + 1, 0, none⟩) N N, .slice none 0 0] 39))) rfl (by rfl) rfl (by go_simp) ⟨trivial, ?_⟩
    simp only [List.setIfInBounds_toArray, List.set_cons_zero, List.set_cons_succ]
    refine wpAnyH_done (by kernel_rfl) ?_ _
    have hz1 : (w.drew.alloc (.cells (madeCells #[.int .u8 0] N) 5)).heap.size = w.heap.size + 1 := by simp
    have hz2 : ((w.drew.alloc (.cells (madeCells #[.int .u8 0] N) 5)).alloc (.cells (madeCells #[.int .u8 0] N) 5)).heap.size = w.heap.size + 2 := by simp
    have hz3 : (((w.drew.alloc (.cells (madeCells #[.int .u8 0] N) 5)).alloc (.cells (madeCells #[.int .u8 0] N) 5)).alloc (.cells (box0 (w.heap.size) (w.heap.size + 1) N) 39)).heap.size = w.heap.size + 3 := by simp
    have hm1 : Mem (w.drew.alloc (.cells (madeCells #[.int .u8 0] N) 5)) w.heap.size N (fun _ => 0) := mem_made w.drew N
    have hm2 : Mem ((w.drew.alloc (.cells (madeCells #[.int .u8 0] N) 5)).alloc (.cells (madeCells #[.int .u8 0] N) 5)) (w.heap.size + 1) N (fun _ => 0) := by have h := mem_made (w.drew.alloc (.cells (madeCells #[.int .u8 0] N) 5)) N; rw [hz1] at h; exact h
    have hm1' : Mem (((w.drew.alloc (.cells (madeCells #[.int .u8 0] N) 5)).alloc (.cells (madeCells #[.int .u8 0] N) 5)).alloc (.cells (box0 (w.heap.size) (w.heap.size + 1) N) 39)) w.heap.size N (fun _ => 0) := (hm1.below ((Below.refl _ _).alloc (Nat.le_refl _) _)).below ((Below.refl _ _).alloc (Nat.le_refl _) _)
    have hm2' : Mem (((w.drew.alloc (.cells (madeCells #[.int .u8 0] N) 5)).alloc (.cells (madeCells #[.int .u8 0] N) 5)).alloc (.cells (box0 (w.heap.size) (w.heap.size + 1) N) 39)) (w.heap.size + 1) N (fun _ => 0) := hm2.below ((Below.refl _ _).alloc (Nat.le_refl _) _)
    have hbx : (((w.drew.alloc (.cells (madeCells #[.int .u8 0] N) 5)).alloc (.cells (madeCells #[.int .u8 0] N) 5)).alloc (.cells (box0 (w.heap.size) (w.heap.size + 1) N) 39)).heap[w.heap.size + 2]? = some (.cells (box0 (w.heap.size) (w.heap.size + 1) N) 39 (0, 0)) := by have h := (MapKept.heap_alloc ((w.drew.alloc (.cells (madeCells #[.int .u8 0] N) 5)).alloc (.cells (madeCells #[.int .u8 0] N) 5)) (.cells (box0 (w.heap.size) (w.heap.size + 1) N) 39)).1; rw [hz2] at h; exact h
    have hbl : Below w.heap.size w (((w.drew.alloc (.cells (madeCells #[.int .u8 0] N) 5)).alloc (.cells (madeCells #[.int .u8 0] N) 5)).alloc (.cells (box0 (w.heap.size) (w.heap.size + 1) N) 39)) := ((((Below.refl w.heap.size w).drew).alloc (Nat.le_refl _) _).alloc (by rw [hz1]; omega) _).alloc (by rw [hz2]; omega) _
    change Exit.then _ _ _ _ (((w.drew.alloc (.cells (madeCells #[.int .u8 0] N) 5)).alloc (.cells (madeCells #[.int .u8 0] N) 5)).alloc (.cells (box0 (w.heap.size) (w.heap.size + 1) N) 39))
    clear hm1 hm2 hz1 hz2
    generalize ((w.drew.alloc (.cells (madeCells #[.int .u8 0] N) 5)).alloc (.cells (madeCells #[.int .u8 0] N) 5)).alloc (.cells (box0 (w.heap.size) (w.heap.size + 1) N) 39) = W at *
    have HM := hid hm1'
    have HM2 := hid hm2'
    have q1 : w.heap.size ≤ w.heap.size := by omega
    have q2 : w.heap.size ≤ w.heap.size + 1 := by omega
    have q3 : w.heap.size < w.heap.size + 2 := by omega
    have q4 : w.heap.size + 1 < w.heap.size + 2 := by omega
    have q5 : w.heap.size ≠ w.heap.size + 1 := by omega
    have q6 : w.heap.size ≤ w.heap.size + 2 := by omega
    clear hm1' hm2'
    generalize hsz : w.heap.size = s0 at *
    generalize hg1 : s0 + 1 = g1 at *
    generalize hpb : s0 + 2 = pb at *

    have HSZ := hid hsz
    have HBX := hid hbx
    have HBL := hid hbl
    have hpbW : pb < W.heap.size := by omega
    have r1 : pb ≠ s0 := by omega
    have r2 : pb ≠ g1 := by omega
    clear hsz hbx hbl hS
    go_wp2
    go_loopw [9] (fun x wx => ∃ k : Nat, k ≤ N ∧ x = .int .i64 k ∧ Mem wx s0 N (fill k) ∧ Mem wx g1 N (fill k) ∧ Mods (fun b => b = s0 ∨ b = g1) W wx) (fun x _ => N - (RowKit.intOf x).toNat)
    case atStart => exact ⟨0, Nat.zero_le _, rfl, HM.out.congr (fun i _ => by simp [fill]), HM2.out.congr (fun i _ => by simp [fill]), Mods.refl _ _⟩
    case round =>
      obtain ⟨k, hk, rfl, hm, hm2, hmo⟩ := hrel
      have hbxr := (hmo.block pb hpbW (by omega)).trans HBX.out
      obtain ⟨b0, b1, b2, b3, b4, b5, bz⟩ := box0_cells hbxr
      have HMk := hid hm
      have HMk2 := hid hm2
      have HMO := hid hmo
      by_cases hlt : k < N
      · have hki : (k : Int) < N := by omega
        have hk0 : (0 : Int) ≤ (k : Int) := by omega
        have ek : IntKind.i64.wrap ((k : Int) + 1) = (k : Int) + 1 := IntWalk.i64_in _ (by omega)
        have hw8 : IntKind.u8.wrap (k : Int) = (k : Int) % 256 := IntKind.wrap_u8 _
        have cg := hm.cell hlt
        have fz := hm.frozen k
        have hmS : Mods (fun b => b = s0) wr (wr.setCell ⟨s0, k, none⟩ (.int .u8 ((k : Int) % 256))) := (Mods.refl (fun b => b = s0) wr).setCell _ k _ rfl
        have c5 := hmS.cell b5 r1
        have hm2S := hm2.mods hmS (fun e => q5 e.symm)
        have cg2 := hm2S.cell hlt
        have fz2 := hm2S.frozen k
        have HM2S := hid hm2S
        clear hm hm2 hmo hbxr hm2S hmS bz
        go_wp2
        go_roundw
        case rel =>
          refine ⟨k + 1, by omega, by go_num, ?_, ?_, (HMO.out.setCell s0 k _ (.inl rfl)).setCell g1 k _ (.inr rfl)⟩
          · refine ((HMk.out.set1 k ((k : Int) % 256) (by unfold IsB; omega)).mods ((Mods.refl (fun b => b = g1) _).setCell g1 k (.int .u8 ((k : Int) % 256)) rfl) q5).congr (fun i _ => (fill_step k i).symm)
          · exact (HM2S.out.set1 k ((k : Int) % 256) (by unfold IsB; omega)).congr (fun i _ => (fill_step k i).symm)
        case measure => simp only [RowKit.intOf]; omega
      · have hki : ¬ ((k : Int) < N) := by omega
        obtain rfl : N = k := by omega
        have hswr := hmo.size
        have HBLr : Hid (Below s0 w wr) := hid (hmo.to_below HBL.out (by omega) (fun b e => by rcases e with e | e <;> omega))
        clear hm hm2 hmo hlt
        by_cases hfit : Fit N base n
        · have HF0 := hid hfit
          obtain ⟨hz, hb0, hb1, hf2⟩ := hfit
          rcases sizeI_cases n with ⟨hp, hs, hn1, hn2⟩ | ⟨_, hs⟩
          · rw [hs] at hf2
            obtain ⟨b, rfl⟩ : ∃ b : Nat, base = b := ⟨base.toNat, by omega⟩
            obtain ⟨m, rfl⟩ : ∃ m : Nat, n = m := ⟨n.toNat, by omega⟩
            have hgeo : Geo b m N (b + 16 * m) (b + 18 * m + 4) (16 * m) (4 + 2 * m) (4 + 8 * m) := ⟨by omega, by omega, rfl, rfl, rfl, rfl, rfl, by omega, by omega⟩
            obtain ⟨q, hq⟩ : ∃ q : Qu, q = (⟨s0, b, m, N, b + 16 * m, b + 18 * m + 4, 16 * m, 4 + 2 * m, 4 + 8 * m, hgeo⟩ : Qu) := ⟨_, rfl⟩
            have hqg : q.g = s0 := by rw [hq]
            have hqn : q.n = m := by rw [hq]
            have hqb : q.base = b := by rw [hq]
            have hqN : q.N = N := by rw [hq]
            have hc1 := NewDriver_ok wr q N N (fill N) (by rw [hqg, hqN]; exact HMk.out) (by rw [hqn]; exact hp) (by rw [hqb, hqn]; omega) (Nat.le_refl _) (by omega)
            have hc2 := fun w1 h => rNewDriver_ok w1 q g1 (fill N) h (by rw [hqn]; exact hp)
            have hc3 := fun w2 h => NewDevice_ok w2 q N N (by rw [hqn]; exact hp) (by rw [hqb, hqn]; omega) (Nat.le_refl _) (by omega) h
            rw [hqg, hqb, hqn, hqN] at hc1
            simp only [hqg, hqb, hqn, hqN] at hc2 hc3
            have HC1 := hid hc1
            have HC2 := hid hc2
            have HC3 := hid hc3
            have HQ := hid (And.intro hqg (And.intro hqn (And.intro hqb hqN)))
            clear hc1 hc2 hc3 hqg hqn hqb hqN hq hgeo bz hz hf2 hs hp hb0 hb1 hn1 hn2
            go_wp2_with fail
            refine HC1.out.mono ?_
            rintro e w1 ⟨pd, rfl, hmo1, hme1, al, hdrv, hal⟩
            replace b4 := hmo1.cell b4 (by omega)
            replace b5 := hmo1.cell b5 (by omega)
            have HME1 := hid hme1
            have HDR := hid hdrv
            have HAL := hid hal
            have HMO1 := hid hmo1
            have HMN1 := hid (HMk2.out.mods hmo1 (fun e => q5 e.symm))
            clear hmo1 hme1 hdrv hal HC1
            go_wp2_with fail
            refine (HC2.out w1 HMN1.out).mono ?_
            rintro e w2 ⟨px, rfl, hmo2, hme2, ar, hrdr, har⟩
            replace b4 := hmo2.cell b4 (by omega)
            replace b5 := hmo2.cell b5 (by omega)
            have HME2 := hid hme2
            have HRD := hid hrdr
            have HAR := hid har
            have HMO2 := hid hmo2
            have HMM2 := hid (HME1.out.mods hmo2 q5)
            clear hmo2 hme2 hrdr har HC2
            go_wp2_with fail
            refine (HC3.out w2 HMM2.out.lt).mono ?_
            rintro e w3 ⟨pv, rfl, hb3, hpv, hdev⟩
            replace b4 := cell_later hb3 b4
            replace b5 := cell_later hb3 b5
            have HDV := hid hdev
            have HB3 := hid hb3
            have HPV := hid hpv
            clear hb3 hdev hpv HC3
            go_wp2_with fail
            refine (refNewDevice_ok w3 g1 N N b m (by omega) HF0.out (HME2.out.below HB3.out).lt).mono ?_
            rintro e w4 ⟨py, rfl, hb4, hpy, hrdv⟩
            replace b4 := cell_later hb4 b4
            replace b5 := cell_later hb4 b5
            have HRV := hid hrdv
            have HB4 := hid hb4
            have HPY := hid hpy
            have HMM4 := hid ((HMM2.out.below HB3.out).below hb4)
            have HMN4 := hid ((HME2.out.below HB3.out).below hb4)
            clear hb4 hrdv hpy
            have hcv1 : ∀ j : Nat, (convert 36 9 (.slice (some ⟨s0, 0, none⟩) N N)).run Try.prog (w4.drewN j) = .ok (.string (strOfNums (at_ (zr (fill N) b (8 + 26 * m)) 0 N))) (w4.drewN j) := fun j => Mem.conv (HMM4.out.below (below_drewN (Below.refl w4.heap.size w4) j)) (Nat.le_refl _)
            have hcv2 : ∀ j : Nat, (convert 36 9 (.slice (some ⟨g1, 0, none⟩) N N)).run Try.prog (w4.drewN j) = .ok (.string (strOfNums (at_ (zr (fill N) b (8 + 26 * m)) 0 N))) (w4.drewN j) := fun j => Mem.conv (HMN4.out.below (below_drewN (Below.refl w4.heap.size w4) j)) (Nat.le_refl _)
            generalize strOfNums (at_ (zr (fill N) b (8 + 26 * m)) 0 N) = str at *
            go_wp2
            go_quiet (fail)
            obtain ⟨w5, hw5⟩ : ∃ w5, w5 = w4.drewN nq := ⟨_, rfl⟩
            rw [← hw5]
            have hb5 : Below w4.heap.size w4 w5 := by rw [hw5]; exact below_drewN (Below.refl _ _) _
            clear hw5 hcv1 hcv2 b0 b1 b2 b3 b4 b5
            have HB5 := hid hb5
            clear hb5
            have z1 := HMO1.out.size
            have z2 := HMO2.out.size
            have z3 := HB3.out.size
            have z4 := HB4.out.size
            have z5 := HB5.out.size
            have hbx5 : w5.heap[pb]? = some (.cells (box0 s0 g1 N) 39 (0, 0)) := (HB5.out.block pb (by omega)).trans ((HB4.out.block pb (by omega)).trans ((HB3.out.block pb (by omega)).trans ((HMO2.out.block pb (by omega) r2).trans ((HMO1.out.block pb (by omega) r1).trans hbxr))))
            have hx0 := setc hbx5 0 (.pointer (some ⟨pd, 0, none⟩))
            have hx2 := setc hx0 2 (.pointer (some ⟨px, 0, none⟩))
            have hx1 := setc hx2 1 (.pointer (some ⟨pv, 0, none⟩))
            have hx3 := setc hx1 3 (.pointer (some ⟨py, 0, none⟩))
            obtain ⟨y0, f0⟩ := cells39 hbx5 0 _ rfl
            obtain ⟨y2, f2⟩ := cells39 hx0 2 (.pointer none) rfl
            obtain ⟨y1, f1⟩ := cells39 hx2 1 (.pointer none) rfl
            obtain ⟨y3, f3⟩ := cells39 hx1 3 (.pointer none) rfl
            have HX3 := hid hx3
            have hm6 : Mods (fun b => b = pb) w5 ((((w5.setCell ⟨pb, 0, none⟩ (.pointer (some ⟨pd, 0, none⟩))).setCell ⟨pb, 2, none⟩ (.pointer (some ⟨px, 0, none⟩))).setCell ⟨pb, 1, none⟩ (.pointer (some ⟨pv, 0, none⟩))).setCell ⟨pb, 3, none⟩ (.pointer (some ⟨py, 0, none⟩))) := (((((Mods.refl (fun b => b = pb) w5).setCell pb 0 _ rfl).setCell pb 2 _ rfl).setCell pb 1 _ rfl).setCell pb 3 _ rfl)
            have HM6 := hid hm6
            clear hbx5 hx0 hx2 hx1 hx3 hm6 hbxr
            go_wp2
            go_ret2
            generalize (((w5.setCell ⟨pb, 0, none⟩ (.pointer (some ⟨pd, 0, none⟩))).setCell ⟨pb, 2, none⟩ (.pointer (some ⟨px, 0, none⟩))).setCell ⟨pb, 1, none⟩ (.pointer (some ⟨pv, 0, none⟩))).setCell ⟨pb, 3, none⟩ (.pointer (some ⟨py, 0, none⟩)) = w6 at *
            obtain ⟨hqg, hqn, hqb, hqN⟩ := HQ.out
            have z6 := HM6.out.size
            have k1 : ∀ x, x < w1.heap.size → x ≠ g1 → x ≠ pb → w6.heap[x]? = w1.heap[x]? := fun x hx h1 h2 => (HM6.out.block x (by omega) h2).trans ((HB5.out.block x (by omega)).trans ((HB4.out.block x (by omega)).trans ((HB3.out.block x (by omega)).trans (HMO2.out.block x hx h1))))
            have k2 : ∀ x, x < w2.heap.size → x ≠ pb → w6.heap[x]? = w2.heap[x]? := fun x hx h2 => (HM6.out.block x (by omega) h2).trans ((HB5.out.block x (by omega)).trans ((HB4.out.block x (by omega)).trans (HB3.out.block x hx)))
            have k3 : ∀ x, x < w3.heap.size → x ≠ pb → w6.heap[x]? = w3.heap[x]? := fun x hx h2 => (HM6.out.block x (by omega) h2).trans ((HB5.out.block x (by omega)).trans (HB4.out.block x hx))
            have k4 : ∀ x, x < w4.heap.size → x ≠ pb → w6.heap[x]? = w4.heap[x]? := fun x hx h2 => (HM6.out.block x (by omega) h2).trans (HB5.out.block x hx)
            have hbF : Below s0 w w6 := HM6.out.to_below ((((HMO2.out.to_below (HMO1.out.to_below HBLr.out (by omega) (fun x e => by have e : x = s0 := e; omega)) (by omega) (fun x e => by have e : x = g1 := e; omega)).trans (HB3.out.mono (by omega))).trans (HB4.out.mono (by omega))).trans (HB5.out.mono (by omega))) (by omega) (fun x e => by have e : x = pb := e; omega)
            refine .inr ⟨⟨pb, pd, pv, px, py, g1, q⟩, ⟨A0 m, zr (fill N) b (8 + 26 * m), 0, 0⟩, rfl, .slice none 0 0, al, ar, labOf s0 s0 g1 pb wr.heap.size w1.heap.size w2.heap.size w3.heap.size w4.heap.size, ?_, ?_⟩
            · have hdl := HDR.out.lt
              have hrl := HRD.out.lt
              have hvl := HDV.out.lt
              have hyl := HRV.out.lt
              have hpv := HPV.out
              have hpy := HPY.out
              refine { box := ?_, drv := ?_, dev := ?_, mem := ?_, rdrv := ?_, rdev := ?_, rmem := ?_, tk := ⟨rfl, .inl ⟨rfl, rfl⟩⟩, l1 := ?_, l2 := ?_, l3 := ?_, l4 := ?_, l5 := ?_, l6 := ?_, l7 := ?_, l8 := ?_, low := ?_, bel := ?_ }
              · refine HX3.out.trans ?_
                unfold boxV
                simp only [hqg, hqN]
                rfl
              · exact HDR.out.keep (by omega) (fun x hx => k1 x (hdl x hx) (by have := HAL.out x hx; omega) (by have := HAL.out x hx; omega))
              · exact HDV.out.keep (k3 pv hvl (by omega))
              · simp only [hqg, hqN]
                exact HMM4.out.keep (k4 s0 HMM4.out.lt (by omega))
              · exact HRD.out.keep (by omega) (fun x hx => k2 x (hrl x hx) (by have := HAR.out x hx; omega))
              · simp only [hqb, hqn, hqN]
                exact HRV.out.keep (k4 py hyl (by omega))
              · simp only [hqN]
                exact HMN4.out.keep (k4 g1 HMN4.out.lt (by omega))
              · intro x hx
                have h1 := HAL.out x hx
                have h2 := hdl x hx
                unfold labOf
                repeat' split
                all_goals omega
              · show labOf s0 s0 g1 pb wr.heap.size w1.heap.size w2.heap.size w3.heap.size w4.heap.size pv = 2
                unfold labOf
                repeat' split
                all_goals omega
              · show labOf s0 s0 g1 pb wr.heap.size w1.heap.size w2.heap.size w3.heap.size w4.heap.size q.g = 3
                rw [hqg]
                unfold labOf
                repeat' split
                all_goals omega
              · intro x hx
                have h1 := HAR.out x hx
                have h2 := hrl x hx
                unfold labOf
                repeat' split
                all_goals omega
              · show labOf s0 s0 g1 pb wr.heap.size w1.heap.size w2.heap.size w3.heap.size w4.heap.size py = 5
                unfold labOf
                repeat' split
                all_goals omega
              · show labOf s0 s0 g1 pb wr.heap.size w1.heap.size w2.heap.size w3.heap.size w4.heap.size g1 = 6
                unfold labOf
                repeat' split
                all_goals omega
              · show labOf s0 s0 g1 pb wr.heap.size w1.heap.size w2.heap.size w3.heap.size w4.heap.size pb = 7
                unfold labOf
                repeat' split
                all_goals omega
              · intro x hx
                simp [Value.ownBlock] at hx
              · intro x hx
                rw [HSZ.out] at hx
                unfold labOf
                rw [if_pos hx]
              · rw [HSZ.out]
                exact hbF
            · intro x hx
              have hx2 : x < w.heap.size := hx
              rw [HSZ.out] at hx2
              refine ⟨by omega, ?_⟩
              unfold labOf
              rw [if_pos hx2]
          · rw [hs] at hz; omega
        · have HF := hid hfit
          clear hfit bz
          go_wp2_with fail
          refine (NewDriver_bad wr _ N N base n (by omega) HB64.out HF.out).mono ?_
          rintro e w1 ⟨rfl, hb1⟩
          have b4' := cell_later hb1 b4
          have b5' := cell_later hb1 b5
          have HB1 := hid hb1
          clear hb1
          go_wp2_with fail
          refine (refNewDriver_bad w1 _ N N base n HF.out).mono ?_
          rintro e w1' ⟨rfl, hw⟩
          rw [hw]
          clear hw w1'
          go_wp2_with fail
          refine (NewDevice_bad w1 _ N N base n (by omega) HB64.out HF.out).mono ?_
          rintro e w2 ⟨rfl, hb2⟩
          replace b4' := cell_later hb2 b4'
          replace b5' := cell_later hb2 b5'
          have HB2 := hid hb2
          clear hb2
          go_wp2_with fail
          refine (refNewDevice_bad w2 _ N N base n HF.out).mono ?_
          rintro e w2' ⟨rfl, hw⟩
          rw [hw]
          clear hw w2'
          have hcv1 : ∀ j : Nat, (convert 36 9 (.slice (some ⟨s0, 0, none⟩) N N)).run Try.prog (w2.drewN j) = .ok (.string (strOfNums (at_ (fill N) 0 N))) (w2.drewN j) := fun j => Mem.conv ((((HMk.out.below HB1.out).below HB2.out)).below (below_drewN (Below.refl w2.heap.size w2) j)) (Nat.le_refl _)
          have hcv2 : ∀ j : Nat, (convert 36 9 (.slice (some ⟨g1, 0, none⟩) N N)).run Try.prog (w2.drewN j) = .ok (.string (strOfNums (at_ (fill N) 0 N))) (w2.drewN j) := fun j => Mem.conv ((((HMk2.out.below HB1.out).below HB2.out)).below (below_drewN (Below.refl w2.heap.size w2) j)) (Nat.le_refl _)
          generalize strOfNums (at_ (fill N) 0 N) = str at *
          go_wp2
          go_quiet (fail)
          go_wp2
          go_ret2
          have hs1 := HB1.out.size
          have hs2 := HB2.out.size
          have hbF : Below s0 w (w2.drewN nq) := ((HBLr.out.trans (HB1.out.mono (by omega))).trans (HB2.out.mono (by omega))).trans ((below_drewN (Below.refl w2.heap.size w2) nq).mono (by omega))
          exact .inl ⟨rfl, by rw [HSZ.out]; exact hbF⟩
  · refine op_value' 24 (v := .slice (some ⟨w.heap.size, 0, none⟩) N N) (w' := (w.drew.alloc (.cells (madeCells #[.int .u8 0] N) 5))) rfl (by rfl) rfl (by go_simp) ⟨trivial, ?_⟩
    simp only [List.setIfInBounds_toArray, List.set_cons_zero, List.set_cons_succ]
    refine any_one 1 (by kernel_rfl) ?_
    refine op_value' 22 (v := .slice (some ⟨w.heap.size + 1, 0, none⟩) N N) (w' := ((w.drew.alloc (.cells (madeCells #[.int .u8 0] N) 5)).alloc (.cells (madeCells #[.int .u8 0] N) 5))) rfl (by rfl) rfl (by go_simp) ⟨trivial, ?_⟩
    simp only [List.setIfInBounds_toArray, List.set_cons_zero, List.set_cons_succ]
    refine any_one 4 (by kernel_rfl) ?_
    refine op_value' 25 (v := .agg #[.pointer none, .pointer none, .pointer none, .pointer none, .slice (some ⟨w.heap.size + 1, 0, none⟩) N N, .slice (some ⟨w.heap.size, 0, none⟩) N N, .slice none 0 0]) (w' := ((w.drew.alloc (.cells (madeCells #[.int .u8 0] N) 5)).alloc (.cells (madeCells #[.int .u8 0] N) 5))) rfl (by rfl) rfl (by go_simp) ⟨trivial, ?_⟩
    simp only [List.setIfInBounds_toArray, List.set_cons_zero, List.set_cons_succ]
    refine any_one 5 (by kernel_rfl) ?_
    refine op_value' 26 (v := .pointer (some ⟨w.heap.size + 2, 0, none⟩)) (w' := (((w.drew.alloc (.cells (madeCells #[.int .u8 0] N) 5)).alloc (.cells (madeCells #[.int .u8 0] N) 5)).alloc (.cells #[.pointer none, .pointer none, .pointer none, .pointer none, .slice (some ⟨w.heap.size + 1, 0, none⟩) N N, .slice (some ⟨w.heap.size, 0, none⟩) N N, .slice none 0 0] 39))) rfl (by rfl) rfl (by go_simp) ⟨trivial, ?_⟩
    simp only [List.setIfInBounds_toArray, List.set_cons_zero, List.set_cons_succ]
    refine any_one 6 (by kernel_rfl) ?_
    refine op_value' 8 (v := .pointer (some ⟨w.heap.size + 2, 0, none⟩)) (w' := (((w.drew.alloc (.cells (madeCells #[.int .u8 0] N) 5)).alloc (.cells (madeCells #[.int .u8 0] N) 5)).alloc (.cells #[.pointer none, .pointer none, .pointer none, .pointer none, .slice (some ⟨w.heap.size + 1, 0, none⟩) N N, .slice (some ⟨w.heap.size, 0, none⟩) N N, .slice none 0 0] 39))) rfl (by rfl) rfl (by go_simp) ⟨trivial, ?_⟩
    simp only [List.setIfInBounds_toArray, List.set_cons_zero, List.set_cons_succ]
    refine wpAnyH_done (by kernel_rfl) ?_ _
    have hz1 : (w.drew.alloc (.cells (madeCells #[.int .u8 0] N) 5)).heap.size = w.heap.size + 1 := by simp
    have hz2 : ((w.drew.alloc (.cells (madeCells #[.int .u8 0] N) 5)).alloc (.cells (madeCells #[.int .u8 0] N) 5)).heap.size = w.heap.size + 2 := by simp
    have hz3 : (((w.drew.alloc (.cells (madeCells #[.int .u8 0] N) 5)).alloc (.cells (madeCells #[.int .u8 0] N) 5)).alloc (.cells (box0 (w.heap.size + 1) (w.heap.size) N) 39)).heap.size = w.heap.size + 3 := by simp
    have hm1 : Mem (w.drew.alloc (.cells (madeCells #[.int .u8 0] N) 5)) w.heap.size N (fun _ => 0) := mem_made w.drew N
    have hm2 : Mem ((w.drew.alloc (.cells (madeCells #[.int .u8 0] N) 5)).alloc (.cells (madeCells #[.int .u8 0] N) 5)) (w.heap.size + 1) N (fun _ => 0) := by have h := mem_made (w.drew.alloc (.cells (madeCells #[.int .u8 0] N) 5)) N; rw [hz1] at h; exact h
    have hm1' : Mem (((w.drew.alloc (.cells (madeCells #[.int .u8 0] N) 5)).alloc (.cells (madeCells #[.int .u8 0] N) 5)).alloc (.cells (box0 (w.heap.size + 1) (w.heap.size) N) 39)) w.heap.size N (fun _ => 0) := (hm1.below ((Below.refl _ _).alloc (Nat.le_refl _) _)).below ((Below.refl _ _).alloc (Nat.le_refl _) _)
    have hm2' : Mem (((w.drew.alloc (.cells (madeCells #[.int .u8 0] N) 5)).alloc (.cells (madeCells #[.int .u8 0] N) 5)).alloc (.cells (box0 (w.heap.size + 1) (w.heap.size) N) 39)) (w.heap.size + 1) N (fun _ => 0) := hm2.below ((Below.refl _ _).alloc (Nat.le_refl _) _)
    have hbx : (((w.drew.alloc (.cells (madeCells #[.int .u8 0] N) 5)).alloc (.cells (madeCells #[.int .u8 0] N) 5)).alloc (.cells (box0 (w.heap.size + 1) (w.heap.size) N) 39)).heap[w.heap.size + 2]? = some (.cells (box0 (w.heap.size + 1) (w.heap.size) N) 39 (0, 0)) := by have h := (MapKept.heap_alloc ((w.drew.alloc (.cells (madeCells #[.int .u8 0] N) 5)).alloc (.cells (madeCells #[.int .u8 0] N) 5)) (.cells (box0 (w.heap.size + 1) (w.heap.size) N) 39)).1; rw [hz2] at h; exact h
    have hbl : Below w.heap.size w (((w.drew.alloc (.cells (madeCells #[.int .u8 0] N) 5)).alloc (.cells (madeCells #[.int .u8 0] N) 5)).alloc (.cells (box0 (w.heap.size + 1) (w.heap.size) N) 39)) := ((((Below.refl w.heap.size w).drew).alloc (Nat.le_refl _) _).alloc (by rw [hz1]; omega) _).alloc (by rw [hz2]; omega) _
    change Exit.then _ _ _ _ (((w.drew.alloc (.cells (madeCells #[.int .u8 0] N) 5)).alloc (.cells (madeCells #[.int .u8 0] N) 5)).alloc (.cells (box0 (w.heap.size + 1) (w.heap.size) N) 39))
    clear hm1 hm2 hz1 hz2
    generalize ((w.drew.alloc (.cells (madeCells #[.int .u8 0] N) 5)).alloc (.cells (madeCells #[.int .u8 0] N) 5)).alloc (.cells (box0 (w.heap.size + 1) (w.heap.size) N) 39) = W at *
    have HM := hid hm2'
    have HM2 := hid hm1'
    have q1 : w.heap.size ≤ w.heap.size + 1 := by omega
    have q2 : w.heap.size ≤ w.heap.size := by omega
    have q3 : w.heap.size + 1 < w.heap.size + 2 := by omega
    have q4 : w.heap.size < w.heap.size + 2 := by omega
    have q5 : w.heap.size + 1 ≠ w.heap.size := by omega
    have q6 : w.heap.size ≤ w.heap.size + 2 := by omega
    clear hm1' hm2'
    generalize hsz : w.heap.size = s0 at *
    generalize hg1 : s0 + 1 = g1 at *
    generalize hpb : s0 + 2 = pb at *

    have HSZ := hid hsz
    have HBX := hid hbx
    have HBL := hid hbl
    have hpbW : pb < W.heap.size := by omega
    have r1 : pb ≠ g1 := by omega
    have r2 : pb ≠ s0 := by omega
    clear hsz hbx hbl hS
    go_wp2
    go_loopw [9] (fun x wx => ∃ k : Nat, k ≤ N ∧ x = .int .i64 k ∧ Mem wx g1 N (fill k) ∧ Mem wx s0 N (fill k) ∧ Mods (fun b => b = g1 ∨ b = s0) W wx) (fun x _ => N - (RowKit.intOf x).toNat)
    case atStart => exact ⟨0, Nat.zero_le _, rfl, HM.out.congr (fun i _ => by simp [fill]), HM2.out.congr (fun i _ => by simp [fill]), Mods.refl _ _⟩
    case round =>
      obtain ⟨k, hk, rfl, hm, hm2, hmo⟩ := hrel
      have hbxr := (hmo.block pb hpbW (by omega)).trans HBX.out
      obtain ⟨b0, b1, b2, b3, b4, b5, bz⟩ := box0_cells hbxr
      have HMk := hid hm
      have HMk2 := hid hm2
      have HMO := hid hmo
      by_cases hlt : k < N
      · have hki : (k : Int) < N := by omega
        have hk0 : (0 : Int) ≤ (k : Int) := by omega
        have ek : IntKind.i64.wrap ((k : Int) + 1) = (k : Int) + 1 := IntWalk.i64_in _ (by omega)
        have hw8 : IntKind.u8.wrap (k : Int) = (k : Int) % 256 := IntKind.wrap_u8 _
        have cg := hm.cell hlt
        have fz := hm.frozen k
        have hmS : Mods (fun b => b = g1) wr (wr.setCell ⟨g1, k, none⟩ (.int .u8 ((k : Int) % 256))) := (Mods.refl (fun b => b = g1) wr).setCell _ k _ rfl
        have c5 := hmS.cell b5 r1
        have hm2S := hm2.mods hmS (fun e => q5 e.symm)
        have cg2 := hm2S.cell hlt
        have fz2 := hm2S.frozen k
        have HM2S := hid hm2S
        clear hm hm2 hmo hbxr hm2S hmS bz
        go_wp2
        go_roundw
        case rel =>
          refine ⟨k + 1, by omega, by go_num, ?_, ?_, (HMO.out.setCell g1 k _ (.inl rfl)).setCell s0 k _ (.inr rfl)⟩
          · refine ((HMk.out.set1 k ((k : Int) % 256) (by unfold IsB; omega)).mods ((Mods.refl (fun b => b = s0) _).setCell s0 k (.int .u8 ((k : Int) % 256)) rfl) q5).congr (fun i _ => (fill_step k i).symm)
          · exact (HM2S.out.set1 k ((k : Int) % 256) (by unfold IsB; omega)).congr (fun i _ => (fill_step k i).symm)
        case measure => simp only [RowKit.intOf]; omega
      · have hki : ¬ ((k : Int) < N) := by omega
        obtain rfl : N = k := by omega
        have hswr := hmo.size
        have HBLr : Hid (Below s0 w wr) := hid (hmo.to_below HBL.out (by omega) (fun b e => by rcases e with e | e <;> omega))
        clear hm hm2 hmo hlt
        by_cases hfit : Fit N base n
        · have HF0 := hid hfit
          obtain ⟨hz, hb0, hb1, hf2⟩ := hfit
          rcases sizeI_cases n with ⟨hp, hs, hn1, hn2⟩ | ⟨_, hs⟩
          · rw [hs] at hf2
            obtain ⟨b, rfl⟩ : ∃ b : Nat, base = b := ⟨base.toNat, by omega⟩
            obtain ⟨m, rfl⟩ : ∃ m : Nat, n = m := ⟨n.toNat, by omega⟩
            have hgeo : Geo b m N (b + 16 * m) (b + 18 * m + 4) (16 * m) (4 + 2 * m) (4 + 8 * m) := ⟨by omega, by omega, rfl, rfl, rfl, rfl, rfl, by omega, by omega⟩
            obtain ⟨q, hq⟩ : ∃ q : Qu, q = (⟨g1, b, m, N, b + 16 * m, b + 18 * m + 4, 16 * m, 4 + 2 * m, 4 + 8 * m, hgeo⟩ : Qu) := ⟨_, rfl⟩
            have hqg : q.g = g1 := by rw [hq]
            have hqn : q.n = m := by rw [hq]
            have hqb : q.base = b := by rw [hq]
            have hqN : q.N = N := by rw [hq]
            have hc1 := NewDriver_ok wr q N N (fill N) (by rw [hqg, hqN]; exact HMk.out) (by rw [hqn]; exact hp) (by rw [hqb, hqn]; omega) (Nat.le_refl _) (by omega)
            have hc2 := fun w1 h => rNewDriver_ok w1 q s0 (fill N) h (by rw [hqn]; exact hp)
            have hc3 := fun w2 h => NewDevice_ok w2 q N N (by rw [hqn]; exact hp) (by rw [hqb, hqn]; omega) (Nat.le_refl _) (by omega) h
            rw [hqg, hqb, hqn, hqN] at hc1
            simp only [hqg, hqb, hqn, hqN] at hc2 hc3
            have HC1 := hid hc1
            have HC2 := hid hc2
            have HC3 := hid hc3
            have HQ := hid (And.intro hqg (And.intro hqn (And.intro hqb hqN)))
            clear hc1 hc2 hc3 hqg hqn hqb hqN hq hgeo bz hz hf2 hs hp hb0 hb1 hn1 hn2
            go_wp2_with fail
            refine HC1.out.mono ?_
            rintro e w1 ⟨pd, rfl, hmo1, hme1, al, hdrv, hal⟩
            replace b4 := hmo1.cell b4 (by omega)
            replace b5 := hmo1.cell b5 (by omega)
            have HME1 := hid hme1
            have HDR := hid hdrv
            have HAL := hid hal
            have HMO1 := hid hmo1
            have HMN1 := hid (HMk2.out.mods hmo1 (fun e => q5 e.symm))
            clear hmo1 hme1 hdrv hal HC1
            go_wp2_with fail
            refine (HC2.out w1 HMN1.out).mono ?_
            rintro e w2 ⟨px, rfl, hmo2, hme2, ar, hrdr, har⟩
            replace b4 := hmo2.cell b4 (by omega)
            replace b5 := hmo2.cell b5 (by omega)
            have HME2 := hid hme2
            have HRD := hid hrdr
            have HAR := hid har
            have HMO2 := hid hmo2
            have HMM2 := hid (HME1.out.mods hmo2 q5)
            clear hmo2 hme2 hrdr har HC2
            go_wp2_with fail
            refine (HC3.out w2 HMM2.out.lt).mono ?_
            rintro e w3 ⟨pv, rfl, hb3, hpv, hdev⟩
            replace b4 := cell_later hb3 b4
            replace b5 := cell_later hb3 b5
            have HDV := hid hdev
            have HB3 := hid hb3
            have HPV := hid hpv
            clear hb3 hdev hpv HC3
            go_wp2_with fail
            refine (refNewDevice_ok w3 s0 N N b m (by omega) HF0.out (HME2.out.below HB3.out).lt).mono ?_
            rintro e w4 ⟨py, rfl, hb4, hpy, hrdv⟩
            replace b4 := cell_later hb4 b4
            replace b5 := cell_later hb4 b5
            have HRV := hid hrdv
            have HB4 := hid hb4
            have HPY := hid hpy
            have HMM4 := hid ((HMM2.out.below HB3.out).below hb4)
            have HMN4 := hid ((HME2.out.below HB3.out).below hb4)
            clear hb4 hrdv hpy
            have hcv1 : ∀ j : Nat, (convert 36 9 (.slice (some ⟨g1, 0, none⟩) N N)).run Try.prog (w4.drewN j) = .ok (.string (strOfNums (at_ (zr (fill N) b (8 + 26 * m)) 0 N))) (w4.drewN j) := fun j => Mem.conv (HMM4.out.below (below_drewN (Below.refl w4.heap.size w4) j)) (Nat.le_refl _)
            have hcv2 : ∀ j : Nat, (convert 36 9 (.slice (some ⟨s0, 0, none⟩) N N)).run Try.prog (w4.drewN j) = .ok (.string (strOfNums (at_ (zr (fill N) b (8 + 26 * m)) 0 N))) (w4.drewN j) := fun j => Mem.conv (HMN4.out.below (below_drewN (Below.refl w4.heap.size w4) j)) (Nat.le_refl _)
            generalize strOfNums (at_ (zr (fill N) b (8 + 26 * m)) 0 N) = str at *
            go_wp2
            go_quiet (fail)
            obtain ⟨w5, hw5⟩ : ∃ w5, w5 = w4.drewN nq := ⟨_, rfl⟩
            rw [← hw5]
            have hb5 : Below w4.heap.size w4 w5 := by rw [hw5]; exact below_drewN (Below.refl _ _) _
            clear hw5 hcv1 hcv2 b0 b1 b2 b3 b4 b5
            have HB5 := hid hb5
            clear hb5
            have z1 := HMO1.out.size
            have z2 := HMO2.out.size
            have z3 := HB3.out.size
            have z4 := HB4.out.size
            have z5 := HB5.out.size
            have hbx5 : w5.heap[pb]? = some (.cells (box0 g1 s0 N) 39 (0, 0)) := (HB5.out.block pb (by omega)).trans ((HB4.out.block pb (by omega)).trans ((HB3.out.block pb (by omega)).trans ((HMO2.out.block pb (by omega) r2).trans ((HMO1.out.block pb (by omega) r1).trans hbxr))))
            have hx0 := setc hbx5 0 (.pointer (some ⟨pd, 0, none⟩))
            have hx2 := setc hx0 2 (.pointer (some ⟨px, 0, none⟩))
            have hx1 := setc hx2 1 (.pointer (some ⟨pv, 0, none⟩))
            have hx3 := setc hx1 3 (.pointer (some ⟨py, 0, none⟩))
            obtain ⟨y0, f0⟩ := cells39 hbx5 0 _ rfl
            obtain ⟨y2, f2⟩ := cells39 hx0 2 (.pointer none) rfl
            obtain ⟨y1, f1⟩ := cells39 hx2 1 (.pointer none) rfl
            obtain ⟨y3, f3⟩ := cells39 hx1 3 (.pointer none) rfl
            have HX3 := hid hx3
            have hm6 : Mods (fun b => b = pb) w5 ((((w5.setCell ⟨pb, 0, none⟩ (.pointer (some ⟨pd, 0, none⟩))).setCell ⟨pb, 2, none⟩ (.pointer (some ⟨px, 0, none⟩))).setCell ⟨pb, 1, none⟩ (.pointer (some ⟨pv, 0, none⟩))).setCell ⟨pb, 3, none⟩ (.pointer (some ⟨py, 0, none⟩))) := (((((Mods.refl (fun b => b = pb) w5).setCell pb 0 _ rfl).setCell pb 2 _ rfl).setCell pb 1 _ rfl).setCell pb 3 _ rfl)
            have HM6 := hid hm6
            clear hbx5 hx0 hx2 hx1 hx3 hm6 hbxr
            go_wp2
            go_ret2
            generalize (((w5.setCell ⟨pb, 0, none⟩ (.pointer (some ⟨pd, 0, none⟩))).setCell ⟨pb, 2, none⟩ (.pointer (some ⟨px, 0, none⟩))).setCell ⟨pb, 1, none⟩ (.pointer (some ⟨pv, 0, none⟩))).setCell ⟨pb, 3, none⟩ (.pointer (some ⟨py, 0, none⟩)) = w6 at *
            obtain ⟨hqg, hqn, hqb, hqN⟩ := HQ.out
            have z6 := HM6.out.size
            have k1 : ∀ x, x < w1.heap.size → x ≠ s0 → x ≠ pb → w6.heap[x]? = w1.heap[x]? := fun x hx h1 h2 => (HM6.out.block x (by omega) h2).trans ((HB5.out.block x (by omega)).trans ((HB4.out.block x (by omega)).trans ((HB3.out.block x (by omega)).trans (HMO2.out.block x hx h1))))
            have k2 : ∀ x, x < w2.heap.size → x ≠ pb → w6.heap[x]? = w2.heap[x]? := fun x hx h2 => (HM6.out.block x (by omega) h2).trans ((HB5.out.block x (by omega)).trans ((HB4.out.block x (by omega)).trans (HB3.out.block x hx)))
            have k3 : ∀ x, x < w3.heap.size → x ≠ pb → w6.heap[x]? = w3.heap[x]? := fun x hx h2 => (HM6.out.block x (by omega) h2).trans ((HB5.out.block x (by omega)).trans (HB4.out.block x hx))
            have k4 : ∀ x, x < w4.heap.size → x ≠ pb → w6.heap[x]? = w4.heap[x]? := fun x hx h2 => (HM6.out.block x (by omega) h2).trans (HB5.out.block x hx)
            have hbF : Below s0 w w6 := HM6.out.to_below ((((HMO2.out.to_below (HMO1.out.to_below HBLr.out (by omega) (fun x e => by have e : x = g1 := e; omega)) (by omega) (fun x e => by have e : x = s0 := e; omega)).trans (HB3.out.mono (by omega))).trans (HB4.out.mono (by omega))).trans (HB5.out.mono (by omega))) (by omega) (fun x e => by have e : x = pb := e; omega)
            refine .inr ⟨⟨pb, pd, pv, px, py, s0, q⟩, ⟨A0 m, zr (fill N) b (8 + 26 * m), 0, 0⟩, rfl, .slice none 0 0, al, ar, labOf s0 g1 s0 pb wr.heap.size w1.heap.size w2.heap.size w3.heap.size w4.heap.size, ?_, ?_⟩
            · have hdl := HDR.out.lt
              have hrl := HRD.out.lt
              have hvl := HDV.out.lt
              have hyl := HRV.out.lt
              have hpv := HPV.out
              have hpy := HPY.out
              refine { box := ?_, drv := ?_, dev := ?_, mem := ?_, rdrv := ?_, rdev := ?_, rmem := ?_, tk := ⟨rfl, .inl ⟨rfl, rfl⟩⟩, l1 := ?_, l2 := ?_, l3 := ?_, l4 := ?_, l5 := ?_, l6 := ?_, l7 := ?_, l8 := ?_, low := ?_, bel := ?_ }
              · refine HX3.out.trans ?_
                unfold boxV
                simp only [hqg, hqN]
                rfl
              · exact HDR.out.keep (by omega) (fun x hx => k1 x (hdl x hx) (by have := HAL.out x hx; omega) (by have := HAL.out x hx; omega))
              · exact HDV.out.keep (k3 pv hvl (by omega))
              · simp only [hqg, hqN]
                exact HMM4.out.keep (k4 g1 HMM4.out.lt (by omega))
              · exact HRD.out.keep (by omega) (fun x hx => k2 x (hrl x hx) (by have := HAR.out x hx; omega))
              · simp only [hqb, hqn, hqN]
                exact HRV.out.keep (k4 py hyl (by omega))
              · simp only [hqN]
                exact HMN4.out.keep (k4 s0 HMN4.out.lt (by omega))
              · intro x hx
                have h1 := HAL.out x hx
                have h2 := hdl x hx
                unfold labOf
                repeat' split
                all_goals omega
              · show labOf s0 g1 s0 pb wr.heap.size w1.heap.size w2.heap.size w3.heap.size w4.heap.size pv = 2
                unfold labOf
                repeat' split
                all_goals omega
              · show labOf s0 g1 s0 pb wr.heap.size w1.heap.size w2.heap.size w3.heap.size w4.heap.size q.g = 3
                rw [hqg]
                unfold labOf
                repeat' split
                all_goals omega
              · intro x hx
                have h1 := HAR.out x hx
                have h2 := hrl x hx
                unfold labOf
                repeat' split
                all_goals omega
              · show labOf s0 g1 s0 pb wr.heap.size w1.heap.size w2.heap.size w3.heap.size w4.heap.size py = 5
                unfold labOf
                repeat' split
                all_goals omega
              · show labOf s0 g1 s0 pb wr.heap.size w1.heap.size w2.heap.size w3.heap.size w4.heap.size s0 = 6
                unfold labOf
                repeat' split
                all_goals omega
              · show labOf s0 g1 s0 pb wr.heap.size w1.heap.size w2.heap.size w3.heap.size w4.heap.size pb = 7
                unfold labOf
                repeat' split
                all_goals omega
              · intro x hx
                simp [Value.ownBlock] at hx
              · intro x hx
                rw [HSZ.out] at hx
                unfold labOf
                rw [if_pos hx]
              · rw [HSZ.out]
                exact hbF
            · intro x hx
              have hx2 : x < w.heap.size := hx
              rw [HSZ.out] at hx2
              refine ⟨by omega, ?_⟩
              unfold labOf
              rw [if_pos hx2]
          · rw [hs] at hz; omega
        · have HF := hid hfit
          clear hfit bz
          go_wp2_with fail
          refine (NewDriver_bad wr _ N N base n (by omega) HB64.out HF.out).mono ?_
          rintro e w1 ⟨rfl, hb1⟩
          have b4' := cell_later hb1 b4
          have b5' := cell_later hb1 b5
          have HB1 := hid hb1
          clear hb1
          go_wp2_with fail
          refine (refNewDriver_bad w1 _ N N base n HF.out).mono ?_
          rintro e w1' ⟨rfl, hw⟩
          rw [hw]
          clear hw w1'
          go_wp2_with fail
          refine (NewDevice_bad w1 _ N N base n (by omega) HB64.out HF.out).mono ?_
          rintro e w2 ⟨rfl, hb2⟩
          replace b4' := cell_later hb2 b4'
          replace b5' := cell_later hb2 b5'
          have HB2 := hid hb2
          clear hb2
          go_wp2_with fail
          refine (refNewDevice_bad w2 _ N N base n HF.out).mono ?_
          rintro e w2' ⟨rfl, hw⟩
          rw [hw]
          clear hw w2'
          have hcv1 : ∀ j : Nat, (convert 36 9 (.slice (some ⟨g1, 0, none⟩) N N)).run Try.prog (w2.drewN j) = .ok (.string (strOfNums (at_ (fill N) 0 N))) (w2.drewN j) := fun j => Mem.conv ((((HMk.out.below HB1.out).below HB2.out)).below (below_drewN (Below.refl w2.heap.size w2) j)) (Nat.le_refl _)
          have hcv2 : ∀ j : Nat, (convert 36 9 (.slice (some ⟨s0, 0, none⟩) N N)).run Try.prog (w2.drewN j) = .ok (.string (strOfNums (at_ (fill N) 0 N))) (w2.drewN j) := fun j => Mem.conv ((((HMk2.out.below HB1.out).below HB2.out)).below (below_drewN (Below.refl w2.heap.size w2) j)) (Nat.le_refl _)
          generalize strOfNums (at_ (fill N) 0 N) = str at *
          go_wp2
          go_quiet (fail)
          go_wp2
          go_ret2
          have hs1 := HB1.out.size
          have hs2 := HB2.out.size
          have hbF : Below s0 w (w2.drewN nq) := ((HBLr.out.trans (HB1.out.mono (by omega))).trans (HB2.out.mono (by omega))).trans ((below_drewN (Below.refl w2.heap.size w2) nq).mono (by omega))
          exact .inl ⟨rfl, by rw [HSZ.out]; exact hbF⟩
end Go.Proofs.Ytjnhcbompgmknaa
