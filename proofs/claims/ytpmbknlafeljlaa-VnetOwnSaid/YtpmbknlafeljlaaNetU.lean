/- vnet: what the laws make. -/
import Derived.Test.YtpmbknlafeljlaaNetT
namespace Go.Proofs.Ytpmbknlafeljlaa
open Go.RowKit

def nwi (at_ n : Int) : Int := if at_.tmod n < 0 then at_.tmod n + n else at_.tmod n
theorem nwi_bd (at_ n : Int) (h : 0 < n) : 0 ≤ nwi at_ n ∧ nwi at_ n < n := by
  unfold nwi
  have h1 := Int.tmod_lt_of_pos at_ h
  have h2 : -n < at_.tmod n := by
    rcases Int.lt_or_le at_ 0 with h3 | h3
    · have h4 := Int.neg_tmod (-at_) n
      rw [Int.neg_neg] at h4
      rw [h4]
      have := Int.tmod_lt_of_pos (-at_) h
      omega
    · have := Int.tmod_nonneg n h3
      omega
  split <;> omega
theorem nwrap_wi {x n : Int} (h0 : 0 < n) (hn : n < 1099511627776) (h : x.tmod n < 0) : IntKind.i64.wrap (x.tmod n + n) = x.tmod n + n := by
  have h1 := nwi_bd x n h0
  unfold nwi at h1
  rw [if_pos h] at h1
  exact IntWalk.i64_in _ (by omega)
set_option maxHeartbeats 400000 in
theorem nwithin_any (x n : Int) (h0 : 0 < n) (hn : n < 1099511627776) (w : World) : Calls Try.prog 7 #[.int .i64 x, .int .i64 n] w fun e w' => e = .returned (.int .i64 (nwi x n)) ∧ w' = w := by
  have hne : ¬ (n = 0) := by omega
  have hne' : n ≠ 0 := by omega
  by_cases h : x.tmod n < 0
  · have hw := nwrap_wi h0 hn h
    have e : nwi x n = x.tmod n + n := by unfold nwi; rw [if_pos h]
    rw [e]
    go_enter Try.func7, Try.ntmps7
    go_wp2
    go_ret
    exact ⟨rfl, rfl⟩
  · have e : nwi x n = x.tmod n := by unfold nwi; rw [if_neg h]
    rw [e]
    go_enter Try.func7, Try.ntmps7
    go_wp2
    go_ret
    exact ⟨rfl, rfl⟩
theorem Mem.blk {w : World} {b N : Nat} {f : Nat → Int} (h : Mem w b N f) : Blk w b (at_ f 0 N) := by
  unfold Blk
  rw [at_len]
  exact h.congr (fun i hi => by rw [at_get f 0 N i hi, Nat.zero_add])
theorem at_isB {f : Nat → Int} {N : Nat} (h : ∀ i, i < N → IsB (f i)) : ∀ x ∈ at_ f 0 N, IsB x := fun x hx => by
  simp only [at_, List.mem_map, List.mem_range] at hx
  obtain ⟨i, hi, rfl⟩ := hx
  exact h _ (by omega)
theorem u8_isB (x : Int) : IsB (IntKind.u8.wrap x) := by rw [IntKind.wrap_u8]; exact ⟨by omega, by omega⟩
set_option maxRecDepth 100000 in
set_option maxHeartbeats 1000000 in
theorem frame_any (w : World) (n size : Int) : Calls Try.prog 11 #[.int .i64 n, .int .i64 size] w fun e w' => ∃ L, e = .returned (.slice (some ⟨w.heap.size, 0, none⟩) L.length L.length) ∧ Blk w' w.heap.size L ∧ Good L ∧ Below w.heap.size w w' := by
  have hb := nwi_bd size 1501 (by omega)
  have HW := hid (nwithin_any size 1501 (by omega) (by omega) w)
  obtain ⟨k, hk⟩ : ∃ k : Nat, nwi size 1501 = k := ⟨(nwi size 1501).toNat, by omega⟩
  rw [hk] at HW
  have e1 : IntKind.i64.wrap (14 + (k : Int)) = ((14 + k : Nat) : Int) := by rw [show (14 + (k : Int)) = ((14 + k : Nat) : Int) by omega]; exact IntWalk.i64_in _ (by omega)
  obtain ⟨N, hN⟩ : ∃ N, 14 + k = N := ⟨_, rfl⟩
  rw [hN] at e1
  have hN1 : 14 ≤ N ∧ N ≤ 1514 := by omega
  have hmk := run_make_row' (P := Try.prog) 25 5 (.int .u8 0) 1 Try.underlying25 info5 rfl .i64 .i64 N (by omega) (by omega)
  have e2 : IntKind.i64.wrap ((N : Int) - 1) = ((N - 1 : Nat) : Int) := by rw [show ((N : Int) - 1) = ((N - 1 : Nat) : Int) by omega]; exact IntWalk.i64_in _ (by omega)
  obtain ⟨M, hM⟩ : ∃ M, N - 1 = M := ⟨_, rfl⟩
  rw [hM] at e2
  have hM1 : M < N ∧ 2 ≤ M := by omega
  have hM2 : (M : Int) < N := by omega
  have i0 : (0 : Int) < N := by omega
  have i1 : (1 : Int) < N := by omega
  clear hb hk hN hM
  obtain ⟨W0, hW0⟩ : ∃ W0, W0 = w.alloc (.cells (madeCells #[Value.int .u8 0] N) 5) := ⟨_, rfl⟩
  have hmk0 := hmk w
  have hm0 := nmem_made w N
  have HB0 : Hid (Below w.heap.size w W0) := hid (by rw [hW0]; exact (Below.refl _ w).alloc (Nat.le_refl _) _)
  rw [← hW0] at hmk0 hm0
  clear hmk hW0
  have hm1 := hm0.set1 0 (n % 256) ⟨by omega, by omega⟩
  have hm2 := hm1.set1 1 (n / 256 % 256) ⟨by omega, by omega⟩
  have hm3 := hm2.set1 M (size % 256) ⟨by omega, by omega⟩
  have c0 := hm0.cell (i := 0) (by omega)
  have c1 := hm1.cell (i := 1) (by omega)
  have c2 := hm2.cell (i := M) hM1.1
  have z0 := hm0.frozen 0
  have z1 := hm1.frozen 1
  have z2 := hm2.frozen M
  have HM3 := hid hm3
  have HBL : Hid (Below w.heap.size w (((W0.setCell ⟨w.heap.size, 0, none⟩ (.int .u8 (n % 256))).setCell ⟨w.heap.size, 1, none⟩ (.int .u8 (n / 256 % 256))).setCell ⟨w.heap.size, M, none⟩ (.int .u8 (size % 256)))) := hid (((HB0.out.setCell (Nat.le_refl _) _).setCell (Nat.le_refl _) _).setCell (Nat.le_refl _) _)
  clear hm0 hm1 hm2 hm3
  go_enter Try.func11, Try.ntmps11
  go_wp2_with (go_at_call 7; refine HW.out.mono ?_; rintro e w1 ⟨rfl, hw1⟩; rw [hw1]; clear hw1 w1)
  go_ret
  exact ⟨at_ _ 0 N, by rw [at_len]; rfl, HM3.out.blk, ⟨by rw [at_len]; omega, by rw [at_len]; omega, at_isB HM3.out.2⟩, HBL.out⟩
/-- Where a card of n places lies that begins memory of its own. -/
def nh (g n : Nat) (h : pow2 n = true) : Nh := ⟨g, 0, n, 2 * (8 + 26 * n) + 2 * n * 1528, 0, 0, 0, 0, 0, 0, h, by omega, by have := pow2_bd h; omega⟩
theorem areaI_nat {n : Nat} (h : pow2 n = true) : areaI n = ((2 * (8 + 26 * n) + 2 * n * 1528 : Nat) : Int) := by
  unfold areaI
  rw [if_pos h]
  omega
theorem Keep.cell {lab lab' : Nat → Nat} {w w' : World} (h : Keep lab w lab' w') {b o : Nat} {v : Value} (hc : w.cell? ⟨b, o, none⟩ = some v) (h0 : lab b = 0) : w'.cell? ⟨b, o, none⟩ = some v := h.2.cell hc (fun e => e h0)
theorem Keep.blk {lab lab' : Nat → Nat} {w w' : World} (h : Keep lab w lab' w') {b : Nat} {L : List Int} (hb : Blk w b L) (h0 : lab b = 0) : Blk w' b L := Mem.keep hb (h.block hb.lt h0)
theorem Keep.lab {lab lab' : Nat → Nat} {w w' : World} (h : Keep lab w lab' w') {b : Nat} (hb : b < w.heap.size) (h0 : lab b = 0) : lab' b = 0 := (h.1 b hb).trans h0
/-- NewCard and NewPort over new memory. -/
theorem mk_card (w0 w : World) (g n N : Nat) (hp : pow2 n = true) (hN : 2 * (8 + 26 * n) + 2 * n * 1528 = N) (hm : Mem w g N (fun _ => 0)) (hb : Below w0.heap.size w0 w) (hg : w0.heap.size ≤ g) :
    Calls Try.prog 9 #[.slice (some ⟨g, 0, none⟩) N N, .int .i64 0, .int .i64 n] w fun e w1 => ∃ pc, e = .returned (.tuple #[.pointer (some ⟨pc, 0, none⟩), .int .i64 0]) ∧
      Calls Try.prog 10 #[.slice (some ⟨g, 0, none⟩) N N, .int .i64 0, .int .i64 n] w1 fun e w2 => ∃ pp lab H, e = .returned (.tuple #[.pointer (some ⟨pp, 0, none⟩), .int .i64 0]) ∧ H.n = n ∧ H.pc = pc ∧ H.pp = pp ∧ H.g = g ∧ H.N = N ∧ Play w0 w2 lab H n (List.range n) [] [] [] ∧ (∀ b, b < w.heap.size → b ≠ g → lab b = 0) ∧ Mods (fun b => b = g) w w2 := by
  subst hN
  have hgl := hm.lt
  refine (NewCard_ok w (nh g n hp) (fun _ => 0) hm).mono ?_
  rintro e w1 ⟨pc, di, dq, rfl, hmo, lab, hc, hl⟩
  refine ⟨pc, rfl, ?_⟩
  refine (NewPort_ok w1 { nh g n hp with pc := pc, di := di, dq := dq } (Nat.lt_of_lt_of_le hgl hmo.size)).mono ?_
  rintro e w2 ⟨pp, vi, vo, rfl, hb2, hv3, hv4, hp3, h31, h32, h33, h34⟩
  refine ⟨pp, labP lab vi vo pp, _, rfl, rfl, rfl, rfl, rfl, rfl, play_start (w0 := w0) (H := { nh g n hp with pc := pc, di := di, dq := dq }) (f := fun _ => 0) hc (fun i hi => ⟨by omega, by omega⟩) hb2 hv3 hv4 hp3 h31 h32 h33 h34 (fun b h => hl b (Nat.lt_of_lt_of_le h hb.size) (by show b ≠ g; omega)) (hmo.to_below hb hb.size (fun b e => by show w0.heap.size ≤ b; rw [e]; exact hg)), fun b h1 h2 => ?_, hmo.below hb2⟩
  rw [labP_old (Nat.lt_of_lt_of_le h1 hmo.size) h31 h32 h33]
  exact hl b h1 h2
end Go.Proofs.Ytpmbknlafeljlaa
