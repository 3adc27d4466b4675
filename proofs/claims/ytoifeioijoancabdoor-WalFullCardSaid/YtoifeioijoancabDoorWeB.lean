/- WalFull: the law's own walk. -/
import Derived.Test.YtoifeioijoancabDoorWeA
import Derived.Deep.RegionHeld3
namespace Go.Proofs.YtoifeioijoancabDoor
open Go.RowKit Go.Maps
set_option linter.unusedVariables false

def fullL (m : Nat) : List Pt := (List.range m).map fun (j : Nat) => ⟨100 + (j : Int), putL 512 (j : Int)⟩
theorem fullL_len (m : Nat) : (fullL m).length = m := by simp [fullL]
theorem fullL_succ (m : Nat) : fullL (m + 1) = fullL m ++ [⟨100 + (m : Int), putL 512 (m : Int)⟩] := by simp [fullL, List.range_succ]
theorem fullL_mem (m : Nat) (k : Nat) : (100 + (k : Int)) ∈ (fullL m).map Pt.blk ↔ k < m := by
  simp only [fullL, List.map_map, List.mem_map, List.mem_range, Function.comp]
  constructor
  · rintro ⟨j, hj, e⟩; omega
  · intro h; exact ⟨k, h, rfl⟩
theorem full_lay (m k : Nat) (d : List Int) (h : m ≤ k) : layS (fullL m) ⟨100 + (k : Int), d⟩ = fullL m ++ [⟨100 + (k : Int), d⟩] := by
  unfold layS
  rw [if_neg (fun e => by have := (fullL_mem m k).1 ((posP_mem _ _).1 e); omega)]
def fullG (m : Nat) : Lg := { newG 2 7 with opn := fullL m }
theorem ok1 (k : Nat) (d : List Int) (hk : k ≤ 1000) (hd : d.length = 512) : firstBad [(⟨100 + (k : Int), d⟩ : Pt)] = 0 := firstBad_one ⟨by show (0 : Int) ≤ 100 + k; omega, by show 100 + (k : Int) < 4294967296; omega, hd⟩
theorem full_join (m : Nat) (h : m < 64) : joinE (fullG m) [⟨100 + (m : Int), putL 512 (m : Int)⟩] = 0 ∧ joinN (fullG m) [⟨100 + (m : Int), putL 512 (m : Int)⟩] = 1 ∧ joinS (fullG m) [⟨100 + (m : Int), putL 512 (m : Int)⟩] = fullG (m + 1) := by
  have e1 : joinL (fullG m).opn [⟨100 + (m : Int), putL 512 (m : Int)⟩] = fullL (m + 1) := by rw [joinL_one, fullL_succ]; exact full_lay m m _ (Nat.le_refl _)
  have e2 : joinE (fullG m) [⟨100 + (m : Int), putL 512 (m : Int)⟩] = 0 := by
    unfold joinE
    rw [ok1 m _ (by omega) (putL_len 512 m), if_neg (by simp), e1, fullL_len, if_neg (by omega)]
  refine ⟨e2, by unfold joinN; rw [if_pos e2]; rfl, ?_⟩
  unfold joinS
  rw [if_pos e2, e1]
  rfl
theorem full_more (k : Nat) (h : 64 ≤ k) (hk : k ≤ 1000) (d : List Int) (hd : d.length = 512) : joinE (fullG 64) [⟨100 + (k : Int), d⟩] = 7 ∧ joinN (fullG 64) [⟨100 + (k : Int), d⟩] = 0 ∧ joinS (fullG 64) [⟨100 + (k : Int), d⟩] = fullG 64 := by
  have e1 : joinL (fullG 64).opn [⟨100 + (k : Int), d⟩] = fullL 64 ++ [⟨100 + (k : Int), d⟩] := by rw [joinL_one]; exact full_lay 64 k _ h
  have e2 : joinE (fullG 64) [⟨100 + (k : Int), d⟩] = 7 := by
    unfold joinE
    rw [ok1 k d hk hd, if_neg (by simp), e1, List.length_append, fullL_len, if_pos (by simp)]
  refine ⟨e2, by unfold joinN; rw [if_neg (by rw [e2]; decide)], ?_⟩
  unfold joinS
  rw [if_neg (by rw [e2]; decide)]
theorem full_again (m k : Nat) (hk : k < m) (hm : m ≤ 64) (d : List Int) (hd : d.length = 512) : joinE (fullG m) [⟨100 + (k : Int), d⟩] = 0 ∧ joinN (fullG m) [⟨100 + (k : Int), d⟩] = 1 ∧ (joinS (fullG m) [⟨100 + (k : Int), d⟩]).opn.length = m ∧ findG (joinS (fullG m) [⟨100 + (k : Int), d⟩]) (100 + (k : Int)) = some d := by
  have e1 : (joinL (fullG m).opn [⟨100 + (k : Int), d⟩]).length = m := by
    rw [joinL_one]
    have := congrArg List.length (layS_blks (fullG m).opn ⟨100 + (k : Int), d⟩)
    rw [if_pos (show (⟨100 + (k : Int), d⟩ : Pt).blk ∈ (fullG m).opn.map Pt.blk from (fullL_mem m k).2 hk), blks_len, blks_len] at this
    rw [this]
    exact fullL_len m
  have e2 : joinE (fullG m) [⟨100 + (k : Int), d⟩] = 0 := by
    unfold joinE
    rw [ok1 k d (by omega) hd, if_neg (by simp), e1, if_neg (by omega)]
  have e3 : joinS (fullG m) [⟨100 + (k : Int), d⟩] = { fullG m with opn := joinL (fullG m).opn [⟨100 + (k : Int), d⟩] } := by unfold joinS; rw [if_pos e2]
  refine ⟨e2, by unfold joinN; rw [if_pos e2]; rfl, by rw [e3]; exact e1, ?_⟩
  rw [e3]
  unfold findG
  have := find_layS (fullG m).opn ⟨100 + (k : Int), d⟩
  simp only at this ⊢
  rw [joinL_one, this]
set_option maxRecDepth 100000 in
set_option maxHeartbeats 4000000 in
theorem WalFull_walk (w : World) (n again : Int) (hT : Tab w) :
    Calls Tryd.prog 4 #[.int .i64 n, .int .i64 again] w fun e w' => e = .returned (.bool true) ∧ Below w.heap.size w w' := by
  have HK := hid (known_any w hT)
  have HW1 := hid (fun W => within_any n 70 (by omega) (by omega) W)
  have hbd := wi_bd n (n := 70) (by omega)
  obtain ⟨N, hN⟩ := Int.eq_ofNat_of_zero_le hbd.1
  have hN70 : N < 70 := by omega
  rw [hN] at HW1
  clear hbd hN hT
  go_enter Tryd.func4, Tryd.ntmps4
  go_wp2_with fail
  refine HK.out.mono ?_
  rintro e w1 ⟨rfl, hb1⟩
  have HB1 := hid hb1
  have HNEW := hid (New_ok w1 2 7 (by omega))
  clear hb1 HK
  go_wp2_with (first | (go_at_call 12; refine (HW1.out _).mono ?_; rintro e w2 ⟨rfl, hw2⟩; rw [hw2]; clear hw2) | (go_at_call 13; refine HNEW.out.mono ?_; rintro e w3 ⟨rfl, hlo3, hb3⟩; have HLO3 := hid hlo3; have HB3 := hid hb3; clear hlo3 hb3))
  have HHO : Hid (Ho w w3 w1.heap.size (fun b => b = w1.heap.size) (fullG 0)) := hid ⟨HLO3.out, HB1.out.trans (HB3.out.mono HB1.out.size), fun b hb => by rw [hb]; exact HB1.out.size⟩
  obtain ⟨p, hp⟩ : ∃ p, p = w1.heap.size := ⟨_, rfl⟩
  rw [← hp] at HHO ⊢
  clear HLO3 HB3 HB1 HNEW hp
  go_loopw [7, 8, 9] (fun z _ _ wr => ∃ (k : Nat) (S : Nat → Prop), k ≤ N ∧ z = .int .i64 k ∧ Ho w wr p S (fullG (min k 64))) (fun z _ _ _ => N - (RowKit.intOf z).toNat)
  case atStart => exact ⟨0, _, Nat.zero_le _, rfl, HHO.out⟩
  case round =>
    obtain ⟨k, S, hk, rfl, ho⟩ := hrel
    have HO := hid ho
    clear HHO
    by_cases hlt : k < N
    · have hki : (k : Int) < N := by omega
      have HPUT : Hid (Calls Tryd.prog 15 #[.agg #[.int .i64 (100 + (k : Int)), .int .i64 0, .int .u8 (k : Int)]] wr fun e w' => ∃ g, e = .returned (.agg #[.int .i64 (100 + (k : Int)), .slice (some ⟨g, 0, none⟩) 512 512]) ∧ By w' (New wr) (some ⟨g, 0, none⟩) (putL 512 (k : Int)) ∧ Below wr.heap.size wr w') := hid (put_any wr (100 + (k : Int)) 0 (k : Int) (by omega) (by omega))
      have q1 : IntKind.u8.wrap (k : Int) = (k : Int) := by rw [IntKind.wrap_u8]; omega
      clear ho
      go_wp2_with fail
      refine HPUT.out.mono ?_
      rintro e w4 ⟨g, rfl, hy4, hb4⟩
      have hj := join1 HO.out g 512 (100 + (k : Int)) (putL 512 (k : Int)) (putL_len 512 (k : Int)) (by omega) hy4 hb4
      by_cases h64 : k < 64
      · have h64i : (k : Int) < 64 := by omega
        rw [show min k 64 = k by omega] at hj
        obtain ⟨e1, e2, e3⟩ := full_join k h64
        rw [e1, e2, e3] at hj
        have HJ := hid hj
        clear e1 e2 e3 hj hy4 hb4 HPUT HO
        go_wp2_with fail
        refine HJ.out.mono ?_
        rintro e w5 ⟨rfl, S5, ho5, _⟩
        have HO5 := hid ho5
        have HOP := hid (Open_any ho5.lo)
        have hl5 : (fullG (k + 1)).opn.length = k + 1 := fullL_len (k + 1)
        rw [hl5] at HOP
        clear ho5 hl5 HJ
        have hneq : (((k + 1 : Nat) : Int) != (k : Int) + 1) = false := by simp
        go_wp2_with (go_at_call 16; refine HOP.out.mono ?_; rintro e w6 ⟨rfl, hw6⟩; rw [hw6]; clear hw6)
        go_roundw
        case rel => exact ⟨k + 1, S5, by omega, by go_num, by rw [show min (k + 1) 64 = k + 1 by omega]; exact HO5.out⟩
        case measure => simp [RowKit.intOf]; omega
      · have h64i : ¬ ((k : Int) < 64) := by omega
        have h64j : (64 : Int) ≤ (k : Int) := by omega
        rw [show min k 64 = 64 by omega] at hj
        obtain ⟨e1, e2, e3⟩ := full_more k (by omega) (by omega) (putL 512 (k : Int)) (putL_len 512 (k : Int))
        rw [e1, e2, e3] at hj
        have HJ := hid hj
        clear e1 e2 e3 hj hy4 hb4 HPUT HO
        go_wp2_with fail
        refine HJ.out.mono ?_
        rintro e w5 ⟨rfl, S5, ho5, _⟩
        have HO5 := hid ho5
        have HOP := hid (Open_any ho5.lo)
        have hl5 : (fullG 64).opn.length = 64 := fullL_len 64
        rw [hl5] at HOP
        clear ho5 hl5 HJ
        go_wp2_with (go_at_call 16; refine HOP.out.mono ?_; rintro e w6 ⟨rfl, hw6⟩; rw [hw6]; clear hw6)
        go_roundw
        case rel => exact ⟨k + 1, S5, by omega, by go_num, by rw [show min (k + 1) 64 = 64 by omega]; exact HO5.out⟩
        case measure => simp [RowKit.intOf]; omega
    · have hki : ¬ ((k : Int) < N) := by omega
      obtain rfl : k = N := by omega
      by_cases hz : k = 0
      · subst hz
        have hst := Start_any (A := fullG 0) ho.lo (by show (-4611686018427387904 : Int) ≤ 1; omega) (by show (1 : Int) ≤ 4611686018427387904; omega) (by show (0 : Int) ≤ 7; omega) (by show (7 : Int) < 18446744073709551616; omega)
        rw [show startE (fullG 0) = 2 from rfl, show startS (fullG 0) = fullG 0 from rfl] at hst
        have HST := hid hst
        clear ho hst
        go_wp2_with fail
        refine HST.out.mono ?_
        rintro e w5 ⟨rfl, hlo5, hm5⟩
        have ho5 := HO.out.mods hlo5 hm5 HO.out.lo.own
        have HO5 := hid ho5
        have HPH := Phase_any ho5.lo
        rw [show (fullG 0).ph = 0 from rfl] at HPH
        replace HPH := hid HPH
        clear hlo5 hm5 ho5 HST
        go_wp2_with (go_at_call 18; refine HPH.out.mono ?_; rintro e w6 ⟨rfl, hw6⟩; rw [hw6]; clear hw6)
        go_ret
        exact ⟨rfl, HO5.out.bel⟩
      · obtain ⟨m, hm⟩ : ∃ m, m = min k 64 := ⟨_, rfl⟩
        rw [← hm] at HO
        have hm1 : 1 ≤ m := by omega
        have hm64 : m ≤ 64 := by omega
        have hmin : min (k : Int) 64 = (m : Int) := by omega
        have HW2 := hid (fun W => within_any again (m : Int) (by omega) (by omega) W)
        have hbd := wi_bd again (n := (m : Int)) (by omega)
        obtain ⟨t, ht⟩ := Int.eq_ofNat_of_zero_le hbd.1
        have htm : t < m := by omega
        rw [ht] at HW2
        have hz2 : ((k : Int) == 0) = false := by rw [beq_eq_false_iff_ne]; omega
        have HPUT : Hid (Calls Tryd.prog 15 #[.agg #[.int .i64 (100 + (t : Int)), .int .i64 0, .int .u8 200]] wr fun e w' => ∃ g, e = .returned (.agg #[.int .i64 (100 + (t : Int)), .slice (some ⟨g, 0, none⟩) 512 512]) ∧ By w' (New wr) (some ⟨g, 0, none⟩) (putL 512 200) ∧ Below wr.heap.size wr w') := hid (put_any wr (100 + (t : Int)) 0 200 (by omega) (by omega))
        have HPUT2 : Hid (∀ W, Calls Tryd.prog 15 #[.agg #[.int .i64 0, .int .i64 0, .int .u8 200]] W fun e w' => ∃ g, e = .returned (.agg #[.int .i64 0, .slice (some ⟨g, 0, none⟩) 512 512]) ∧ By w' (New W) (some ⟨g, 0, none⟩) (putL 512 200) ∧ Below W.heap.size W w') := hid (fun W => put_any W 0 0 200 (by omega) (by omega))
        obtain ⟨D, hD⟩ : ∃ D, D = putL 512 200 := ⟨_, rfl⟩
        rw [← hD] at HPUT HPUT2
        have hDl : D.length = 512 := by rw [hD]; exact putL_len 512 200
        have q2 : IntKind.i64.wrap (100 + (t : Int)) = 100 + (t : Int) := IntWalk.i64_in _ (by omega)
        obtain ⟨e1, e2, e3, e4⟩ := full_again m t htm hm64 D hDl
        have HJ0 := hid (fun w4 g (hy : By w4 (New wr) (some ⟨g, 0, none⟩) D) (hb : Below wr.heap.size wr w4) => join1 HO.out g 512 (100 + (t : Int)) D hDl (by omega) hy hb)
        rw [e1, e2] at HJ0
        generalize joinS (fullG m) [⟨100 + (t : Int), D⟩] = A5 at *
        have E3 := hid e3
        have E4 := hid e4
        have HDL := hid hDl
        clear e1 e2 e3 e4 hbd ht ho hm hD hDl
        go_wp2_with (first | (go_at_call 12; refine (HW2.out _).mono ?_; rintro e w2 ⟨rfl, hw2⟩; rw [hw2]; clear hw2) | fail)
        refine HPUT.out.mono ?_
        rintro e w4 ⟨g, rfl, hy4, hb4⟩
        have HJ := hid (HJ0.out w4 g hy4 hb4)
        clear hy4 hb4 HJ0 HPUT HO
        go_wp2_with fail
        refine HJ.out.mono ?_
        rintro e w5 ⟨rfl, S5, ho5, _⟩
        have HO5 := hid ho5
        have HF := hid (Find_any ho5.lo (100 + (t : Int)))
        clear ho5 HJ
        go_wp2_with fail
        refine HF.out.mono ?_
        rintro e w6 ⟨h1 | ⟨d, a6, c6, h1, h2, h3, h4, h5, h6⟩, hb6⟩
        · rw [E4.out] at h1
          exact absurd h1.1 (by simp)
        rw [E4.out] at h1
        simp only [Option.some.injEq] at h1
        subst h1
        subst h2
        have ho6 := HO5.out.below hb6
        have HO6 := hid ho6
        have HOP := fun W (hb : Below w6.heap.size w6 W) => Open_any (ho6.below hb).lo
        rw [E3.out] at HOP
        replace HOP := hid HOP
        have hcv : ∀ W, Below w6.heap.size w6 W → (convert 29 9 (.slice a6 512 c6)).run Tryd.prog W = .ok (.string (strOfNums D)) W := fun W hb => conv0 (h4.bytes.later hb) h3
        have HCV := hid hcv
        clear h3 h4 h5 h6 hb6 ho6 hcv HF
        have hcv0 := HCV.out w6 (Below.refl _ _)
        have hfld : ∀ (W : World) (g8 : Nat), (Instr.field 31 (.agg #[.int .i64 0, .slice (some ⟨g8, 0, none⟩) 512 512]) 1).run Tryd.prog W = .ok (.slice (some ⟨g8, 0, none⟩) 512 512) W := fun W g8 => by kernel_rfl
        go_wp2
        obtain ⟨str, hstr⟩ : ∃ str, str = strOfNums D := ⟨_, rfl⟩
        rw [← hstr] at hcv0 HCV
        have HSTR := hid hstr
        clear hstr
        refine wp_region_held_drew (S := fun W => (convert 29 9 (.slice a6 512 c6)).run Tryd.prog W = .ok (.string str) W) (by kernel_rfl) (HCV.out w6.drew ((Below.refl _ w6).drew)) (fun hS => ?_)
        refine nany_take 0 111 (.int .i64 0) rfl rfl (by kernel_rfl) (by kernel_rfl) (by kernel_rfl) (fun _ _ _ h => h) (Or.inl ⟨by rfl, ?_⟩) hS ?_
        · rintro w' hw0
          go_simp
        simp only [List.setIfInBounds_toArray, List.set_cons_zero, List.set_cons_succ]
        refine nany_take 1 112 (.bool true) rfl rfl (by kernel_rfl) (by kernel_rfl) (by kernel_rfl) (fun _ _ _ h => h) (Or.inl ⟨by rfl, ?_⟩) hS ?_
        · rintro w' hw0
          go_simp
        simp only [List.setIfInBounds_toArray, List.set_cons_zero, List.set_cons_succ]
        refine nany_take 2 113 (.bool true) rfl rfl (by kernel_rfl) (by kernel_rfl) (by kernel_rfl) (fun _ _ _ h => h) (Or.inl ⟨by rfl, ?_⟩) hS ?_
        · rintro w' hw0
          go_simp
        simp only [List.setIfInBounds_toArray, List.set_cons_zero, List.set_cons_succ]
        refine nany_take 3 114 (.int .i64 1) rfl rfl (by kernel_rfl) (by kernel_rfl) (by kernel_rfl) (fun _ _ _ h => h) (Or.inl ⟨by rfl, ?_⟩) hS ?_
        · rintro w' hw0
          go_simp
        simp only [List.setIfInBounds_toArray, List.set_cons_zero, List.set_cons_succ]
        refine nany_take 4 115 (.bool true) rfl rfl (by kernel_rfl) (by kernel_rfl) (by kernel_rfl) (fun _ _ _ h => h) (Or.inl ⟨by rfl, ?_⟩) hS ?_
        · rintro w' hw0
          go_simp
        simp only [List.setIfInBounds_toArray, List.set_cons_zero, List.set_cons_succ]
        refine nany_take 5 116 (.bool true) rfl rfl (by kernel_rfl) (by kernel_rfl) (by kernel_rfl) (fun _ _ _ h => h) (Or.inl ⟨by rfl, ?_⟩) hS ?_
        · rintro w' hw0
          go_simp
        simp only [List.setIfInBounds_toArray, List.set_cons_zero, List.set_cons_succ]
        refine nany_take 6 117 (.bool true) rfl rfl (by kernel_rfl) (by kernel_rfl) (by kernel_rfl) (fun _ _ _ h => h) (Or.inl ⟨by rfl, ?_⟩) hS ?_
        · rintro w' hw0
          go_simp
        simp only [List.setIfInBounds_toArray, List.set_cons_zero, List.set_cons_succ]
        refine nany_take 7 118 (.pointer (some ⟨p, 0, none⟩)) rfl rfl (by kernel_rfl) (by kernel_rfl) (by kernel_rfl) (fun _ _ _ h => h) (Or.inl ⟨by rfl, ?_⟩) hS ?_
        · rintro w' hw0
          go_simp
        simp only [List.setIfInBounds_toArray, List.set_cons_zero, List.set_cons_succ]
        refine nany_take 9 120 (.int .i64 k) rfl rfl (by kernel_rfl) (by kernel_rfl) (by kernel_rfl) (fun _ _ _ h => h) (Or.inl ⟨by rfl, ?_⟩) hS ?_
        · rintro w' hw0
          go_simp
        simp only [List.setIfInBounds_toArray, List.set_cons_zero, List.set_cons_succ]
        refine nany_take 10 121 (.int .i64 m) rfl rfl (by kernel_rfl) (by kernel_rfl) (by kernel_rfl) (fun _ _ _ h => h) (Or.inl ⟨by rfl, ?_⟩) hS ?_
        · rintro w' hw0
          go_simp
        simp only [List.setIfInBounds_toArray, List.set_cons_zero, List.set_cons_succ]
        refine nany_one 8 (by kernel_rfl) ?_
        refine nop_callE 119 (f := 16) (args := #[.pointer (some ⟨p, 0, none⟩)]) (R := fun v w' => v = .int .i64 (m : Int) ∧ w' = w6.drew) rfl (by rfl) rfl (by go_simp) ((HOP.out w6.drew ((Below.refl _ w6).drew)).mono (fun e w' h => ⟨_, h.1, rfl, h.2⟩)) ?_
        rintro v7 w7 ⟨rfl, hw7⟩
        rw [hw7]
        clear hw7 w7
        refine ⟨hS, ?_⟩
        simp only [List.setIfInBounds_toArray, List.set_cons_zero, List.set_cons_succ]
        refine nany_take 11 122 (.bool true) rfl rfl (by kernel_rfl) (by kernel_rfl) (by kernel_rfl) (fun _ _ _ h => h) (Or.inl ⟨by rfl, ?_⟩) hS ?_
        · rintro w' hw0
          go_simp
        simp only [List.setIfInBounds_toArray, List.set_cons_zero, List.set_cons_succ]
        refine nany_take 12 123 (.bool true) rfl rfl (by kernel_rfl) (by kernel_rfl) (by kernel_rfl) (fun _ _ _ h => h) (Or.inl ⟨by rfl, ?_⟩) hS ?_
        · rintro w' hw0
          go_simp
        simp only [List.setIfInBounds_toArray, List.set_cons_zero, List.set_cons_succ]
        refine nany_take 13 124 (.bool true) rfl rfl (by kernel_rfl) (by kernel_rfl) (by kernel_rfl) (fun _ _ _ h => h) (Or.inl ⟨by rfl, ?_⟩) hS ?_
        · rintro w' hw0
          go_simp
        simp only [List.setIfInBounds_toArray, List.set_cons_zero, List.set_cons_succ]
        refine nany_take 14 125 (.bool true) rfl rfl (by kernel_rfl) (by kernel_rfl) (by kernel_rfl) (fun _ _ _ h => h) (Or.inl ⟨by rfl, ?_⟩) hS ?_
        · rintro w' hw0
          go_simp
        simp only [List.setIfInBounds_toArray, List.set_cons_zero, List.set_cons_succ]
        refine nany_take 15 126 (.bool true) rfl rfl (by kernel_rfl) (by kernel_rfl) (by kernel_rfl) (fun _ _ _ h => h) (Or.inl ⟨by rfl, ?_⟩) hS ?_
        · rintro w' hw0
          go_simp
        simp only [List.setIfInBounds_toArray, List.set_cons_zero, List.set_cons_succ]
        refine nany_take 16 127 (.bool true) rfl rfl (by kernel_rfl) (by kernel_rfl) (by kernel_rfl) (fun _ _ _ h => h) (Or.inl ⟨by rfl, ?_⟩) hS ?_
        · rintro w' hw0
          go_simp
        simp only [List.setIfInBounds_toArray, List.set_cons_zero, List.set_cons_succ]
        refine nany_take 17 128 (.slice a6 512 c6) rfl rfl (by kernel_rfl) (by kernel_rfl) (by kernel_rfl) (fun _ _ _ h => h) (Or.inl ⟨by rfl, ?_⟩) hS ?_
        · rintro w' hw0
          go_simp
        simp only [List.setIfInBounds_toArray, List.set_cons_zero, List.set_cons_succ]
        refine nany_take 18 129 (.string str) rfl rfl (by kernel_rfl) (by kernel_rfl) (by kernel_rfl) (fun _ _ _ h => h) (Or.inl ⟨by rfl, ?_⟩) hS ?_
        · rintro w' hw0
          go_simp
        simp only [List.setIfInBounds_toArray, List.set_cons_zero, List.set_cons_succ]
        refine nany_take 19 130 (.agg #[.int .i64 0, .int .i64 0, .int .u8 200]) rfl rfl (by kernel_rfl) (by kernel_rfl) (by kernel_rfl) (fun _ _ _ h => h) (Or.inl ⟨by rfl, ?_⟩) hS ?_
        · rintro w' hw0
          go_simp
        simp only [List.setIfInBounds_toArray, List.set_cons_zero, List.set_cons_succ]
        refine nany_one 20 (by kernel_rfl) ?_
        refine nop_callE 131 (f := 15) (args := #[.agg #[.int .i64 0, .int .i64 0, .int .u8 200]]) (R := fun v w' => ∃ g, v = .agg #[.int .i64 0, .slice (some ⟨g, 0, none⟩) 512 512] ∧ By w' (New w6.drew) (some ⟨g, 0, none⟩) D ∧ Below w6.drew.heap.size w6.drew w') rfl (by rfl) rfl (by go_simp) ((HPUT2.out w6.drew).mono (fun e w' h => by obtain ⟨g, h1, h2, h3⟩ := h; exact ⟨_, h1, g, rfl, h2, h3⟩)) ?_
        rintro v8 w8 ⟨g8, rfl, hy8, hb8⟩
        have HB8 : Hid (Below w6.heap.size w6 w8) := hid (((Below.refl _ w6).drew).trans hb8)
        have hcv8 : (convert 29 9 (.slice (some ⟨g8, 0, none⟩) 512 512)).run Tryd.prog w8 = .ok (.string str) w8 := by rw [HSTR.out]; exact conv0 hy8.bytes HDL.out
        refine ⟨HCV.out w8 HB8.out, ?_⟩
        clear hS
        refine nwpAnyH_strong (S' := fun W => (convert 29 9 (.slice (some ⟨g8, 0, none⟩) 512 512)).run Tryd.prog W = .ok (.string str) W ∧ (convert 29 9 (.slice a6 512 c6)).run Tryd.prog W = .ok (.string str) W) (fun W h => h.2) _ _ _ _ ?_
        have hS := And.intro hcv8 (HCV.out w8 HB8.out)
        simp only [List.setIfInBounds_toArray, List.set_cons_zero, List.set_cons_succ]
        refine nany_take 21 132 (.slice (some ⟨g8, 0, none⟩) 512 512) rfl rfl (by kernel_rfl) (by kernel_rfl) (by kernel_rfl) (fun _ _ _ h => h) (Or.inl ⟨by rfl, ?_⟩) hS ?_
        · rintro w' ⟨hw0, hw1⟩
          go_simp
        simp only [List.setIfInBounds_toArray, List.set_cons_zero, List.set_cons_succ]
        refine nany_take 22 133 (.string str) rfl rfl (by kernel_rfl) (by kernel_rfl) (by kernel_rfl) (fun _ _ _ h => h) (Or.inl ⟨by rfl, ?_⟩) hS ?_
        · rintro w' ⟨hw0, hw1⟩
          go_simp
        simp only [List.setIfInBounds_toArray, List.set_cons_zero, List.set_cons_succ]
        refine nany_take 23 134 (.bool true) rfl rfl (by kernel_rfl) (by kernel_rfl) (by kernel_rfl) (fun _ _ _ h => h) (Or.inl ⟨by rfl, ?_⟩) hS ?_
        · rintro w' ⟨hw0, hw1⟩
          go_simp
        simp only [List.setIfInBounds_toArray, List.set_cons_zero, List.set_cons_succ]
        refine nany_take 24 135 (.bool true) rfl rfl (by kernel_rfl) (by kernel_rfl) (by kernel_rfl) (fun _ _ _ h => h) (Or.inl ⟨by rfl, ?_⟩) hS ?_
        · rintro w' ⟨hw0, hw1⟩
          go_simp
        simp only [List.setIfInBounds_toArray, List.set_cons_zero, List.set_cons_succ]
        refine nany_take 25 4 (.bool true) rfl rfl (by kernel_rfl) (by kernel_rfl) (by kernel_rfl) (fun _ _ _ h => h) (Or.inl ⟨by rfl, ?_⟩) hS ?_
        · rintro w' ⟨hw0, hw1⟩
          go_simp
        simp only [List.setIfInBounds_toArray, List.set_cons_zero, List.set_cons_succ]
        refine wpAnyH_done (by kernel_rfl) ?_ _
        clear hS hcv8 hcv0 hy8 hb8
        go_wp2
        go_ret
        exact ⟨rfl, (HO6.out.below HB8.out).bel⟩
end Go.Proofs.YtoifeioijoancabDoor
