/- VnetPlays: the law. -/
import Derived.Test.YtdjghkngiicncaaGreatR5S
import Derived.BigRegion
import Derived.RegionTactic
namespace Go.Proofs.YtdjghkngiicncaaGreat
open Go.RowKit

theorem hasB_geo {N : Nat} {base n : Int} (h : hasB N base n = true) : pow2 n = true ∧ 0 ≤ base ∧ base.toNat + (2 * (8 + 26 * n.toNat) + 2 * n.toNat * 1528) ≤ N ∧ 0 ≤ n := by
  unfold hasB at h
  simp only [Bool.and_eq_true, decide_eq_true_eq] at h
  obtain ⟨h1, h2, h3⟩ := h
  unfold areaI at h1 h3
  split at h1
  · rename_i hp
    rw [if_pos hp] at h3
    have := pow2_bd hp
    exact ⟨hp, h2, by omega, by omega⟩
  · omega
def lim (j : Nat) : Nat := 256 + j * 65538
theorem lim_zero : lim 0 = 256 := rfl
theorem lim_succ (j : Nat) : lim j + 65537 ≤ lim (j + 1) := by unfold lim; omega
theorem lim_lt {j : Nat} (h : j ≤ 60) : lim j ≤ 5000000 := by unfold lim; omega
/-- Both pairs, in one state. -/
def Dual (w0 w : World) (H : Nh) (B : Rb) (S : Ns) (c : Nat) : Prop := ∃ lab lab2, Two w0 w lab lab2 B H S S c
theorem delT_A (H : Nh) (L : List Int) (x : Sd × Option (Int × Bf)) : (delT H L x).2.A = x.1.A := by
  obtain ⟨T, o⟩ := x
  cases o with
  | none => rfl
  | some y => obtain ⟨hd, b⟩ := y; exact giveS_A H.qi _ _ _
theorem delS_Ai (H : Nh) (S : Ns) (L : List Int) : (delS H S L).Ai = S.Ai := by
  unfold delS
  split
  · show (delT H L (delN H S L.length)).2.A = S.Ai
    rw [delT_A]
    exact nextN_A _ _ _ _
  · rfl
set_option maxRecDepth 100000 in
set_option maxHeartbeats 64000000 in
theorem Plays5_any (w0 : World) (size n base : Int) (ca : Option Addr) (ccap cln : Nat) (cs : List C5) (hcs : C5At w0 ca cs) (hcl : cs.length = cln) (_hb64 : -9223372036854775808 ≤ base ∧ base < 9223372036854775808) :
    Calls Tryz.prog 3 #[.int .i64 size, .int .i64 n, .int .i64 base, .slice ca cln ccap] w0 fun e w' => e = .returned (.bool true) ∧ Below w0.heap.size w0 w' := by
  obtain ⟨N, hN, hN2⟩ : ∃ N : Nat, min (max size 0) 60000 = (N : Int) ∧ N ≤ 60000 := ⟨(min (max size 0) 60000).toNat, by omega, by omega⟩
  have hmk := run_make_row' (P := Tryz.prog) 25 5 (.int .u8 0) 1 Tryz.underlying25 info5 rfl .i64 .i64 N (by omega) (by omega)
  have HKN := hid (known_any w0)
  have HAR : Hid (∀ w : World, Calls Tryz.prog 5 #[.int .i64 n] w fun e w' => e = .returned (.int .i64 (areaI n)) ∧ w' = w) := hid (fun w => Area_any w n)
  have HRA : Hid (∀ w : World, Calls Tryz.prog 6 #[.int .i64 n] w fun e w' => e = .returned (.int .i64 (areaI n)) ∧ w' = w) := hid (fun w => rArea_any w n)
  have HCS := hid hcs
  have HCL := hid hcl
  have HN2 := hid hN2
  clear hcs hcl _hb64
  generalize areaI n = ar at *
  go_enter Tryz.func3, Tryz.ntmps3
  go_wp2_with fail
  refine HKN.out.mono ?_
  rintro e w1 ⟨rfl, hb1⟩
  have HB1 := hid hb1
  clear hb1
  go_wp2_with fail
  refine (HAR.out w1).mono ?_
  rintro e w2 ⟨rfl, hw2⟩
  rw [hw2]
  clear hw2
  go_wp2_with fail
  refine (HRA.out w1).mono ?_
  rintro e w2 ⟨rfl, hw2⟩
  rw [hw2]
  clear hw2
  obtain ⟨W3, hW3⟩ : ∃ W3, W3 = (w1.alloc (.cells (madeCells #[.int .u8 0] N) 5)).alloc (.cells (madeCells #[.int .u8 0] N) 5) := ⟨_, rfl⟩
  have hm1 : Mem W3 w1.heap.size N (fun _ => 0) := by
    rw [hW3]
    exact (nmem_made w1 N).below ((Below.refl _ _).alloc (Nat.le_refl _) _)
  have hm2 : Mem W3 (w1.heap.size + 1) N (fun _ => 0) := by
    rw [hW3]
    have := nmem_made (w1.alloc (.cells (madeCells #[.int .u8 0] N) 5)) N
    rw [show (w1.alloc (.cells (madeCells #[Value.int .u8 0] N) 5)).heap.size = w1.heap.size + 1 by simp] at this
    exact this
  have hb3 : Below w0.heap.size w0 W3 := by
    rw [hW3]
    have hs := HB1.out.size
    exact (HB1.out.alloc hs _).alloc (by simp; omega) _
  have HM1 := hid hm1
  have HM2 := hid hm2
  have HB3 := hid hb3
  have HS1 := hid HB1.out.size
  clear hm1 hm2 hb3 HB1 HAR HRA HKN
  cases hh : hasB N base n with
  | false =>
    have H1 := hid (NewCard_no W3 (some ⟨w1.heap.size, 0, none⟩) N N base n (by omega) hh)
    have H2 := hid (rNewCard_no W3 (some ⟨w1.heap.size + 1, 0, none⟩) N N base n (by omega) hh)
    have H3 := hid (NewPort_no W3 (some ⟨w1.heap.size, 0, none⟩) N N base n (by omega) hh)
    have H4 := hid (rNewPort_no W3 (some ⟨w1.heap.size + 1, 0, none⟩) N N base n (by omega) hh)
    have cv1 := Mem.conv (cap := N) HM1.out (Nat.le_refl N)
    have cv2 := Mem.conv (cap := N) HM2.out (Nat.le_refl N)
    generalize strOfNums (at_ (fun _ => 0) 0 N) = str at *
    clear hh
    go_wp2_with fail
    rw [← hW3]
    clear hW3
    refine H1.out.mono ?_
    rintro e w2 ⟨rfl, hw2⟩
    rw [hw2]
    clear hw2
    go_wp2_with fail
    refine H2.out.mono ?_
    rintro e w2 ⟨rfl, hw2⟩
    rw [hw2]
    clear hw2
    go_wp2_with fail
    refine H3.out.mono ?_
    rintro e w2 ⟨rfl, hw2⟩
    rw [hw2]
    clear hw2
    go_wp2_with fail
    refine H4.out.mono ?_
    rintro e w2 ⟨rfl, hw2⟩
    rw [hw2]
    clear hw2
    go_wp2
    go_ret
    exact ⟨rfl, HB3.out⟩
  | true =>
    obtain ⟨p2, b0, hfit, n0⟩ := hasB_geo hh
    obtain ⟨bs, rfl⟩ : ∃ bs : Nat, base = bs := ⟨base.toNat, by omega⟩
    obtain ⟨nn, rfl⟩ : ∃ nn : Nat, n = nn := ⟨n.toNat, by omega⟩
    have HF := hid (four_made w0 W3 ⟨w1.heap.size, bs, nn, N, 0, 0, 0, 0, 0, 0, p2, by simpa using hfit, by omega⟩ (w1.heap.size + 1) HM1.out HM2.out (by show w1.heap.size + 1 ≠ w1.heap.size; omega) HB3.out HS1.out (by have := HS1.out; omega))
    simp only at HF
    clear hh p2 b0 hfit n0
    go_wp2_with fail
    rw [← hW3]
    refine HF.out.mono ?_
    rintro e w2 ⟨pc, rfl, h2⟩
    have HF2 := hid h2
    clear h2 hW3
    go_wp2_with fail
    refine HF2.out.mono ?_
    rintro e w3 ⟨pc2, rfl, h3⟩
    have HF3 := hid h3
    clear h3
    go_wp2_with fail
    refine HF3.out.mono ?_
    rintro e w4 ⟨pp, rfl, h4⟩
    have HF4 := hid h4
    clear h4
    go_wp2_with fail
    refine HF4.out.mono ?_
    rintro e w5 ⟨pp2, rfl, H, B, S, lab, lab2, hT, hfr, e1, e2, e3, e4, e5, e6, e7, e8⟩
    have hmA : Mem w5 w1.heap.size N S.f := by have := hT.net.mem; rw [e5, e7] at this; exact this
    have hmB : Mem w5 (w1.heap.size + 1) N S.f := by have := hT.rnet.mem; rw [e6, e7] at this; exact this
    have cv1 := Mem.conv (cap := N) hmA (Nat.le_refl N)
    have cv2 := Mem.conv (cap := N) hmB (Nat.le_refl N)
    have HT := hid hT
    have HFR := hid hfr
    have HG := hid (And.intro e5 (And.intro e6 (And.intro e7 e8)))
    have hn256 : nn ≤ 256 := by have := H.bd; omega
    generalize strOfNums (at_ S.f 0 N) = str at *
    subst e1 e2 e3 e4
    clear hT hfr hmA hmB e5 e6 e7 e8 HF HF2 HF3 HF4 HM1 HM2 HB3
    go_wp2_with fail
    go_loopw [19] (fun i wr => ∃ (j : Nat) (S : Ns) (lab lab2 : Nat → Nat) (c : Nat), j ≤ 60 ∧ i = .int .i64 j ∧ Two w0 wr lab lab2 B H S S c ∧ c ≤ lim j ∧ S.Ai.free = []) (fun i _ => 60 - (RowKit.intOf i).toNat)
    case atStart => exact ⟨0, S, lab, lab2, nn, by omega, rfl, HT.out, by rw [lim_zero]; omega, HFR.out⟩
    case round =>
      clear HT HFR cv1 cv2
      obtain ⟨j, S, lab, lab2, c, hj, rfl, hT, hc, hfr⟩ := hrel
      have HT := hid hT
      have HFR := hid hfr
      have HC := hid hc
      by_cases hjl : j < cln
      · by_cases hj6 : j < 60
        · have hji : (j : Int) < cln := by omega
          have hj6i : (j : Int) < 60 := by omega
          obtain ⟨cb, co, hca, k0, k1, k2, k3, hby, hbl⟩ := HCS.out j (by rw [HCL.out]; exact hjl)
          subst hca
          generalize cs.getD j default = cl at *
          obtain ⟨a', cp, wc, hap, hnew, hBc, hbc⟩ := copyb_run wr cl.a cl.cap cl.l (hby.later hT.bel) hbl 25
          have hTc := hT.below hbc
          have HTC := hid hTc
          have HCP : Hid (Cpy wc lab lab2 a' cl.l) := hid ⟨hBc, fun b off e => ⟨(hnew b off e).2, hT.new (hnew b off e).1⟩⟩
          have hal : Below wr.heap.size wr (wr.alloc (.cells #[] 5)) := (Below.refl _ _).alloc (Nat.le_refl _) _
          have d3 := cell_later hal (cell_later hT.bel k3)
          have y0 := cell_later hTc.bel k0
          have y1 := cell_later hTc.bel k1
          have y2 := cell_later hTc.bel k2
          have y3 := cell_later hTc.bel k3
          have HK3 := hid k3
          have HBY := hid hby
          have HBL := hid hbl
          have hlm : (cl.l.length : Int) ≤ 140737488355328 := by omega
          have HLM : Hid (cl.l.length ≤ maxLen) := hid (by unfold maxLen; omega)
          clear hT hfr hc k0 k1 k2 k3 hby hbl hnew hBc hbc hTc hal
          by_cases hbig : (3000 : Int) < (cl.l.length : Int)
          · generalize cl.l.length = ll at *
            go_wp2_with (at_builtin; refine wpList_append5 rfl _ _ 25 rfl rfl rfl hap ?_)
            go_roundw
            case rel => exact ⟨j + 1, S, lab, lab2, c, by omega, by go_num, HTC.out, Nat.le_trans HC.out (Nat.le_trans (Nat.le_add_right _ _) (lim_succ j)), HFR.out⟩
            case measure => simp [RowKit.intOf]; omega
          · have hcB : c < 549755813888 := Nat.lt_of_le_of_lt (Nat.le_trans HC.out (lim_lt hj)) (by omega)
            by_cases q : cl.k = 1
            · have HTD := hid (HTC.out.below ((Below.refl _ wc).drew))
              have HCD := hid (HCP.out.below ((Below.refl _ wc).drew))
              have HSN := hid (two_send HTD.out (by omega) cp HCD.out)
              have HRS : Hid (∀ w6 lab6 c6, Two w0 w6 lab6 lab2 B H (sendS H S cl.l) S c6 → Calls Tryz.prog 12 #[.pointer (some ⟨B.pc, 0, none⟩), .slice cl.a cl.l.length cl.cap] w6 fun e w7 => e = .returned (.int .i64 (sendR H S cl.l)) ∧ ∃ lab7, Two w0 w7 lab6 lab7 B H (sendS H S cl.l) (sendS H S cl.l) c6 ∧ Keep lab2 w6 lab7 w7) := hid (fun w6 lab6 c6 h6 => two_rsend h6 cl.cap HBY.out HLM.out)
              have HFR2 : Hid ((sendS H S cl.l).Ai.free = []) := hid (by rw [← HFR.out]; unfold sendS; split <;> (try split) <;> rfl)
              obtain ⟨rr, hrr⟩ : ∃ rr, rr = sendR H S cl.l := ⟨_, rfl⟩
              rw [← hrr] at HSN HRS
              clear hrr
              obtain ⟨SF, hSF⟩ : ∃ SF, SF = sendS H S cl.l := ⟨_, rfl⟩
              rw [← hSF] at HSN HRS HFR2
              clear hSF
              obtain ⟨ll, hll⟩ : ∃ ll, ll = cl.l.length := ⟨_, rfl⟩
              have HLL : Hid (∀ z : List Int, z = cl.l → ll = z.length) := hid (fun z hz => by rw [hz]; exact hll)
              rw [← hll] at hap y3 d3 hbig hlm HSN HRS HK3
              clear hll
              rw [q] at y0
              go_wp2_with (at_builtin; refine wpList_append5 rfl _ _ 25 rfl rfl rfl hap ?_)
              go_region_held3 (fun w' => w'.cell? ⟨cb, co + j * 4 + 3, none⟩ = some (.slice cl.a ll cl.cap)) ((first | exact y3 | exact HC6.out | exact HC7.out)) ((first | (go_at_call 11; refine HSN.out.mono ?_; rintro e w6 ⟨rfl, lab6, hT6, hK6⟩; have HT6 := hid hT6; have HC6 := hid (cell_later hT6.bel HK3.out); have HP6 := hid (HCD.out.prog hK6); clear hT6 hK6) | (go_at_call 12; refine (HRS.out w6 lab6 _ HT6.out).mono ?_; rintro e w7 ⟨rfl, lab7, hT7, hK7⟩; have HT7 := hid hT7; have HC7 := hid (cell_later hT7.bel HK3.out); have HP7 := hid (HP6.out.ref hK7); clear hT7 hK7)))
              obtain ⟨v1, v2, v3, v4⟩ := HT7.out.ends (cap := N) (cap' := N) HP7.out HBY.out cl.cap
              rw [HG.out.1, HG.out.2.2.1] at v1
              rw [HG.out.2.1, HG.out.2.2.1] at v2
              replace v3 := fun z => v3 z cp
              rw [← HLL.out _ rfl] at v3 v4
              have x3 := HC7.out
              generalize strOfNums (at_ SF.f 0 N) = sm at *
              generalize strOfNums cl.l = sb at *
              go_wp2_with fail
              go_quiet (fail)
              go_wp2
              go_roundw
              case rel => exact ⟨j + 1, SF, _, _, _, by omega, by go_num, HT7.out.below (below_drewN (Below.refl _ _) _), Nat.le_trans (Nat.add_le_add_right HC.out 1) (Nat.le_trans (by omega) (lim_succ j)), HFR2.out⟩
              case measure => simp [RowKit.intOf]; omega
            · by_cases q2 : cl.k = 2
              · have q := q2
                rw [q] at y0
                have HSN := hid (two_receive HTC.out HFR.out hcB)
                have HRS : Hid (∀ w6 lab6 c6, Two w0 w6 lab6 lab2 B H (S.setI (recvAll H S).1) S c6 → Calls Tryz.prog 15 #[.pointer (some ⟨B.pc, 0, none⟩)] w6 fun e w7 => ∃ v, e = .returned v ∧ ∃ lab7, Two w0 w7 lab6 lab7 B H (S.setI (recvAll H S).1) (S.setI (recvAll H S).1) c6 ∧ Keep lab2 w6 lab7 w7 ∧ FmRow w7 (Mine5 w6 w7 lab7) v (recvAll H S).2) := hid (fun w6 lab6 c6 h6 => two_rreceive h6 HFR.out)
                have HFR2 : Hid ((S.setI (recvAll H S).1).Ai.free = []) := hid ((recvAll_free HTC.out.net.oki HTC.out.net.oi HFR.out).1)
                have HLEN : Hid ((recvAll H S).2.length ≤ 1048576) := hid (Nat.le_trans ((recvAll_free HTC.out.net.oki HTC.out.net.oi HFR.out).2) (by omega))
                generalize (recvAll H S).2 = Ls at *
                generalize S.setI (recvAll H S).1 = SF at *
                obtain ⟨ll, hll⟩ : ∃ ll, ll = cl.l.length := ⟨_, rfl⟩
                have HLL : Hid (∀ z : List Int, z = cl.l → ll = z.length) := hid (fun z hz => by rw [hz]; exact hll)
                rw [← hll] at hap y3 d3 hbig hlm
                clear hll
                go_wp2_with (at_builtin; refine wpList_append5 rfl _ _ 25 rfl rfl rfl hap ?_)
                refine HSN.out.mono ?_
                rintro e w6 ⟨rv, rfl, lab6, hT6, hK6, hf6⟩
                have HT6 := hid hT6
                have HP6 := hid (HCP.out.prog hK6)
                have HF6 := hid hf6
                clear hT6 hK6 hf6
                go_wp2_with fail
                refine (HRS.out w6 lab6 _ HT6.out).mono ?_
                rintro e w7 ⟨rv2, rfl, lab7, hT7, hK7, hf7⟩
                have HT7 := hid hT7
                have HP7 := hid (HP6.out.ref hK7)
                have HSM := hid (sameRows_same w7 _ _ rv rv2 Ls (HF6.out.beside HTC.out hK7) hf7 HLEN.out)
                clear hT7 hK7 hf7
                go_wp2_with fail
                refine HSM.out.mono ?_
                rintro e w8 ⟨rfl, hb8⟩
                have HT8 := hid (HT7.out.below hb8)
                have HP8 := hid (HP7.out.below hb8)
                clear hb8
                obtain ⟨v1, v2, v3, v4⟩ := HT8.out.ends (cap := N) (cap' := N) HP8.out HBY.out cl.cap
                rw [HG.out.1, HG.out.2.2.1] at v1
                rw [HG.out.2.1, HG.out.2.2.1] at v2
                replace v3 := fun z => v3 z cp
                rw [← HLL.out _ rfl] at v3 v4
                have x3 := cell_later HT8.out.bel HK3.out
                rw [← HLL.out _ rfl] at x3
                generalize strOfNums (at_ SF.f 0 N) = sm at *
                generalize strOfNums cl.l = sb at *
                go_wp2_with fail
                go_quiet (fail)
                go_wp2
                go_roundw
                case rel => exact ⟨j + 1, SF, _, _, _, by omega, by go_num, HT8.out.below (below_drewN (Below.refl _ _) _), Nat.le_trans (Nat.add_le_add_right HC.out 65537) (lim_succ j), HFR2.out⟩
                case measure => simp [RowKit.intOf]; omega
              · by_cases q3 : cl.k = 3
                · have q := q3
                  have HTD := hid (HTC.out.below ((Below.refl _ wc).drew))
                  have HCD := hid (HCP.out.below ((Below.refl _ wc).drew))
                  have HSN := hid (two_deliver HTD.out cp HCD.out)
                  have HRS : Hid (∀ w6 lab6 c6, Two w0 w6 lab6 lab2 B H (delS H S cl.l) S c6 → Calls Tryz.prog 17 #[.pointer (some ⟨B.pp, 0, none⟩), .slice cl.a cl.l.length cl.cap] w6 fun e w7 => e = .returned (.int .i64 (delR H S cl.l)) ∧ ∃ lab7, Two w0 w7 lab6 lab7 B H (delS H S cl.l) (delS H S cl.l) c6 ∧ Keep lab2 w6 lab7 w7) := hid (fun w6 lab6 c6 h6 => two_rdeliver h6 cl.cap HBY.out HLM.out)
                  have HFR2 : Hid ((delS H S cl.l).Ai.free = []) := hid (by rw [delS_Ai]; exact HFR.out)
                  obtain ⟨rr, hrr⟩ : ∃ rr, rr = delR H S cl.l := ⟨_, rfl⟩
                  rw [← hrr] at HSN HRS
                  clear hrr
                  obtain ⟨SF, hSF⟩ : ∃ SF, SF = delS H S cl.l := ⟨_, rfl⟩
                  rw [← hSF] at HSN HRS HFR2
                  clear hSF
                  obtain ⟨ll, hll⟩ : ∃ ll, ll = cl.l.length := ⟨_, rfl⟩
                  have HLL : Hid (∀ z : List Int, z = cl.l → ll = z.length) := hid (fun z hz => by rw [hz]; exact hll)
                  rw [← hll] at hap y3 d3 hbig hlm HSN HRS HK3
                  clear hll
                  rw [q] at y0
                  go_wp2_with (at_builtin; refine wpList_append5 rfl _ _ 25 rfl rfl rfl hap ?_)
                  go_region_held3 (fun w' => w'.cell? ⟨cb, co + j * 4 + 3, none⟩ = some (.slice cl.a ll cl.cap)) ((first | exact y3 | exact HC6.out | exact HC7.out)) ((first | (go_at_call 16; refine HSN.out.mono ?_; rintro e w6 ⟨rfl, lab6, hT6, hK6⟩; have HT6 := hid hT6; have HC6 := hid (cell_later hT6.bel HK3.out); have HP6 := hid (HCD.out.prog hK6); clear hT6 hK6) | (go_at_call 17; refine (HRS.out w6 lab6 _ HT6.out).mono ?_; rintro e w7 ⟨rfl, lab7, hT7, hK7⟩; have HT7 := hid hT7; have HC7 := hid (cell_later hT7.bel HK3.out); have HP7 := hid (HP6.out.ref hK7); clear hT7 hK7)))
                  obtain ⟨v1, v2, v3, v4⟩ := HT7.out.ends (cap := N) (cap' := N) HP7.out HBY.out cl.cap
                  rw [HG.out.1, HG.out.2.2.1] at v1
                  rw [HG.out.2.1, HG.out.2.2.1] at v2
                  replace v3 := fun z => v3 z cp
                  rw [← HLL.out _ rfl] at v3 v4
                  have x3 := HC7.out
                  generalize strOfNums (at_ SF.f 0 N) = sm at *
                  generalize strOfNums cl.l = sb at *
                  go_wp2_with fail
                  go_quiet (fail)
                  go_wp2
                  go_roundw
                  case rel => exact ⟨j + 1, SF, _, _, _, by omega, by go_num, HT7.out.below (below_drewN (Below.refl _ _) _), Nat.le_trans HC.out (Nat.le_trans (Nat.le_add_right _ _) (lim_succ j)), HFR2.out⟩
                  case measure => simp [RowKit.intOf]; omega
                · by_cases q4 : cl.k = 4
                  · have q := q4
                    rw [q] at y0
                    have HSN := hid (two_sent HTC.out)
                    have HRS : Hid (∀ w6 lab6 c6, Two w0 w6 lab6 lab2 B H (S.setO (sentAll H S).1) S c6 → Calls Tryz.prog 19 #[.pointer (some ⟨B.pp, 0, none⟩)] w6 fun e w7 => ∃ v, e = .returned v ∧ ∃ lab7, Two w0 w7 lab6 lab7 B H (S.setO (sentAll H S).1) (S.setO (sentAll H S).1) c6 ∧ Keep lab2 w6 lab7 w7 ∧ FmRow w7 (Mine5 w6 w7 lab7) v (sentAll H S).2) := hid (fun w6 lab6 c6 h6 => two_rsent h6)
                    have HFR2 : Hid ((S.setO (sentAll H S).1).Ai.free = []) := hid (HFR.out)
                    have HLEN : Hid ((sentAll H S).2.length ≤ 1048576) := hid (Nat.le_trans (sentAll_len H S) (by omega))
                    generalize (sentAll H S).2 = Ls at *
                    generalize S.setO (sentAll H S).1 = SF at *
                    obtain ⟨ll, hll⟩ : ∃ ll, ll = cl.l.length := ⟨_, rfl⟩
                    have HLL : Hid (∀ z : List Int, z = cl.l → ll = z.length) := hid (fun z hz => by rw [hz]; exact hll)
                    rw [← hll] at hap y3 d3 hbig hlm
                    clear hll
                    go_wp2_with (at_builtin; refine wpList_append5 rfl _ _ 25 rfl rfl rfl hap ?_)
                    refine HSN.out.mono ?_
                    rintro e w6 ⟨rv, rfl, lab6, hT6, hK6, hf6⟩
                    have HT6 := hid hT6
                    have HP6 := hid (HCP.out.prog hK6)
                    have HF6 := hid hf6
                    clear hT6 hK6 hf6
                    go_wp2_with fail
                    refine (HRS.out w6 lab6 _ HT6.out).mono ?_
                    rintro e w7 ⟨rv2, rfl, lab7, hT7, hK7, hf7⟩
                    have HT7 := hid hT7
                    have HP7 := hid (HP6.out.ref hK7)
                    have HSM := hid (sameRows_same w7 _ _ rv rv2 Ls (HF6.out.beside HTC.out hK7) hf7 HLEN.out)
                    clear hT7 hK7 hf7
                    go_wp2_with fail
                    refine HSM.out.mono ?_
                    rintro e w8 ⟨rfl, hb8⟩
                    have HT8 := hid (HT7.out.below hb8)
                    have HP8 := hid (HP7.out.below hb8)
                    clear hb8
                    obtain ⟨v1, v2, v3, v4⟩ := HT8.out.ends (cap := N) (cap' := N) HP8.out HBY.out cl.cap
                    rw [HG.out.1, HG.out.2.2.1] at v1
                    rw [HG.out.2.1, HG.out.2.2.1] at v2
                    replace v3 := fun z => v3 z cp
                    rw [← HLL.out _ rfl] at v3 v4
                    have x3 := cell_later HT8.out.bel HK3.out
                    rw [← HLL.out _ rfl] at x3
                    generalize strOfNums (at_ SF.f 0 N) = sm at *
                    generalize strOfNums cl.l = sb at *
                    go_wp2_with fail
                    go_quiet (fail)
                    go_wp2
                    go_roundw
                    case rel => exact ⟨j + 1, SF, _, _, _, by omega, by go_num, HT8.out.below (below_drewN (Below.refl _ _) _), Nat.le_trans HC.out (Nat.le_trans (Nat.le_add_right _ _) (lim_succ j)), HFR2.out⟩
                    case measure => simp [RowKit.intOf]; omega
                  · by_cases q5 : cl.k = 5
                    · rw [q5] at y0
                      by_cases hin : 0 ≤ cl.n ∧ cl.n < (N : Int)
                      · obtain ⟨in1, in2⟩ := hin
                        obtain ⟨ix, hix⟩ : ∃ ix : Nat, cl.n = ix := ⟨cl.n.toNat, by omega⟩
                        rw [hix] at y1 in1 in2
                        have hixN : ix < N := by omega
                        clear hix
                        obtain ⟨xv, hxv⟩ : ∃ xv, IntKind.u8.wrap cl.m = xv := ⟨_, rfl⟩
                        have hxB : IsB xv := by rw [← hxv]; unfold IsB; simp only [IntKind.wrap_u8]; omega
                        have hmA : Mem wc w1.heap.size N S.f := by have := HTC.out.net.mem; rw [HG.out.1, HG.out.2.2.1] at this; exact this
                        have hmB : Mem wc (w1.heap.size + 1) N S.f := by have := HTC.out.rnet.mem; rw [HG.out.2.1, HG.out.2.2.1] at this; exact this
                        have cA := hmA.cell hixN
                        have cB := hmB.cell hixN
                        have fA := hmA.frozen ix
                        have fB := hmB.frozen ix
                        have hT6 := (HTC.out.poke1 ix xv hxB).poke2 ix xv hxB
                        rw [HG.out.1, HG.out.2.1] at hT6
                        have HT6 := hid hT6
                        have HP6 : Hid (Cpy ((wc.setCell ⟨w1.heap.size, ix, none⟩ (.int .u8 xv)).setCell ⟨w1.heap.size + 1, ix, none⟩ (.int .u8 xv)) lab lab2 a' cl.l) := hid ((HCP.out.prog (lab' := lab) ⟨fun _ _ => rfl, (Mods.refl _ _).setCell _ _ _ (by rw [← HG.out.1, HTC.out.net.l5]; omega)⟩).ref (lab2' := lab2) ⟨fun _ _ => rfl, (Mods.refl _ _).setCell _ _ _ (by rw [← HG.out.2.1, HTC.out.rnet.l5]; omega)⟩)
                        have HFR2 : Hid (({ S with f := fun i => if i = ix then xv else S.f i } : Ns).Ai.free = []) := hid HFR.out
                        obtain ⟨SF, hSF⟩ : ∃ SF : Ns, SF = { S with f := fun i => if i = ix then xv else S.f i } := ⟨_, rfl⟩
                        rw [← hSF] at HT6 HFR2
                        clear hSF
                        have hcbl : cb < w0.heap.size := World.block_lt_of_cell? w0 _ HK3.out
                        have hcb1 : ¬ cb = w1.heap.size := by have := HS1.out; omega
                        have hcb2 : ¬ cb = w1.heap.size + 1 := by have := HS1.out; omega
                        have cm : (wc.setCell ⟨w1.heap.size, ix, none⟩ (.int .u8 xv)).cell? ⟨cb, co + j * 4 + 1, none⟩ = some (.int .i64 ix) := (World.cell?_of_block (w := wc) (Below.heap_setCell _ _ _ _ hcb1)).trans y1
                        have cm2 : (wc.setCell ⟨w1.heap.size, ix, none⟩ (.int .u8 xv)).cell? ⟨cb, co + j * 4 + 2, none⟩ = some (.int .i64 cl.m) := (World.cell?_of_block (w := wc) (Below.heap_setCell _ _ _ _ hcb1)).trans y2
                        have cB2 : (wc.setCell ⟨w1.heap.size, ix, none⟩ (.int .u8 xv)).cell? ⟨w1.heap.size + 1, ix, none⟩ = some (.int .u8 (S.f ix)) := (World.cell?_of_block (w := wc) (Below.heap_setCell _ _ _ _ (by show w1.heap.size + 1 ≠ w1.heap.size; omega))).trans cB
                        obtain ⟨ll, hll⟩ : ∃ ll, ll = cl.l.length := ⟨_, rfl⟩
                        have HLL : Hid (∀ z : List Int, z = cl.l → ll = z.length) := hid (fun z hz => by rw [hz]; exact hll)
                        rw [← hll] at hap y3 d3 hbig hlm
                        clear hll hmA hmB hT6
                        go_wp2_with (at_builtin; refine wpList_append5 rfl _ _ 25 rfl rfl rfl hap ?_)
                        go_region
                        go_wp2_with fail
                        go_region
                        obtain ⟨W7, hW7⟩ : ∃ W7, W7 = ((wc.setCell ⟨w1.heap.size, ix, none⟩ (.int .u8 xv)).setCell ⟨w1.heap.size + 1, ix, none⟩ (.int .u8 xv)).drew.drew := ⟨_, rfl⟩
                        have HT7 : Hid (Two w0 W7 lab lab2 B H SF SF c) := hid (by rw [hW7]; exact (HT6.out.below ((Below.refl _ _).drew)).below ((Below.refl _ _).drew))
                        have HP7 : Hid (Cpy W7 lab lab2 a' cl.l) := hid (by rw [hW7]; exact (HP6.out.below ((Below.refl _ _).drew)).below ((Below.refl _ _).drew))
                        rw [← hW7]
                        clear hW7
                        obtain ⟨v1, v2, v3, v4⟩ := HT7.out.ends (cap := N) (cap' := N) HP7.out HBY.out cl.cap
                        rw [HG.out.1, HG.out.2.2.1] at v1
                        rw [HG.out.2.1, HG.out.2.2.1] at v2
                        replace v3 := fun z => v3 z cp
                        rw [← HLL.out _ rfl] at v3 v4
                        have x3 := cell_later HT7.out.bel HK3.out
                        rw [← HLL.out _ rfl] at x3
                        generalize strOfNums (at_ SF.f 0 N) = sm at *
                        generalize strOfNums cl.l = sb at *
                        go_wp2_with fail
                        go_quiet (fail)
                        go_wp2
                        go_roundw
                        case rel => exact ⟨j + 1, SF, _, _, _, by omega, by go_num, HT7.out.below (below_drewN (Below.refl _ _) _), Nat.le_trans HC.out (Nat.le_trans (Nat.le_add_right _ _) (lim_succ j)), HFR2.out⟩
                        case measure => simp [RowKit.intOf]; omega
                      · by_cases hn0 : 0 ≤ cl.n
                        · have hn1 : ¬ (cl.n < (N : Int)) := fun h => hin ⟨hn0, h⟩
                          obtain ⟨v1, v2, v3, v4⟩ := HTC.out.ends (cap := N) (cap' := N) HCP.out HBY.out cl.cap
                          rw [HG.out.1, HG.out.2.2.1] at v1
                          rw [HG.out.2.1, HG.out.2.2.1] at v2
                          replace v3 := fun z => v3 z cp
                          have x3 := cell_later HTC.out.bel HK3.out
                          generalize strOfNums (at_ S.f 0 N) = sm at *
                          generalize strOfNums cl.l = sb at *
                          generalize cl.l.length = ll at *
                          go_wp2_with (at_builtin; refine wpList_append5 rfl _ _ 25 rfl rfl rfl hap ?_)
                          go_wp2_with fail
                          go_quiet (fail)
                          go_wp2
                          go_roundw
                          case rel => exact ⟨j + 1, S, _, _, _, by omega, by go_num, HTC.out.below (below_drewN (Below.refl _ _) _), Nat.le_trans HC.out (Nat.le_trans (Nat.le_add_right _ _) (lim_succ j)), HFR.out⟩
                          case measure => simp [RowKit.intOf]; omega
                        · have hn1 : decide (0 ≤ cl.n) = false := decide_eq_false hn0
                          obtain ⟨v1, v2, v3, v4⟩ := HTC.out.ends (cap := N) (cap' := N) HCP.out HBY.out cl.cap
                          rw [HG.out.1, HG.out.2.2.1] at v1
                          rw [HG.out.2.1, HG.out.2.2.1] at v2
                          replace v3 := fun z => v3 z cp
                          have x3 := cell_later HTC.out.bel HK3.out
                          generalize strOfNums (at_ S.f 0 N) = sm at *
                          generalize strOfNums cl.l = sb at *
                          generalize cl.l.length = ll at *
                          go_wp2_with (at_builtin; refine wpList_append5 rfl _ _ 25 rfl rfl rfl hap ?_)
                          go_wp2_with fail
                          go_quiet (fail)
                          go_wp2
                          go_roundw
                          case rel => exact ⟨j + 1, S, _, _, _, by omega, by go_num, HTC.out.below (below_drewN (Below.refl _ _) _), Nat.le_trans HC.out (Nat.le_trans (Nat.le_add_right _ _) (lim_succ j)), HFR.out⟩
                          case measure => simp [RowKit.intOf]; omega
                    · have z1 : (cl.k == 1) = false := by simpa using q
                      have z2 : (cl.k == 2) = false := by simpa using q2
                      have z3 : (cl.k == 3) = false := by simpa using q3
                      have z4 : (cl.k == 4) = false := by simpa using q4
                      have z5 : (cl.k == 5) = false := by simpa using q5
                      generalize cl.k = kd at *
                      obtain ⟨v1, v2, v3, v4⟩ := HTC.out.ends (cap := N) (cap' := N) HCP.out HBY.out cl.cap
                      rw [HG.out.1, HG.out.2.2.1] at v1
                      rw [HG.out.2.1, HG.out.2.2.1] at v2
                      replace v3 := fun z => v3 z cp
                      have x3 := cell_later HTC.out.bel HK3.out
                      generalize strOfNums (at_ S.f 0 N) = sm at *
                      generalize strOfNums cl.l = sb at *
                      generalize cl.l.length = ll at *
                      go_wp2_with (at_builtin; refine wpList_append5 rfl _ _ 25 rfl rfl rfl hap ?_)
                      go_wp2_with fail
                      go_quiet (fail)
                      go_wp2
                      go_roundw
                      case rel => exact ⟨j + 1, S, _, _, _, by omega, by go_num, HTC.out.below (below_drewN (Below.refl _ _) _), Nat.le_trans HC.out (Nat.le_trans (Nat.le_add_right _ _) (lim_succ j)), HFR.out⟩
                      case measure => simp [RowKit.intOf]; omega
        · have hji : (j : Int) < cln := by omega
          have hj6i : ¬ ((j : Int) < 60) := by omega
          have hbel := hid hT.bel
          clear hT hfr hc
          go_wp2
          go_ret
          exact ⟨rfl, hbel.out⟩
      · have hji : ¬ ((j : Int) < cln) := by omega
        have hji2 : decide ((j : Int) < cln) = false := decide_eq_false hji
        have hbel := hid hT.bel
        clear hT hfr hc
        go_wp2
        go_ret
        exact ⟨rfl, hbel.out⟩
end Go.Proofs.YtdjghkngiicncaaGreat
