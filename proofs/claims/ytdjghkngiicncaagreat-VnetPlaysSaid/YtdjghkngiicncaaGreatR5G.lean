/- The document's card: Send. -/
import Derived.Test.YtdjghkngiicncaaGreatR5F
namespace Go.Proofs.YtdjghkngiicncaaGreat
open Go.RowKit

theorem Bytes.keep_lab {w w' : World} {lab lab' : Nat → Nat} {ad : Option Addr} {L : List Int} (h : Bytes w ad L) (hk : Keep lab w lab' w') (hl : ∀ b off, ad = some ⟨b, off, none⟩ → lab b = 0) : Bytes w' ad L := fun i hi => by
  obtain ⟨b, off, h1, h2, h3⟩ := h i hi
  exact ⟨b, off, h1, hk.2.cell h2 (fun e => e (hl b off h1)), h3⟩
theorem RNetAt.wr {w : World} {lab : Nat → Nat} {B : Rb} {H : Nh} {S : Ns} {v1 v2 : Value} {l1 l2 : List Nat} (h : RNetAt w lab B H S v1 v2 l1 l2) (i : Nat) (x : Int) (hx : IsB x) :
    ∃ lab', RNetAt (w.setCell ⟨B.g, i, none⟩ (.int .u8 x)) lab' B H { S with f := fun j => if j = i then x else S.f j } v1 v2 l1 l2 ∧ Keep lab w lab' (w.setCell ⟨B.g, i, none⟩ (.int .u8 x)) :=
  h.toVI (h.vi.keep (Below.heap_setCell _ _ _ _ (by show B.vi ≠ B.g; intro e; have h1 := h.l3; rw [e, h.l5] at h1; omega))) (h.mem.set1 i x hx) ((Mods.refl _ _).setCell B.g i _ (.inr rfl))
theorem puts_row (f : Nat → Int) (z : Nat) (L : List Int) (k : Nat) (hk : k < 12 + L.length) : puts f z ((rowL L).take (k + 1)) = fun j => if j = z + k then (if k < 12 then 0 else L.getD (k - 12) 0) else puts f z ((rowL L).take k) j := by
  funext j
  rw [puts_take _ _ _ _ (by rw [rowL_len]; exact hk), rowL_get]
set_option maxRecDepth 100000 in
set_option maxHeartbeats 16000000 in
theorem rSend_any (w : World) (lab : Nat → Nat) (B : Rb) (H : Nh) (S : Ns) (hn : RNet w lab B H S) (ad : Option Addr) (cap len : Nat) (L : List Int) (hB : Bytes w ad L) (hln : L.length = len) (_hlm : len ≤ maxLen) (hl : ∀ b off, ad = some ⟨b, off, none⟩ → lab b = 0) :
    Calls Tryz.prog 12 #[.pointer (some ⟨B.pc, 0, none⟩), .slice ad len cap] w fun e w' => e = .returned (.int .i64 (sendR H S L)) ∧ ∃ lab', RNet w' lab' B H (sendS H S L) ∧ Keep lab w lab' w' := by
  unfold sendR sendS
  rw [hln]
  have HNN := hid hn
  obtain ⟨v1, v2, hat⟩ := hn
  cases hfr : frB (len : Int) with
  | false =>
    simp only [Bool.false_eq_true, if_false]
    have hout : ((len : Int) < 14) ∨ (1514 < (len : Int)) := by simp [frB] at hfr; omega
    clear hfr hat hB hln
    rcases hout with hout | hout
    · go_enter Tryz.func12, Tryz.ntmps12
      go_wp2
      go_ret
      exact ⟨rfl, lab, HNN.out, Keep.refl _ _⟩
    · have hn14 : ¬ ((len : Int) < 14) := by omega
      go_enter Tryz.func12, Tryz.ntmps12
      go_wp2
      go_ret
      exact ⟨rfl, lab, HNN.out, Keep.refl _ _⟩
  | true =>
    obtain ⟨h14, h15⟩ := frB_iff.1 hfr
    have g14 : ¬ ((len : Int) < 14) := by omega
    have g15 : ¬ (1514 < (len : Int)) := by omega
    simp only [if_true]
    have hbd := H.bd
    have hbig := H.big
    have HAT0 := hid hat
    have HB := hid hB
    have HLN := hid hln
    have HL := hid hl
    have HOK0 := hid hat.oko
    obtain ⟨T0, hT0⟩ : ∃ T0, backS H.qo S.o = T0 := ⟨_, rfl⟩
    have HT0 := hid hT0
    rw [hT0]
    obtain ⟨RES, hRES⟩ : ∃ r : Int, (if T0.A.free.length = 0 then 7 else 0) = r := ⟨_, rfl⟩
    obtain ⟨SF, hSF⟩ : ∃ r : Ns, (if T0.A.free.length = 0 then S.setO T0 else S.setO (sendA H T0 L)) = r := ⟨_, rfl⟩
    rw [hRES, hSF]
    have HRES := hid hRES
    have HSF := hid hSF
    clear hRES hSF
    obtain ⟨I, hI⟩ : ∃ I : Int, rd S.f (H.qo.pu + 2) 2 = I := ⟨_, rfl⟩
    have HME : Hid (∀ (T' : Sd) (wq : World), T'.f = S.f → cellN wq B.dq 5 = T'.A.uses → ((I - (cellN wq B.dq 5 : Int)) % 65536).toNat = more H.qo T') := hid (fun T' wq a1 a2 => by unfold more; rw [a1, a2, hI])
    clear hat hB hln hl hfr hT0 hI HNN
    go_enter Tryz.func12, Tryz.ntmps12
    go_wp2_with fail
    go_loopw [5] (fun _ wr => ∃ (T : Sd) (lab1 : Nat → Nat) (v' : Value), backS H.qo T = T0 ∧ T.f = S.f ∧ T.o = S.oo ∧ T.u = S.uo ∧ RNetAt wr lab1 B H (S.setO T) v1 v' (hds S.Ai) (hds T.A) ∧ Keep lab w lab1 wr)
      (fun _ wr => ((I - (cellN wr B.dq 5 : Int)) % 65536).toNat)
    case atStart => exact ⟨S.o, lab, v2, HT0.out, rfl, rfl, rfl, HAT0.out, Keep.refl _ _⟩
    case round =>
      obtain ⟨T, lab1, v', hbk, hTf, hTo, hTu, hnT, hkT⟩ := hrel
      obtain ⟨d0, d1, d2, d3, d4, d5, d6, z5, z6⟩ := hnT.cells
      have HBK := hid hbk
      have HTO := hid (And.intro hTf (And.intro hTo hTu))
      have HNT := hid hnT
      have HKT := hid hkT
      have HOK : Hid (Ok H.qo T) := hid hnT.oko
      have HUS := hid (RNetAt.usedO hnT)
      have hcell : Hid (cellN wr B.dq 5 = T.A.uses) := hid hnT.dq.uses
      clear hbk hTf hTo hTu hnT hkT
      rcases usedR_kind H.qo T with hk | hk | hk
      · have HX := hid (back_none HOK.out hk)
        have HUT : Hid (usedS H.qo T = T) := hid (by unfold usedS; rw [if_pos (usedR_none.1 hk)])
        rw [hk] at HUS
        generalize (usedR H.qo T).1 = t1 at *
        generalize (usedR H.qo T).2.1 = t2 at *
        clear hk
        go_wp2_with (go_at_call 36; refine HUS.out.mono ?_; rintro e w3 ⟨rfl, lab3, h3, hk3⟩; obtain ⟨f0, f1, f2, f3, f4, f5, f6, y5, y6⟩ := h3.cells; have HN3 := hid h3; have HK3 := hid (HKT.out.trans hk3); clear h3 hk3)
        have hwf : Wf H.n T.A := HOK.out.wf
        have hone : One T.A := HNT.out.oo
        obtain ⟨x0, hx0⟩ : ∃ x0, fst0 H.n T.A = x0 := ⟨_, rfl⟩
        have HLT0 : Hid (∀ p, p < x0 → p ∈ hds T.A) := hid (fun p hp => fst0_lt hwf hone (by rw [hx0]; exact hp))
        have HEQ0 : Hid (x0 < H.n → 0 < T.A.free.length ∧ x0 = T.A.free.getD 0 0 ∧ x0 ∉ hds T.A) := hid (fun h => by have := fst0_eq hwf hone (by rw [hx0]; exact h); rw [hx0] at this; exact this)
        have HNO0 : Hid (¬ x0 < H.n → T.A.free.length = 0) := hid (fun h => by
          unfold fst0 at hx0
          split at hx0
          · assumption
          · have := hwf.free_lt (getD_mem T.A.free 0 0 (by omega)); omega)
        have hx0n : x0 ≤ H.n := by rw [← hx0]; exact fst0_le hwf
        have hmn : (hds T.A).length ≤ 256 := by have := hds_len hwf hone; omega
        obtain ⟨xa, xc, hxv, hxc⟩ := (HN3.out.r2).open_
        subst hxv
        obtain ⟨m, hm⟩ : ∃ m, (hds T.A).length = m := ⟨_, rfl⟩
        rw [hm] at hxc hmn f6
        rw [hm] at HN3
        have HM := hid hm
        have HXC := hid hxc
        have HTT : Hid (T = T0) := hid (HX.out.symm.trans HBK.out)
        have HBY : Hid (Bytes w3 ad L) := hid (HB.out.keep_lab HK3.out HL.out)
        have HW3 : Hid (RNetAt w3 lab3 B H (S.setO T) v1 (.slice xa m xc) (hds S.Ai) (hds T.A)) := hid (by have h := HN3.out; rw [HUT.out] at h; exact h)
        clear hwf hone hx0 hxc hm HN3 HUS HX HBK hcell d0 d1 d2 d3 d4 d5 d6 z5 z6
        generalize hls : hds T.A = ls at *
        have HLS := hid hls
        clear hls
        go_wp2_with fail
        go_loopw [8] (fun z wr => ∃ p : Nat, p ≤ x0 ∧ z = .int .i64 p ∧ wr = w3) (fun z _ => H.n + 1 - (RowKit.intOf z).toNat)
        case atStart => exact ⟨0, Nat.zero_le _, rfl, rfl⟩
        case round =>
          obtain ⟨p, hp, rfl, hwr⟩ := hrel
          obtain rfl : w3 = wr := hwr.symm
          by_cases hpn : p < H.n
          · have hpi : (p : Int) < H.n := by omega
            go_wp2_with fail
            go_loopw [9, 10] (fun u z wx => ∃ i : Nat, i ≤ m ∧ z = .int .i64 i ∧ u = .bool ((ls.take i).contains p) ∧ wx = w3) (fun _ z _ => m - (RowKit.intOf z).toNat)
            case atStart => exact ⟨0, Nat.zero_le _, rfl, rfl, rfl⟩
            case round =>
              obtain ⟨j, hj, rfl, rfl, hwx⟩ := hrel
              obtain rfl : w3 = wr := hwx.symm
              by_cases hjm : j < m
              · have hji : (j : Int) < m := by omega
                have hj0 : (0 : Int) ≤ j := by omega
                obtain ⟨xb, hxa, _, _, k1⟩ := HXC.out j hjm
                subst hxa
                have HTK : Hid ((ls.take (j + 1)).contains p = ((ls.take j).contains p || (ls.getD j 0 == p))) := hid (by
                  have hjl : j < ls.length := by rw [HM.out]; exact hjm
                  rw [List.take_succ_eq_append_getElem hjl]
                  have e : ls.getD j 0 = ls[j] := by simp [List.getD, hjl]
                  rw [e, Bool.eq_iff_iff]
                  simp only [List.contains_iff_mem, List.mem_append, List.mem_singleton, Bool.or_eq_true, beq_iff_eq]
                  exact ⟨fun h => h.imp id (fun e => e.symm), fun h => h.imp id (fun e => e.symm)⟩)
                generalize ls.getD j 0 = y at *
                cases hc : (ls.take j).contains p with
                | true =>
                  go_wp2
                  go_roundw
                  case rel => exact ⟨j + 1, by omega, by go_num, by rw [HTK.out, hc]; rfl, by trivial⟩
                  case measure => simp [RowKit.intOf]; omega
                | false =>
                  have HCF := hid hc
                  clear hc
                  go_wp2
                  go_roundw
                  case rel =>
                    refine ⟨j + 1, by omega, by go_num, ?_, by trivial⟩
                    rw [HTK.out, HCF.out, Bool.false_or]
                    congr 1
                    rw [Bool.eq_iff_iff]
                    simp only [beq_iff_eq]
                    omega
                  case measure => simp [RowKit.intOf]; omega
              · have hji : ¬ ((j : Int) < m) := by omega
                have hfull : ls.take j = ls := List.take_of_length_le (by rw [HM.out]; omega)
                rw [hfull]
                clear hfull
                by_cases hpx : p < x0
                · have hc : ls.contains p = true := by simpa using HLT0.out p hpx
                  rw [hc]
                  go_wp2
                  go_roundw
                  case rel => exact ⟨p + 1, by omega, by go_num, by trivial⟩
                  case measure => simp [RowKit.intOf]; omega
                · obtain rfl : p = x0 := by omega
                  obtain ⟨q1, q2, q3⟩ := HEQ0.out hpn
                  have hc : ls.contains p = false := by simpa using q3
                  rw [hc]
                  obtain ⟨z, hz⟩ : ∃ z, H.fo + p * 1528 = z := ⟨_, rfl⟩
                  have hfit := H.fo_fit p hpn
                  rw [hz] at hfit
                  have HZ := hid hz
                  have HZ1 : Hid (H.fi + (H.n + p) * 1528 = z) := hid (by rw [← hz]; unfold Nh.fo Nh.fi; rw [Nat.add_mul]; omega)
                  have HAT : Hid (∀ wq : World, wq.cell? ⟨B.pc, 3, none⟩ = some (.int .i64 H.base) → wq.cell? ⟨B.pc, 4, none⟩ = some (.int .i64 H.n) → Calls Tryz.prog 38 #[.pointer (some ⟨B.pc, 0, none⟩), .int .i64 ((H.n : Int) + (p : Int))] wq fun e w' => e = .returned (.int .i64 z) ∧ ∃ q, w' = wq.drewN q) := hid (fun wq a1 a2 => by
                    have h := rat_any wq B.pc H (H.n + p) z a1 a2 (by omega) HZ1.out
                    rw [Int.natCast_add] at h
                    exact h)
                  have HPX := hid (And.intro q1 (And.intro q2 q3))
                  clear hc hz q1 q2 q3 hjm hpx hpi
                  go_wp2_with (go_at_call 38; refine (HAT.out _ f3 f4).mono ?_; rintro e w5 ⟨rfl, q5, hw5⟩; have HB5 : Hid (Below w3.heap.size w3 w5) := hid (by rw [hw5]; exact below_drewN (Below.refl _ _) q5); clear hw5)
                  have HR5 : Hid (RNetAt w5 lab3 B H { S.setO T with f := puts T.f z ((rowL L).take 0) } v1 (.slice xa m xc) (hds S.Ai) ls) := hid (by rw [puts_zero]; exact HW3.out.below HB5.out)
                  have HK5 : Hid (Keep lab w lab3 w5) := hid (HK3.out.trans (Keep.below HB5.out))
                  clear HAT f0 f1 f2 f3 f4 f5 f6 y5 y6
                  go_loopw [12] (fun y wr => ∃ (k : Nat) (lab4 : Nat → Nat), k ≤ 12 + len ∧ y = .int .i64 k ∧ RNetAt wr lab4 B H { S.setO T with f := puts T.f z ((rowL L).take k) } v1 (.slice xa m xc) (hds S.Ai) ls ∧ Keep lab w lab4 wr) (fun y _ => 12 + len - (RowKit.intOf y).toNat)
                  case atStart => exact ⟨0, lab3, Nat.zero_le _, rfl, HR5.out, HK5.out⟩
                  case round =>
                    obtain ⟨k, lab4, hk, rfl, hR, hK⟩ := hrel
                    have HR := hid hR
                    have HK := hid hK
                    obtain ⟨e0, e1, e2, e3, e4, e5, e6, y5, y6⟩ := hR.cells
                    by_cases hkl : k < 12 + len
                    · have hki : (k : Int) < 12 + len := by omega
                      obtain ⟨lab6, hR6, hK6⟩ := hR.wr (z + k) 0 ⟨by omega, by omega⟩
                      have hfz := hR.mem.frozen (z + k)
                      have hzk := hR.mem.cell (i := z + k) (by omega)
                      obtain ⟨_, _, g2, _⟩ := hR6.cells
                      have hfz6 := hR6.mem.frozen (z + k)
                      obtain ⟨vz, hzk6⟩ : ∃ vz, (wr.setCell ⟨B.g, z + k, none⟩ (.int .u8 0)).cell? ⟨B.g, z + k, none⟩ = some vz := ⟨_, hR6.mem.cell (i := z + k) (by omega)⟩
                      clear hR hK
                      by_cases hk12 : k < 12
                      · have hk12i : ¬ ((12 : Int) ≤ k) := by omega
                        go_wp2
                        go_roundw
                        case rel =>
                          refine ⟨k + 1, lab6, by omega, by go_num, ?_, HK.out.trans hK6⟩
                          rw [puts_row _ _ _ _ (by rw [HLN.out]; exact hkl), if_pos hk12]
                          exact hR6
                        case measure => simp [RowKit.intOf]; omega
                      · have hk12i : (12 : Int) ≤ k := by omega
                        have hby := HB.out.keep_lab (HK.out.trans hK6) HL.out
                        obtain ⟨i, rfl⟩ : ∃ i, k = 12 + i := ⟨k - 12, by omega⟩
                        obtain ⟨bb, ob, hab, hcb, hib⟩ := hby i (by rw [HLN.out]; omega)
                        subst hab
                        obtain ⟨lab7, hR7, hK7⟩ := hR6.wr (z + (12 + i)) _ hib
                        have HR7 := hid hR7
                        have HK7 := hid (HK.out.trans (hK6.trans hK7))
                        have HPR : Hid (puts T.f z ((rowL L).take (12 + i + 1)) = fun j => if j = z + (12 + i) then L.getD i 0 else if j = z + (12 + i) then 0 else puts T.f z ((rowL L).take (12 + i)) j) := hid (by
                          rw [puts_row _ _ _ _ (by rw [HLN.out]; exact hkl)]
                          funext j
                          rw [if_neg (show ¬ 12 + i < 12 by omega), Nat.add_sub_cancel_left]
                          split
                          · rfl
                          · rename_i hj0
                            first | rfl | rw [if_neg hj0])
                        clear hR7 hK7 hK6 hib hby hR6
                        generalize L.getD i 0 = bv at *
                        go_wp2
                        generalize hw6 : wr.setCell ⟨B.g, z + (12 + i), none⟩ (.int .u8 0) = w6 at *
                        clear hw6
                        go_region
                        go_wp2
                        go_roundw
                        case rel =>
                          refine ⟨12 + i + 1, lab7, by omega, by go_num, ?_, HK7.out.trans (Keep.below ((Below.refl _ _).drew))⟩
                          rw [HPR.out]
                          exact HR7.out.below ((Below.refl _ _).drew)
                        case measure => simp [RowKit.intOf]; omega
                    · have hki : ¬ ((k : Int) < 12 + len) := by omega
                      obtain rfl : k = 12 + len := by omega
                      have hfull : (rowL L).take (12 + len) = rowL L := List.take_of_length_le (by rw [rowL_len, HLN.out]; omega)
                      have HRF : Hid (RNetAt wr lab4 B H { S.setO T with f := puts T.f z (rowL L) } v1 (.slice xa m xc) (hds S.Ai) ls) := hid (by rw [← hfull]; exact hR)
                      obtain ⟨q1, q2, q3⟩ := HPX.out
                      have hsum : ((12 + len : Nat) : Int) = 12 + (len : Int) := by omega
                      have HADD : Hid (Calls Tryz.prog 39 #[.pointer (some ⟨B.dq, 0, none⟩), .slice (some ⟨wr.heap.size, 0, none⟩) 1 1] (wr.alloc (.cells #[.int .i64 z, .int .i64 (12 + (len : Int)), .bool false] 88)) fun e w' => e = .returned (.tuple #[.int .i64 p, .int .i64 0]) ∧ ∃ lab', RNetAt w' lab' B H (S.setO (sendA H T L)) v1 (.slice xa m xc) (hds S.Ai) ls ∧ Keep lab w lab' w') := hid (by
                        have hcon := rAdd_S wr _ B.dq B.g H.qo ({ S.setO T with f := puts T.f z (rowL L) } : Ns).o (fun b => lab4 b = 2) ⟨z, ((12 + len : Nat) : Int), false⟩ rfl HRF.out.dq HRF.out.wo HRF.out.mem ⟨by simp, by simp; omega, by simp; omega, by simp; omega⟩ q1
                        rw [show ({ S.setO T with f := puts T.f z (rowL L) } : Ns).o.A.free.getD 0 0 = p from q2.symm] at hcon
                        simp only [hsum] at hcon
                        refine hcon.mono ?_
                        rintro e w' ⟨rfl, hs, hm⟩
                        obtain ⟨lab', h7, h8⟩ := HRF.out.toDO hs hm (AddA_wf HRF.out.wo 1 (by omega) q1) (One.add HRF.out.oo q1)
                        refine ⟨rfl, lab', ?_, HK.out.trans h8⟩
                        have he : S.setO (sendA H T L) = { ({ S.setO T with f := puts T.f z (rowL L) } : Ns) with Ao := AddA T.A 1, f := addF (puts T.f z (rowL L)) H.qo T.A [⟨z, 12 + (len : Int), false⟩] } := by
                          unfold sendA
                          rw [← q2, HZ.out, HLN.out, hsum]
                          rfl
                        rw [he]
                        exact h7)
                      clear hR hK hfull q1 q2 q3 hsum
                      go_wp2_with (first | (at_builtin; refine nappend_run rfl (.tmp 135) (.tmp 139) 58 rfl rfl rfl hr8 ?_) | (go_at_call 39; refine HADD.out.mono ?_; rintro e w7 ⟨rfl, lab7, h7, hk7⟩; obtain ⟨b0, b1, b2, b3, b4, b5, b6, x5, x6⟩ := h7.cells; have HN7 := hid h7; have HK7 := hid hk7; obtain ⟨a8, c8, w8, hr8, k8, z8, lab8, h8, hk8⟩ := put_pair2 h7 p (by rw [HM.out]; omega) 58; have HN8 := hid h8; have HK8 := hid hk8; clear h7 hk7 h8 hk8))
                      go_ret
                      obtain ⟨q1, q2, q3⟩ := HPX.out
                      have hf0' : ¬ T0.A.free.length = 0 := by rw [← HTT.out]; omega
                      have hr := HRES.out
                      have hs := HSF.out
                      rw [if_neg hf0'] at hr hs
                      subst hr hs
                      refine ⟨rfl, lab8, ?_, HK7.out.trans HK8.out⟩
                      rw [← HTT.out]
                      have hh : hds (S.setO (sendA H T L)).Ao = ls ++ [p] := by
                        show hds (AddA T.A 1) = _
                        rw [hds_add, HLS.out, ← q2]
                      have hN := HN8.out
                      rw [← hh] at hN
                      exact ⟨v1, _, hN⟩
          · have hpi : ¬ ((p : Int) < H.n) := by omega
            have hf0 := HNO0.out (by omega)
            go_wp2
            go_ret
            have hf0' : T0.A.free.length = 0 := by rw [← HTT.out]; exact hf0
            have hr := HRES.out
            have hs := HSF.out
            rw [if_pos hf0'] at hr hs
            subst hr hs
            refine ⟨rfl, lab3, ?_, HK3.out⟩
            rw [← HTT.out]
            exact ⟨_, _, (by rw [← HLS.out] at HW3; exact HW3.out)⟩
      · have hne2 : ¬ (usedR H.qo T).2.2 = 2 := by rw [hk]; decide
        have HBM := hid ((back_more HOK.out hne2).symm.trans HBK.out)
        have HST := hid (usedS_step HOK.out (fun e => hne2 (usedR_none.2 e)))
        have HHD := hid (hds_bad (q := H.qo) (S := T) (by rw [hk]; decide))
        rw [hk] at HUS
        generalize (usedR H.qo T).1 = t1 at *
        generalize (usedR H.qo T).2.1 = t2 at *
        clear hk hne2
        go_wp2_with (go_at_call 36; refine HUS.out.mono ?_; rintro e w3 ⟨rfl, lab3, h3, hk3⟩; have HN3 := hid h3; have HK3 := hid (HKT.out.trans hk3); clear h3 hk3)
        go_roundw
        case rel =>
          refine ⟨usedS H.qo T, lab3, v', HBM.out, (usedS_f _ _).trans HTO.out.1, (usedS_o _ _).1.trans HTO.out.2.1, (usedS_o _ _).2.trans HTO.out.2.2, ?_, HK3.out⟩
          rw [HHD.out]
          exact HN3.out
        case measure =>
          have m1 := HME.out T wr HTO.out.1 hcell.out
          have m2 := HME.out (usedS H.qo T) w3 ((usedS_f _ _).trans HTO.out.1) HN3.out.dq.uses
          have m3 := HST.out
          omega
      · have hne2 : ¬ (usedR H.qo T).2.2 = 2 := by rw [hk]; decide
        have HBM := hid ((back_more HOK.out hne2).symm.trans HBK.out)
        have HST := hid (usedS_step HOK.out (fun e => hne2 (usedR_none.2 e)))
        obtain ⟨x, la, lb, q1, q2, q3, q4⟩ := hds_usedS (q := H.qo) (S := T) hk
        have hwf : Wf H.n T.A := HOK.out.wf
        have hmn : (hds T.A).length ≤ 256 := by have := hds_len hwf HNT.out.oo; omega
        rw [hk, q1] at HUS
        have HQ := hid (And.intro q2 (And.intro q3 (And.intro q4 hmn)))
        generalize (usedR H.qo T).2.1 = t2 at *
        clear hk hne2 q1 q2 q3 q4 hmn hwf
        go_wp2_with (first
          | (go_at_call 37; refine (taken_any w3 v' la lb x (by have h := HN3.out.r2; rw [HQ.out.1] at h; exact h) HQ.out.2.1 (by have h := HQ.out.2.2.2; rw [HQ.out.1] at h; exact h)).mono ?_; rintro e w4 ⟨v4, rfl, hr4, hv4, hb4⟩; obtain ⟨a4, c4, n4, hvv⟩ : ∃ a4 c4 n4, v4 = .slice a4 n4 c4 := (let ⟨a, c, h, _⟩ := hr4.open_; ⟨a, c, _, h⟩); subst hvv; obtain ⟨k0, k1, k2, k3, k4, k5, k6, x5, x6⟩ := (HN3.out.below hb4).cells; obtain ⟨lab4, h4, hk4⟩ := HN3.out.took2 hb4 hr4 hv4; have HN4 := hid h4; have HK4 := hid (HK3.out.trans hk4); clear h4 hk4 hr4 hv4 hb4)
          | (go_at_call 36; refine HUS.out.mono ?_; rintro e w3 ⟨rfl, lab3, h3, hk3⟩; obtain ⟨f0, f1, f2, f3, f4, f5, f6, y5, y6⟩ := h3.cells; have HN3 := hid h3; have HK3 := hid (HKT.out.trans hk3); clear h3 hk3))
        go_roundw
        case rel =>
          refine ⟨usedS H.qo T, lab4, .slice a4 n4 c4, HBM.out, (usedS_f _ _).trans HTO.out.1, (usedS_o _ _).1.trans HTO.out.2.1, (usedS_o _ _).2.trans HTO.out.2.2, ?_, HK4.out⟩
          rw [HQ.out.2.2.1]
          exact HN4.out
        case measure =>
          have m1 := HME.out T wr HTO.out.1 hcell.out
          have m2 := HME.out (usedS H.qo T) _ ((usedS_f _ _).trans HTO.out.1) HN4.out.dq.uses
          have m3 := HST.out
          omega
end Go.Proofs.YtdjghkngiicncaaGreat
