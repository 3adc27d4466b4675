/- SchedLocks: whoever is picked when, a lock is held by one at a time, and those that wait for it get it in the order in which they came. -/
import Derived.Test.YtacmdhlemolngaaScMh
import Derived.Test.YtacmdhlemolngaaScMg
import Derived.Test.YtacmdhlemolngaaScMs
import Derived.Deep.CutBlock
import Derived.Deep.DeepCutAuto
namespace Go.Proofs.Ytacmdhlemolngaa
open Go.RowKit Go.Maps

theorem came_len : ∀ l : List Int, (came l).length ≤ l.length
  | [] => by simp [came]
  | x :: r => by have := came_len r; rw [came]; split <;> simp <;> omega
theorem got_len : ∀ l : List Int, (got l).length ≤ l.length
  | [] => by simp [got]
  | x :: r => by have := got_len r; rw [got]; split <;> simp <;> omega
set_option maxRecDepth 100000 in
set_option maxHeartbeats 16000000 in
theorem Locks_any (w0 : World) (x y : Int) (ad : Option Addr) (wo : List Int) (cap ln : Nat) (hwo : Ints w0 ad wo) (hln : wo.length = ln) (hl : ln ≤ maxLen) (ad2 : Option Addr) (pk : List Int) (cap2 ln2 : Nat) (hpk : Ints w0 ad2 pk) (hln2 : pk.length = ln2) (hl2 : ln2 ≤ maxLen) :
    Calls Try.prog 6 #[.int .i64 x, .int .i64 y, .slice ad ln cap, .slice ad2 ln2 cap2] w0 fun e w' => e = .returned (.bool true) ∧ Below w0.heap.size w0 w' := by
  have HKN := hid (known_any w0)
  obtain ⟨N, hN, hN1, hN2⟩ : ∃ N : Nat, 1 + wi x 6 = (N : Int) ∧ 1 ≤ N ∧ N ≤ 6 := by
    have := wi_bd x 6 (by omega)
    exact ⟨(1 + wi x 6).toNat, by omega, by omega, by omega⟩
  obtain ⟨T, hT, hT2⟩ : ∃ T : Nat, wi y 5 = (T : Int) ∧ T ≤ 4 := by
    have := wi_bd y 5 (by omega)
    exact ⟨(wi y 5).toNat, by omega, by omega⟩
  have HW1 : Hid (∀ w : World, Calls Try.prog 24 #[.int .i64 x, .int .i64 6] w fun e w' => e = .returned (.int .i64 (wi x 6)) ∧ w' = w) := hid (fun w => within_any x 6 (by omega) (by omega) w)
  have HW2 : Hid (∀ w : World, Calls Try.prog 24 #[.int .i64 y, .int .i64 5] w fun e w' => e = .returned (.int .i64 T) ∧ w' = w) := hid (fun w => by rw [← hT]; exact within_any y 5 (by omega) (by omega) w)
  have HW4 : Hid (∀ (z : Int) (w : World), ∃ v : Nat, v ≤ 3 ∧ Calls Try.prog 24 #[.int .i64 z, .int .i64 4] w fun e w' => e = .returned (.int .i64 v) ∧ w' = w) := hid (fun z w => by
    have := wi_bd z 4 (by omega)
    refine ⟨(wi z 4).toNat, by omega, ?_⟩
    rw [show (((wi z 4).toNat : Nat) : Int) = wi z 4 by omega]
    exact within_any z 4 (by omega) (by omega) w)
  have hwr : IntKind.i64.wrap (1 + wi x 6) = (N : Int) := by rw [hN]; exact IntWalk.i64_in _ (by omega)
  have HWO := hid hwo
  have HLN := hid hln
  have HPK := hid hpk
  have HLN2 := hid hln2
  have hlm : (ln : Int) ≤ 9223372036854775807 := by unfold maxLen at hl; omega
  have hlm2 : (ln2 : Int) ≤ 9223372036854775807 := by unfold maxLen at hl2; omega
  clear hN hT hwo hln hl hpk hln2 hl2
  generalize wi x 6 = wx at *
  go_enter Try.func6, Try.ntmps6
  go_wp2_with fail
  refine HKN.out.mono ?_
  rintro e w1 ⟨rfl, hb1⟩
  have HB1 := hid hb1
  clear hb1
  go_wp2_with fail
  refine (HW1.out w1).mono ?_
  rintro e w2 ⟨rfl, hw2⟩
  rw [hw2]
  clear hw2
  go_wp2_with fail
  refine (HW2.out w1).mono ?_
  rintro e w2 ⟨rfl, hw2⟩
  rw [hw2]
  clear hw2
  go_wp2_with fail
  refine (New_any w1).mono ?_
  rintro e w2 ⟨p, lab, rfl, hS, hb2, hl2⟩
  obtain ⟨W, hW⟩ : ∃ W, W = ((w2.alloc (.cells #[.slice none 0 0] 31)).alloc (.cells #[.slice none 0 0] 31)).alloc (.cells #[.bool false] 4) := ⟨_, rfl⟩
  obtain ⟨hlw, hbW⟩ := Lw.start (sh := fun _ => ⟨0, 0, 0, 0⟩) (HB1.out.trans (hb2.mono HB1.out.size)) (fun b hb => hl2 b (Nat.lt_of_lt_of_le hb HB1.out.size)) (fun b hb => hS.lt b hb) hW
  have HLW := hid hlw
  have HSC := hid (hS.below hbW)
  clear hS hb2 hl2 hlw hbW
  go_upto_block 0 with fail
  rw [← hW]
  clear hW HKN HW1 HW2 HB1
  obtain ⟨bi, hbi⟩ : ∃ bi, bi = w2.heap.size := ⟨_, rfl⟩
  obtain ⟨bo, hbo⟩ : ∃ bo, bo = w2.heap.size + 1 := ⟨_, rfl⟩
  obtain ⟨bb, hbb⟩ : ∃ bb, bb = w2.heap.size + 2 := ⟨_, rfl⟩
  rw [← hbb, ← hbo, ← hbi] at HLW ⊢
  clear hbi hbo hbb
  go_wp2_with fail
  go_loopw [13] (fun i wr => ∃ (k : Nat) (lab1 : Nat → Own) (csL : List Nat) (sh : Nat → Sh), k ≤ N ∧ i = .int .i64 k ∧ csL.length = k ∧ Sc wr p lab1 (tS 68 csL 0) 0 ∧ Lw w0 wr lab1 csL.length (fun i => csL.getD i 0) sh bi bb bo (.slice none 0 0) (.slice none 0 0) [] [] ∧ ∀ i, i < csL.length → New5 T (sh i)) (fun i _ => N - (RowKit.intOf i).toNat)
  case atStart => exact ⟨0, lab, [], _, Nat.zero_le _, rfl, rfl, HSC.out, HLW.out, fun i hi => by simp at hi⟩
  case round =>
    obtain ⟨k, lab1, csL, sh, hk, rfl, hcs, hS1, hL1, hN5⟩ := hrel
    clear HSC HLW
    by_cases hlt : k < N
    · have hki : (k : Int) < N := by omega
      have HSP : Hid (∀ v : Nat, v ≤ 3 → ∀ W3, W3 = wr.alloc (.cells #[.int .i64 T, .int .i64 v, .int .i64 0, .int .i64 0, .pointer (some ⟨bi, 0, none⟩), .pointer (some ⟨bb, 0, none⟩), .pointer (some ⟨bo, 0, none⟩)] 72) → Calls Try.prog 13 #[.pointer (some ⟨p, 0, none⟩), .iface 68 (.pointer (some ⟨wr.heap.size, 0, none⟩))] W3 fun e w' => e = .returned (.int .i64 k) ∧ ∃ (lab2 : Nat → Own) (csM : List Nat) (sh2 : Nat → Sh), csM.length = k + 1 ∧ Sc w' p lab2 (tS 68 csM 0) 0 ∧ Lw w0 w' lab2 csM.length (fun i => csM.getD i 0) sh2 bi bb bo (.slice none 0 0) (.slice none 0 0) [] [] ∧ ∀ i, i < csM.length → New5 T (sh2 i)) := hid (fun v hv W3 hW3 => by
        have hb3 : Below wr.heap.size wr W3 := by rw [hW3]; exact (Below.refl _ _).alloc (Nat.le_refl _) _
        have hsp := Spawn_any (hS1.below hb3) ((tS_inv _ csL 0).fit (by rw [tS_len]; omega)) 68 wr.heap.size
        rw [tS_spawn, tS_len, hcs] at hsp
        have hg := hL1.grow (fun b hb => hS1.lt b hb) ⟨T, v, 0, 0⟩
        rw [show wr.alloc (.cells (shC ⟨T, v, 0, 0⟩ bi bb bo) 72) = W3 by rw [hW3]; rfl] at hg
        refine hsp.mono ?_
        rintro e w' ⟨rfl, lab2, h2, hK2⟩
        refine ⟨rfl, lab2, csL ++ [wr.heap.size], _, by simp [hcs], h2, hg.keep hK2, fun i hi => ?_⟩
        by_cases e : i = csL.length
        · subst e; rw [updN_same]; exact ⟨rfl, hv, rfl, rfl⟩
        · rw [updN_other sh _ e]; exact hN5 i (by simp at hi; omega))
      have HLB := hid hL1.low
      clear hS1 hL1 hN5 hcs
      by_cases hon0 : 0 < ln
      · have hp : (0 : Int) < (ln : Int) := by omega
        have hp0 : ¬ ((ln : Int) = 0) := by omega
        obtain ⟨ix, hix, hixl⟩ : ∃ ix : Nat, (k : Int).tmod (ln : Int) = (ix : Int) ∧ ix < ln := ⟨k % ln, by rw [Int.tmod_eq_emod_of_nonneg (by omega)]; rfl, Nat.mod_lt _ (by omega)⟩
        obtain ⟨bq, off, had, hcell, _⟩ := HWO.out ix (by rw [HLN.out]; exact hixl)
        subst had
        replace hcell := cell_later HLB.out.2 hcell
        have hixi : (ix : Int) < (ln : Int) := by omega
        obtain ⟨v, hv3, hwv⟩ := HW4.out (wo.getD ix 0) wr
        have HWV := hid hwv
        clear hwv
        generalize wo.getD ix 0 = ov at *
        obtain ⟨W3, hW3⟩ : ∃ W3, W3 = wr.alloc (.cells #[.int .i64 T, .int .i64 v, .int .i64 0, .int .i64 0, .pointer (some ⟨bi, 0, none⟩), .pointer (some ⟨bb, 0, none⟩), .pointer (some ⟨bo, 0, none⟩)] 72) := ⟨_, rfl⟩
        have HSPv := hid (HSP.out v hv3 W3 hW3)
        go_wp2_with (first | (go_at_call 24; refine HWV.out.mono ?_; rintro e w4 ⟨rfl, hw4⟩; rw [hw4]; clear hw4) | (go_at_call 13; rw [← hW3]; refine HSPv.out.mono ?_; rintro e w6 ⟨rfl, lab6, csM, sh6, q1, q2, q3, q4⟩; have Q1 := hid q1; have Q2 := hid q2; have Q3 := hid q3; have Q4 := hid q4; clear q1 q2 q3 q4))
        go_roundw
        case rel => exact ⟨k + 1, lab6, csM, sh6, by omega, by go_num, Q1.out, Q2.out, Q3.out, Q4.out⟩
        case measure => simp [RowKit.intOf]; omega
      · have hp : ¬ ((0 : Int) < (ln : Int)) := by omega
        obtain ⟨W3, hW3⟩ : ∃ W3, W3 = wr.alloc (.cells #[.int .i64 T, .int .i64 0, .int .i64 0, .int .i64 0, .pointer (some ⟨bi, 0, none⟩), .pointer (some ⟨bb, 0, none⟩), .pointer (some ⟨bo, 0, none⟩)] 72) := ⟨_, rfl⟩
        have HSPv := hid (HSP.out 0 (by omega) W3 hW3)
        go_wp2_with (go_at_call 13; rw [← hW3]; refine HSPv.out.mono ?_; rintro e w6 ⟨rfl, lab6, csM, sh6, q1, q2, q3, q4⟩; have Q1 := hid q1; have Q2 := hid q2; have Q3 := hid q3; have Q4 := hid q4; clear q1 q2 q3 q4)
        go_roundw
        case rel => exact ⟨k + 1, lab6, csM, sh6, by omega, by go_num, Q1.out, Q2.out, Q3.out, Q4.out⟩
        case measure => simp [RowKit.intOf]; omega
    · have hki : ¬ ((k : Int) < N) := by omega
      obtain rfl : k = N := by omega
      have htk : Tk (tS 68 csL 0) csL.length (fun i => csL.getD i 0) := fun i hi _ => by rw [tS_wk _ csL 0 i hi]
      have hall : All w0 wr p lab1 (tS 68 csL 0) 0 none csL.length T (fun i => csL.getD i 0) sh bi bb bo (.slice none 0 0) (.slice none 0 0) [] [] := ⟨hS1, Lk.start csL hN5, hL1, htk⟩
      have hp0 : sm (fun i => phi (sh i)) csL.length ≤ csL.length * 25 := sm_le _ (fun i hi => phi_new (hN5 i hi) hT2)
      rw [hcs] at hall hp0
      obtain ⟨P0, hP0⟩ : ∃ P0, P0 = sm (fun i => phi (sh i)) k := ⟨_, rfl⟩
      rw [← hP0] at hp0
      have HPS := hid hP0
      have HALL := hid hall
      generalize (fun i => csL.getD i 0) = cs at *
      have hst0 : Hid ((tS 68 csL 0).stp = false) := hid rfl
      generalize tS 68 csL 0 = A0 at *
      clear hS1 hL1 hN5 hcs htk hall hP0 hlt hk
      generalize hNN : k = N at *
      go_wp2_with fail
      go_loopw [15] (fun i wr => ∃ (j : Nat) (lab2 : Nat → Own) (A : Ab) (sh2 : Nat → Sh) (vi vo : Value) (ins ord : List Int), i = .int .i64 j ∧ All w0 wr p lab2 A (2 * j) none N T cs sh2 bi bb bo vi vo ins ord ∧ A.stp = false ∧ sm (fun i => phi (sh2 i)) N + j = P0 ∧ ord.length ≤ j) (fun i _ => 2000 - (RowKit.intOf i).toNat)
      case atStart => exact ⟨0, lab1, A0, sh, _, _, [], [], rfl, HALL.out, hst0.out, by rw [HPS.out]; rfl, by simp⟩
      case round =>
        obtain ⟨j, lab2, A, sh2, vi, vo, ins, ord, rfl, hA, hst, hph, hol⟩ := hrel
        clear HALL HPS hst0
        have hj : j ≤ 150 := by have := Nat.mul_le_mul_right 25 hN2; omega
        have hji : (j : Int) < 2000 := by omega
        have HRD := hid (Ready_any hA.sc (by have := (hA.lk.inv.fit (by rw [hA.lk.len]; omega)).q; omega))
        by_cases hq : A.q = []
        · obtain ⟨h5, hcg, hgl⟩ := hA.lk.over hq
          have HBD := hid hA.lk.bd
          have HS5 := hid hA.sc
          have HLB := hid hA.lw.low
          have hcbo : wr.cell? ⟨bo, 0, none⟩ = some vo := cell_of hA.lw.ho rfl
          have hcbb : wr.cell? ⟨bb, 0, none⟩ = some (.bool false) := cell_of hA.lw.hb rfl
          obtain ⟨ao, co, evo, hio⟩ := hA.lw.ro.ints
          subst evo
          have HIO := hid hio
          have HST : Hid (∀ i : Nat, i < N → stateR A (i : Int) = .tuple #[.int .i64 5, .int .i64 0]) := hid (fun i hi => by rw [stateR_has (hA.lk.has hi), h5 i hi])
          have HCG := hid hcg
          have HGL := hid hgl
          have HLT := hid hA.sc.lt
          have hol2 : ord.length ≤ 150 := by omega
          rw [hq] at HRD
          clear hA hst hph hol h5 hcg hgl hio HPK HLN2 HWO HLN HW4
          have HLO : Hid (ord.length = ord.length) := hid rfl
          obtain ⟨ol, hoe⟩ : ∃ ol, ol = ord.length := ⟨_, rfl⟩
          have HOE := hid hoe
          rw [← hoe] at hcbo hol2 HIO
          clear hoe HLO
          go_wp2_with fail
          refine HRD.out.mono ?_
          rintro e w5 ⟨u, rfl, hu5, hb5⟩
          obtain ⟨a5, c5, e5⟩ := owns_slice hu5
          subst e5
          have HB5 := hid hb5
          replace hcbo := cell_later hb5 hcbo
          replace hcbb := cell_later hb5 hcbb
          have HIO5 : Hid (∀ i, i < ol → ∃ b, ao = some ⟨b, 0, none⟩ ∧ w5.cell? ⟨b, i, none⟩ = some (.int .i64 (ord.getD i 0))) := hid (fun i hi => by obtain ⟨b, e1, e2⟩ := HIO.out i hi; exact ⟨b, e1, cell_later HB5.out e2⟩)
          have HLT5 : Hid (∀ b, lab2 b ≠ .no → b < w5.heap.size) := hid (fun b hb => Nat.lt_of_lt_of_le (HLT.out b hb) HB5.out.size)
          clear hu5 hb5 HRD HIO
          simp only [List.length_nil] at *
          go_wp2_with fail
          go_loopw [17, 18, 19] (fun v1 v2 i wz => ∃ k : Nat, k ≤ ol ∧ i = .int .i64 k ∧ Below w5.heap.size w5 wz ∧ Lr w5 wz lab2 v1 (came (ord.take k)) ∧ Lr w5 wz lab2 v2 (got (ord.take k)) ∧ ∀ g, v1.ownBlock = some g → v2.ownBlock ≠ some g) (fun _ _ i _ => ol - (RowKit.intOf i).toNat)
          case atStart => exact ⟨0, Nat.zero_le _, rfl, Below.refl _ _, Lr.nil _ _ _, Lr.nil _ _ _, fun g hg => by simp [Value.ownBlock] at hg⟩
          case round =>
            obtain ⟨k, hk, rfl, hB, hr1, hr2, hdi⟩ := hrel
            have HB := hid hB
            have HR1 := hid hr1
            have HR2 := hid hr2
            have HDI := hid hdi
            have hlen1 : (came (ord.take k)).length ≤ 150 := Nat.le_trans (came_len _) (by rw [List.length_take]; omega)
            have hlen2 : (got (ord.take k)).length ≤ 150 := Nat.le_trans (got_len _) (by rw [List.length_take]; omega)
            have HLT6 : Hid (∀ b, lab2 b ≠ .no → b < wr.heap.size) := hid (fun b hb => Nat.lt_of_lt_of_le (HLT5.out b hb) HB.out.size)
            obtain ⟨a1, c1, e1⟩ := owns_slice hr1.1
            obtain ⟨a2, c2, e2⟩ := owns_slice hr2.1
            subst e1 e2
            have kbo := cell_later hB hcbo
            clear hB hr1 hr2 hdi
            by_cases hlt : k < ol
            · have hki : (k : Int) < ol := by omega
              obtain ⟨b, hab, hcx⟩ := HIO5.out k hlt
              subst hab
              replace hcx := cell_later HB.out hcx
              have hmem : ord.getD k 0 ∈ ord := by have := HOE.out; simp [List.getD, show k < ord.length by omega]
              have hbd := HBD.out _ hmem
              have HTK : Hid (∀ z, z = ord.getD k 0 → ord.take (k + 1) = ord.take k ++ [z]) := hid (fun z hz => by have := HOE.out; rw [hz, List.take_succ_eq_append_getElem (by omega)]; simp [List.getD, show k < ord.length by omega])
              obtain ⟨z, hz⟩ : ∃ z, z = ord.getD k 0 := ⟨_, rfl⟩
              have HTK2 := hid (HTK.out z hz)
              rw [← hz] at hcx hbd
              clear hz HTK hmem
              by_cases hneg : z < 0
              · have hw : IntKind.i64.wrap (-1 - z) = -1 - z := IntWalk.i64_in _ (by omega)
                obtain ⟨v6, w6, hap, hr6, hm6, hv6⟩ := HR1.out.push HB.out.size HLT6.out (by omega) (-1 - z)
                have HR6 : Hid (Lr w5 w6 lab2 v6 (came (ord.take (k + 1)))) := hid (by rw [HTK2.out, came_app, came, if_pos hneg, came]; exact hr6)
                have HR7 : Hid (Lr w5 w6 lab2 (.slice a2 (got (ord.take k)).length c2) (got (ord.take (k + 1)))) := hid (by rw [HTK2.out, got_app, got, if_pos hneg, got, List.append_nil]; exact HR2.out.mods hm6 (fun g hg e => HDI.out g e hg))
                have HB6 := hid (hm6.to_below HB.out HB.out.size (fun b e => (HR1.out.2 b e).2))
                have HD6 : Hid (∀ g, v6.ownBlock = some g → (Value.slice a2 (got (ord.take k)).length c2).ownBlock ≠ some g) := hid (fun g hg e => (hv6 g hg).elim (fun e3 => HDI.out g e3 e) (fun e3 => by have := (owns_lt HR2.out.1 e).1; omega))
                obtain ⟨a7, c7, e7⟩ := owns_slice hr6.1
                subst e7
                clear hr6 hm6 hv6 HR1 HR2
                generalize (came (ord.take k) ++ [-1 - z]).length = n7 at *
                generalize (came (ord.take k)).length = n1 at *
                generalize (got (ord.take k)).length = n2 at *
                go_wp2_with (at_builtin; refine wpList_append_run rfl _ _ 31 rfl rfl rfl hap ?_)
                go_roundw
                case rel => exact ⟨k + 1, by omega, by go_num, HB6.out, HR6.out, HR7.out, HD6.out⟩
                case measure => simp [RowKit.intOf]; omega
              · have hneg' : ¬ (z < 0) := hneg
                obtain ⟨v6, w6, hap, hr6, hm6, hv6⟩ := HR2.out.push HB.out.size HLT6.out (by omega) z
                have HR6 : Hid (Lr w5 w6 lab2 v6 (got (ord.take (k + 1)))) := hid (by rw [HTK2.out, got_app, got, if_neg hneg, got]; exact hr6)
                have HR7 : Hid (Lr w5 w6 lab2 (.slice a1 (came (ord.take k)).length c1) (came (ord.take (k + 1)))) := hid (by rw [HTK2.out, came_app, came, if_neg hneg, came, List.append_nil]; exact HR1.out.mods hm6 (fun g hg e => HDI.out g hg e))
                have HB6 := hid (hm6.to_below HB.out HB.out.size (fun b e => (HR2.out.2 b e).2))
                have HD6 : Hid (∀ g, (Value.slice a1 (came (ord.take k)).length c1).ownBlock = some g → v6.ownBlock ≠ some g) := hid (fun g hg e => (hv6 g e).elim (fun e3 => HDI.out g hg e3) (fun e3 => by have := (owns_lt HR1.out.1 hg).1; omega))
                obtain ⟨a7, c7, e7⟩ := owns_slice hr6.1
                subst e7
                clear hr6 hm6 hv6 HR1 HR2
                generalize (got (ord.take k) ++ [z]).length = n7 at *
                generalize (came (ord.take k)).length = n1 at *
                generalize (got (ord.take k)).length = n2 at *
                go_wp2_with (at_builtin; refine wpList_append_run rfl _ _ 31 rfl rfl rfl hap ?_)
                go_roundw
                case rel => exact ⟨k + 1, by omega, by go_num, HB6.out, HR7.out, HR6.out, HD6.out⟩
                case measure => simp [RowKit.intOf]; omega
            · have hki : ¬ ((k : Int) < ol) := by omega
              obtain rfl : k = ol := by omega
              have hta : ord.take k = ord := by rw [HOE.out, List.take_length]
              have hB9 := HB.out
              rw [hta] at HR1 HR2 hlen1 hlen2 ⊢
              rw [HCG.out] at HR1 hlen1 ⊢
              have HSA := hid (fun (w : World) (hb : Below wr.heap.size wr w) => sameInts_same (HR1.out.keep (Keep.below (lab := lab2) hb)) (HR2.out.keep (Keep.below (lab := lab2) hb)) (by omega))
              have kbb := cell_later hB9 hcbb
              have HS9 := hid (HS5.out.below (HB5.out.trans (hB9.mono HB5.out.size)))
              have HSTA : Hid (∀ i : Nat, i < N → Calls Try.prog 22 #[.pointer (some ⟨p, 0, none⟩), .int .i64 i] wr fun e w' => e = .returned (.tuple #[.int .i64 5, .int .i64 0]) ∧ w' = wr) := hid (fun i hi => by have h9 := State_any HS9.out (i : Int); rw [HST.out i hi] at h9; exact h9)
              rw [HGL.out] at HSA ⊢
              have HBF := hid (HLB.out.2.trans ((HB5.out.trans (hB9.mono HB5.out.size)).mono HLB.out.2.size))
              have hmul : IntKind.i64.wrap ((N : Int) * (T : Int)) = ((N * T : Nat) : Int) := by
                have h9 : N * T ≤ 6 * 4 := Nat.mul_le_mul hN2 hT2
                rw [show (N : Int) * (T : Int) = ((N * T : Nat) : Int) by simp]
                exact IntWalk.i64_in _ (by omega)
              generalize N * T = NT at *
              clear HB HR1 HR2 HDI HLT6 hcbo hcbb hta hB9 HS9 HST HCG HGL
              obtain ⟨Wz, hWz⟩ : ∃ Wz, Wz = wr := ⟨_, rfl⟩
              rw [← hWz] at HSA HSTA HBF kbb kbo ⊢
              clear hWz
              go_wp2_with fail
              go_loopw [20] (fun i wz => ∃ q : Nat, q ≤ N ∧ i = .int .i64 q ∧ wz = Wz) (fun i _ => N - (RowKit.intOf i).toNat)
              case atStart => exact ⟨0, Nat.zero_le _, rfl, rfl⟩
              case round =>
                obtain ⟨q, hq', rfl, hwq⟩ := hrel
                rw [hwq]
                by_cases hqN : q < N
                · have hqi : (q : Int) < N := by omega
                  have HCA := hid (HSTA.out q hqN)
                  go_wp2_with (go_at_call 22; refine HCA.out.mono ?_; rintro e w7 ⟨rfl, hw7⟩; rw [hw7]; clear hw7)
                  go_roundw
                  case rel => exact ⟨q + 1, by omega, by go_num, by first | rfl | trivial⟩
                  case measure => simp [RowKit.intOf]; omega
                · have hqi : ¬ ((q : Int) < N) := by omega
                  have HSW := hid (HSA.out Wz (Below.refl _ _))
                  go_wp2_with (go_at_call 15; refine HSW.out.mono ?_; rintro e w7 ⟨rfl, hw7⟩; have HB7 := hid hw7; clear hw7)
                  go_ret
                  exact ⟨rfl, HBF.out.trans (HB7.out.mono HBF.out.size)⟩
        · have hqp : 0 < A.q.length := List.length_pos_iff.2 hq
          have HPI : Hid (∀ (w : World) (_ : Below wr.heap.size wr w) (i : Int), Calls Try.prog 18 #[.pointer (some ⟨p, 0, none⟩), .int .i64 i] w fun e w' => ∃ y : Int, e = .returned (.tuple #[.int .i64 y, .int .i64 0]) ∧ Pkd w0 w' p (2 * (j + 1)) N T cs bi bb bo (sm (fun i => phi (sh2 i)) N) ord.length) := hid (fun w hb i => pick_sh ⟨hA.sc.below hb, hA.lk, hA.lw.keep (Keep.below (lab := lab2) hb), hA.tk⟩ hst (by omega) (by omega) hT2 (by omega) i hq)
          have HLB := hid hA.lw.low
          have HPH := hid hph
          have HOL := hid hol
          clear hA hst hq hph hol
          generalize sm (fun i => phi (sh2 i)) N = ps at *
          generalize ord.length = ol at *
          have HQL : Hid (∀ (u : Value) (w5 : World), w5.ownsRow wr.heap.size 3 1 u A.q.length (ints A.q) → ∃ a c, u = .slice a A.q.length c) := hid (fun u w5 h => by obtain ⟨a, c, e⟩ := owns_slice h; exact ⟨a, c, e⟩)
          by_cases hpk0 : 0 < ln2
          · have hp : (0 : Int) < (ln2 : Int) := by omega
            have hp0' : ¬ ((ln2 : Int) = 0) := by omega
            obtain ⟨ix, hix, hixl⟩ : ∃ ix : Nat, (j : Int).tmod (ln2 : Int) = (ix : Int) ∧ ix < ln2 := ⟨j % ln2, by rw [Int.tmod_eq_emod_of_nonneg (by omega)]; rfl, Nat.mod_lt _ (by omega)⟩
            obtain ⟨bq, off, had, hcell, _⟩ := HPK.out ix (by rw [HLN2.out]; exact hixl)
            subst had
            replace hcell := cell_later HLB.out.2 hcell
            have hixi : (ix : Int) < (ln2 : Int) := by omega
            generalize pk.getD ix 0 = ov at *
            go_wp2_with fail
            refine HRD.out.mono ?_
            rintro e w5 ⟨u, rfl, hu5, hb5⟩
            obtain ⟨a5, c5, e5⟩ := HQL.out u w5 hu5
            subst e5
            have HB5 := hid hb5
            replace hcell := cell_later hb5 hcell
            clear hu5 hb5 HRD HQL
            generalize A.q.length = ql at *
            have hqi : (0 : Int) < (ql : Int) := by omega
            go_wp2_with fail
            go_quiet (fail)
            go_wp2_with fail
            refine (HPI.out _ (below_drewN HB5.out _) _).mono ?_
            rintro e w6 ⟨y6, rfl, lab6, A6, sh6, vi6, vo6, ins6, ord6, h6, t6, p6, o6⟩
            have H6 := hid h6
            have T6 := hid t6
            have P6 := hid p6
            have O6 := hid o6
            clear h6 t6 p6 o6
            go_wp2
            go_roundw
            case rel => exact ⟨j + 1, lab6, A6, sh6, vi6, vo6, ins6, ord6, by go_num, H6.out, T6.out, by have := HPH.out; have := P6.out; omega, by have := HOL.out; have := O6.out; omega⟩
            case measure => simp [RowKit.intOf]; omega
          · have hp : ¬ ((0 : Int) < (ln2 : Int)) := by omega
            go_wp2_with fail
            refine HRD.out.mono ?_
            rintro e w5 ⟨u, rfl, hu5, hb5⟩
            obtain ⟨a5, c5, e5⟩ := HQL.out u w5 hu5
            subst e5
            have HB5 := hid hb5
            clear hu5 hb5 HRD HQL
            generalize A.q.length = ql at *
            have hqi : (0 : Int) < (ql : Int) := by omega
            go_wp2_with fail
            refine (HPI.out _ HB5.out _).mono ?_
            rintro e w6 ⟨y6, rfl, lab6, A6, sh6, vi6, vo6, ins6, ord6, h6, t6, p6, o6⟩
            have H6 := hid h6
            have T6 := hid t6
            have P6 := hid p6
            have O6 := hid o6
            clear h6 t6 p6 o6
            go_wp2
            go_roundw
            case rel => exact ⟨j + 1, lab6, A6, sh6, vi6, vo6, ins6, ord6, by go_num, H6.out, T6.out, by have := HPH.out; have := P6.out; omega, by have := HOL.out; have := O6.out; omega⟩
            case measure => simp [RowKit.intOf]; omega
end Go.Proofs.Ytacmdhlemolngaa
