/- EtherPeers. -/
import Derived.Test.YtlflbpemjlgdiaaEkA
namespace Go.Proofs.Ytlflbpemjlgdiaa
open Go.RowKit Go.Maps
set_option linter.unusedVariables false

theorem range14 {C : Array Value} {o : Nat} {x0 x1 x2 x3 x4 x5 x6 x7 x8 x9 x10 x11 x12 x13 : Value} (h0 : C[o + 0]? = some x0) (h1 : C[o + 1]? = some x1) (h2 : C[o + 2]? = some x2) (h3 : C[o + 3]? = some x3) (h4 : C[o + 4]? = some x4) (h5 : C[o + 5]? = some x5) (h6 : C[o + 6]? = some x6) (h7 : C[o + 7]? = some x7) (h8 : C[o + 8]? = some x8) (h9 : C[o + 9]? = some x9) (h10 : C[o + 10]? = some x10) (h11 : C[o + 11]? = some x11) (h12 : C[o + 12]? = some x12) (h13 : C[o + 13]? = some x13) :
    ∀ j, j < [x0, x1, x2, x3, x4, x5, x6, x7, x8, x9, x10, x11, x12, x13].length → C[o + j]? = [x0, x1, x2, x3, x4, x5, x6, x7, x8, x9, x10, x11, x12, x13][j]? := fun j hj => by
  simp at hj
  rcases (show j = 0 ∨ j = 1 ∨ j = 2 ∨ j = 3 ∨ j = 4 ∨ j = 5 ∨ j = 6 ∨ j = 7 ∨ j = 8 ∨ j = 9 ∨ j = 10 ∨ j = 11 ∨ j = 12 ∨ j = 13 by omega) with rfl | rfl | rfl | rfl | rfl | rfl | rfl | rfl | rfl | rfl | rfl | rfl | rfl | rfl <;> assumption
set_option maxRecDepth 100000 in
set_option maxHeartbeats 16000000 in
theorem EtherPeers_walk (w : World) (own : Mac) (ip : Int) (a : Option Addr) (n c : Nat) (l : List St) (how : own.ok) (hip : IsU ip) (hl : l.length = n) (hnm : n ≤ maxLen) (hst : StR w a l) :
    Calls Try.prog 4 #[.agg (macC own), .int .u32 ip, .slice a n c] w fun e w' => e = .returned (.bool true) ∧ Below w.heap.size w w' := by
  obtain ⟨g3, hg3⟩ : ∃ g, w.heap.size = g := ⟨_, rfl⟩
  obtain ⟨W1, hW1⟩ : ∃ W, W = w.alloc (.cells (macC own) 23) := ⟨_, rfl⟩
  have b1 : Below w.heap.size w W1 := by rw [hW1]; exact below_alloc (Below.refl _ _) (Nat.le_refl _) _
  have h13 : W1.heap[g3]? = some (.cells (macC own) 23 (0, 0)) := by rw [hW1, ← hg3]; exact alloc_new w _
  have HB1 := hid b1
  have H13 := hid h13
  have HOW := hid how
  have HIP := hid hip
  have HL := hid hl
  have HST := hid hst
  have HWG := hid hg3
  have HW := hW1.symm
  clear hW1 b1 h13 how hip hl hst hnm
  go_enter Try.func4, Try.ntmps4
  go_upto_region 3 with (go_at_call 7; refine (known_any W1).mono ?_; rintro e w2 ⟨rfl, hb2⟩; have HB2 := hid (HB1.out.trans (hb2.mono HB1.out.size)); have H23 := hid ((hb2.block g3 (Array.getElem?_eq_some_iff.1 H13.out).1).trans H13.out); clear hb2)
  have HNW := hid (New_any w2 own ip HOW.out HIP.out)
  go_wp2_with (refine wpList_load_row rfl 23 _ rfl g3 rfl 23 _ (0, 0) _ H23.out Try.underlying23 rfl size6 ?_)
  refine HNW.out.mono ?_
  rintro e w4 ⟨p, S0, rfl, hpe4, hb4, hs4⟩
  obtain ⟨q, hq⟩ : ∃ q, w4.heap.size = q := ⟨_, rfl⟩
  obtain ⟨W5, hW5⟩ : ∃ W, W = w4.alloc (.cells (rpC own ip (.slice none 0 0)) 47) := ⟨_, rfl⟩
  have b5 : Below w4.heap.size w4 W5 := by rw [hW5]; exact below_alloc (Below.refl _ _) (Nat.le_refl _) _
  have h5q : W5.heap[q]? = some (.cells (rpC own ip (.slice none 0 0)) 47 (0, 0)) := by rw [hW5, ← hq]; exact alloc_new w4 _
  have hB4 := HB2.out.trans (hb4.mono HB2.out.size)
  have hqlt := (Array.getElem?_eq_some_iff.1 h5q).1
  have HBO0 : Hid (Bo2 w W5 p q S0 (fun b => b = q) own ip 0 []) := hid ⟨hpe4.later b5, ⟨⟨HOW.out, HIP.out, OkL.nil, rfl⟩, _, h5q, .inl ⟨rfl, rfl⟩, fun b hb => by simp [blkV] at hb⟩, fun b hb => ⟨Nat.le_trans HB2.out.size (hs4 b hb).1, Nat.lt_of_lt_of_le (hs4 b hb).2 b5.size⟩, fun b hb => by subst hb; exact ⟨by rw [← hq]; exact hB4.size, hqlt⟩, fun b h1 h2 => by have := (hs4 b h1).2; omega, hB4.trans (b5.mono hB4.size)⟩
  have H43 := hid ((hb4.block g3 (Array.getElem?_eq_some_iff.1 H23.out).1).trans H23.out)
  have HV5 := hW5.symm
  clear hpe4 hb4 hs4 hW5 b5 h5q hB4 hqlt HNW
  go_wp2_with (refine wpList_load_row rfl 23 _ rfl g3 rfl 23 _ (0, 0) _ H43.out Try.underlying23 rfl size6 ?_)
  go_loopw [9] (fun i wr => ∃ (k : Nat) (S T : Nat → Prop) (m : Nat) (L : List Pe), k ≤ 60 ∧ i = .int .i64 k ∧ Bo2 w wr p q S T own ip m L ∧ m ≤ k) (fun i _ => 60 - (RowKit.intOf i).toNat)
  case atStart => exact ⟨0, S0, _, 0, [], Nat.zero_le _, rfl, HBO0.out, Nat.le_refl _⟩
  case round =>
    obtain ⟨k, S, T, m, L, hk, rfl, hbo, hmk⟩ := hrel
    rename World => V0
    by_cases hlt : k < l.length
    · by_cases hlt2 : k < 60
      · have hki : (k : Int) < n := by have := HL.out; omega
        have hkj : (k : Int) < 60 := by omega
        obtain ⟨hsk, bs, os, es, hcs⟩ := HST.out k hlt
        subst es
        generalize l.getD k default = s at *
        have HSK := hid hsk
        have HRG : Hid (V0.rangeAt bs (os + k * 22) (stC s).toList) := hid (fun i v hv => by
          have hi : i < 22 := (List.getElem?_eq_some_iff.1 hv).1
          refine cell_later hbo.bel ?_
          rw [hcs i hi, ← Array.getElem?_toList]; exact hv)
        obtain ⟨g10, hg10⟩ : ∃ g, V0.heap.size = g := ⟨_, rfl⟩
        obtain ⟨X5, hX5, hx5, V, hV, hv, hbV⟩ := box22 V0 (stC s) rfl (stC_one s)
        rw [hg10] at hx5 hV hv
        have HBX := hid hbo
        have HBO := hid (hbo.later hbV)
        have HX5 := hid hX5
        have HXx5 := hid hx5
        have HV := hid hV
        have H10 := hid hv
        have HG10 := hid hg10
        have HM : Hid (m ≤ k + 1) := hid (by omega)
        have cbd := cell_of hv (i := 21) (v := .slice s.a s.n s.c) rfl
        have ckd := cell_of hv (i := 0) (v := .int .i64 s.kd) rfl
        clear hcs hX5 hx5 hV hv hbV hbo hsk
        go_upto_region 11 with (first
          | (refine wpList_load_mid rfl 49 _ rfl bs (os + k * 22) rfl (stC s).toList _ HRG.out Try.underlying49 rfl sizeSt ?_)
          | (rw [← HX5.out]; clear HX5; refine wpList_store_row rfl 49 _ _ rfl g10 (stC s) rfl rfl 49 _ HXx5.out sizeSt rfl (stC_one s) ?_; rw [← HV.out]; clear HV))
        by_cases hbig : 2000 < s.n
        · have hbi : (2000 : Int) < s.n := by omega
          go_wp2
          go_roundw
          case rel => exact ⟨k + 1, S, T, m, L, hlt2, by go_num, HBO.out, by omega⟩
          case measure => simp [RowKit.intOf]; omega
        have hbi : ¬ ((2000 : Int) < s.n) := by omega
        by_cases k1 : s.kd = 1
        · have e1 : (s.kd == 1) = true := by simpa using k1
          have HLN := hid (Learn_any V p m S own ip L s.ip s.mac HBO.out.pe (fun b hb => (HBO.out.s b hb).2) HSK.out.1 HSK.out.2.1 (by omega))
          have cip := cell_of H10.out (i := 1) (v := .int .u32 s.ip) rfl
          go_wp2_with (refine wpList_load_mid rfl 23 _ rfl g10 2 rfl [.int .u8 s.mac.a, .int .u8 s.mac.b, .int .u8 s.mac.c, .int .u8 s.mac.d, .int .u8 s.mac.e, .int .u8 s.mac.f] _ (rng H10.out 2 _ (range6 rfl rfl rfl rfl rfl rfl)) Try.underlying23 rfl size6 ?_)
          refine HLN.out.mono ?_
          rintro e v1 ⟨rfl, S', m', hpe', hm', hk', hs'⟩
          have hng : ¬ S g10 := fun e => by have := (HBX.out.s g10 e).2; have := HG10.out; omega
          have h101 := (hk'.block (Array.getElem?_eq_some_iff.1 H10.out).1 hng).trans H10.out
          have hrl := rLearn_any v1 q T own ip L s.ip s.mac (HBO.out.rp.mods hk'.2 (fun b h1 h2 => HBO.out.d b h2 h1)) (fun b hb => Nat.lt_of_lt_of_le (HBO.out.t b hb).2 hk'.2.size) HSK.out.1 HSK.out.2.1
          have HRL := hid hrl
          have cip1 := cell_of h101 (i := 1) (v := .int .u32 s.ip) rfl
          have H101' := hid h101
          clear hrl h101 cip HLN
          go_wp2_with (refine wpList_load_mid rfl 23 _ rfl g10 2 rfl [.int .u8 s.mac.a, .int .u8 s.mac.b, .int .u8 s.mac.c, .int .u8 s.mac.d, .int .u8 s.mac.e, .int .u8 s.mac.f] _ (rng H101'.out 2 _ (range6 rfl rfl rfl rfl rfl rfl)) Try.underlying23 rfl size6 ?_)
          refine HRL.out.mono ?_
          rintro e v2 ⟨rfl, T', hrp', hk2, ht'⟩
          have hngt : ¬ T g10 := fun e => by have := (HBX.out.t g10 e).2; have := HG10.out; omega
          have H102 := hid ((hk2.block (Array.getElem?_eq_some_iff.1 H101'.out).1 hngt).trans H101'.out)
          have HBN := hid (HBO.out.step hpe' hk' hs' hrp' hk2 ht')
          have HM' : Hid (m' ≤ k + 1) := hid (by omega)
          clear hpe' hm' hk' hs' hrp' hk2 ht' hng hngt cip1 HRL
          clear H10 HM
          clear HBO HBX
          generalize learnL L s.ip s.mac = L2 at *

          have hbo := HBN.out
          have HKA := hid (Known_any v2 p m' S' own ip L2 hbo.pe)
          have hl16 := hbo.pe.okL.len
          have HOK := hid hbo.pe.okL
          have HIS := hid (fun x (hx : x ∈ L2.map Pe.ip) => show IsU x by obtain ⟨e, he, rfl⟩ := List.mem_map.1 hx; exact (HOK.out.ok e he).1)
          clear hbo
          go_wp2_with fail
          refine HKA.out.mono ?_
          rintro e w1 ⟨v1, rfl, ho1, hb1⟩
          obtain ⟨a1, c1, e1, _, _, hu1⟩ := UT.of_owns (T := fun _ => True) ho1 HIS.out (fun _ _ => trivial)
          subst e1
          have hbo1 := HBN.out.later hb1
          obtain ⟨_, vl, hq1, hpr1, _⟩ := hbo1.rp
          obtain ⟨av, cv, rfl⟩ := hpr1.shape
          have cq := cell_of hq1 (i := 7) (v := .slice av L2.length cv) rfl
          have HU1 := hid hu1
          have HBO1 := hid hbo1
          have HQ1 := hid hq1
          have HPR1 := hid hpr1
          have H101 := hid ((hb1.block g10 (Array.getElem?_eq_some_iff.1 H102.out).1).trans H102.out)
          clear ho1 hb1 hu1 hbo1 hq1 hpr1 HKA
          go_wp2
          go_loopw [16] (fun i wr => ∃ j : Nat, j ≤ L2.length ∧ i = .int .i64 j ∧ Below w1.heap.size w1 wr) (fun i _ => L2.length - (RowKit.intOf i).toNat)
          case atStart => exact ⟨0, Nat.zero_le _, rfl, Below.refl _ _⟩
          case round =>
            obtain ⟨j, hj, rfl, hb⟩ := hrel
            rename World => V2
            have HB := hid hb
            clear hb cq
            have cq2 := cell_of ((HB.out.block q (Array.getElem?_eq_some_iff.1 HQ1.out).1).trans HQ1.out) (i := 7) (v := .slice av L2.length cv) rfl
            by_cases hjl : j < L2.length
            · obtain ⟨bu, ou, eu, cu, huU⟩ := (HU1.out.later HB.out).at_ (i := j) (by simpa using hjl)
              subst eu
              obtain ⟨br, or_, cr, er, hcs⟩ := (HPR1.out.later HB.out).at_ (i := j) hjl ⟨0, mac0⟩
              simp only [Value.slice.injEq, true_and] at er
              obtain ⟨rfl, rfl⟩ := er
              have hla := look_at HOK.out ⟨0, mac0⟩ j hjl
              rw [ips_at L2 ⟨0, mac0⟩ j hjl] at cu huU
              generalize L2.getD j ⟨0, mac0⟩ = d at *
              have HFD := hid (Find_any V2 p m' S' own ip L2 d.ip (HBO1.out.later HB.out).pe huU)
              rw [hla, show findM L2 d.ip = d.mac by unfold findM; rw [hla]; rfl, show (some d).isSome = true from rfl] at HFD
              have hji : (j : Int) < L2.length := by omega
              have HCS := hid hcs
              have HCU := hid cu
              clear hla huU hcs
              go_wp2_with fail
              refine HFD.out.mono ?_
              rintro e w6 ⟨rfl, hb6⟩
              obtain ⟨g7, hg7⟩ : ∃ g, w6.heap.size = g := ⟨_, rfl⟩
              obtain ⟨W7, hW7, h7, W8, hW8, h8, hb8⟩ := box6 w6 d.mac
              have hb28 := hb6.trans (hb8.mono hb6.size)
              have HB28 := hid (HB.out.trans (hb28.mono HB.out.size))
              rw [hg7] at h7 hW8 h8
              have H7 := hid h7
              have HW7 := hid hW7
              have HW8 := hid hW8
              have cu8 := cell_later hb28 HCU.out
              have cq8 := cell_later hb28 cq2
              have t0 := cell_of h8 (i := 0) (v := .int .u8 d.mac.a) rfl
              have t1 := cell_of h8 (i := 1) (v := .int .u8 d.mac.b) rfl
              have t2 := cell_of h8 (i := 2) (v := .int .u8 d.mac.c) rfl
              have t3 := cell_of h8 (i := 3) (v := .int .u8 d.mac.d) rfl
              have t4 := cell_of h8 (i := 4) (v := .int .u8 d.mac.e) rfl
              have t5 := cell_of h8 (i := 5) (v := .int .u8 d.mac.f) rfl
              have r0 : W8.cell? ⟨br, or_ + j * 7, none⟩ = some (.int .u32 d.ip) := by have := cell_later hb28 (show V2.cell? ⟨br, or_ + j * 7 + 0, none⟩ = some (.int .u32 d.ip) from (HCS.out 0 (by omega)).trans rfl); rw [Nat.add_zero] at this; exact this
              have r1 : W8.cell? ⟨br, or_ + j * 7 + 1, none⟩ = some (.int .u8 d.mac.a) := cell_later hb28 (show V2.cell? ⟨br, or_ + j * 7 + 1, none⟩ = some (.int .u8 d.mac.a) from (HCS.out 1 (by omega)).trans rfl)
              have r2 : W8.cell? ⟨br, or_ + j * 7 + 2, none⟩ = some (.int .u8 d.mac.b) := cell_later hb28 (show V2.cell? ⟨br, or_ + j * 7 + 2, none⟩ = some (.int .u8 d.mac.b) from (HCS.out 2 (by omega)).trans rfl)
              have r3 : W8.cell? ⟨br, or_ + j * 7 + 3, none⟩ = some (.int .u8 d.mac.c) := cell_later hb28 (show V2.cell? ⟨br, or_ + j * 7 + 3, none⟩ = some (.int .u8 d.mac.c) from (HCS.out 3 (by omega)).trans rfl)
              have r4 : W8.cell? ⟨br, or_ + j * 7 + 4, none⟩ = some (.int .u8 d.mac.d) := cell_later hb28 (show V2.cell? ⟨br, or_ + j * 7 + 4, none⟩ = some (.int .u8 d.mac.d) from (HCS.out 4 (by omega)).trans rfl)
              have r5 : W8.cell? ⟨br, or_ + j * 7 + 5, none⟩ = some (.int .u8 d.mac.e) := cell_later hb28 (show V2.cell? ⟨br, or_ + j * 7 + 5, none⟩ = some (.int .u8 d.mac.e) from (HCS.out 5 (by omega)).trans rfl)
              have r6 : W8.cell? ⟨br, or_ + j * 7 + 6, none⟩ = some (.int .u8 d.mac.f) := cell_later hb28 (show V2.cell? ⟨br, or_ + j * 7 + 6, none⟩ = some (.int .u8 d.mac.f) from (HCS.out 6 (by omega)).trans rfl)
              have qe : ∀ w, (Op.equalIn 10000 23 (.agg #[.int .u8 d.mac.a, .int .u8 d.mac.b, .int .u8 d.mac.c, .int .u8 d.mac.d, .int .u8 d.mac.e, .int .u8 d.mac.f]) (.agg #[.int .u8 d.mac.a, .int .u8 d.mac.b, .int .u8 d.mac.c, .int .u8 d.mac.d, .int .u8 d.mac.e, .int .u8 d.mac.f])).run Try.prog w = .ok true w := fun w => (eqMac d.mac d.mac w).trans (by simp)
              clear hb6 hW7 h7 hW8 h8 hb8 hb28 HFD HCS HCU cu cq2
              go_upto_region 31 with (rw [← HW7.out]; clear HW7; refine wpList_store_row rfl 23 _ _ rfl g7 (macC d.mac) rfl rfl 23 _ H7.out size6 rfl (macC_one _) ?_; rw [← HW8.out]; clear HW8)
              go_quiet (fail)
              go_wp2
              go_roundw
              case rel => exact ⟨j + 1, hjl, by go_num, below_drewN HB28.out _⟩
              case measure => simp [RowKit.intOf]; omega
            · have hji : ¬ ((j : Int) < L2.length) := by omega
              have hbo2 := HBO1.out.later HB.out
              have h10v := (HB.out.block g10 (Array.getElem?_eq_some_iff.1 H101.out).1).trans H101.out
              have cip := cell_of h10v (i := 1) (v := .int .u32 s.ip) rfl
              have HFD := hid (Find_any V2 p m' S' own ip L2 s.ip hbo2.pe HSK.out.1)
              have HBO2 := hid hbo2
              have H10V := hid h10v
              clear hbo2 h10v cq2
              go_wp2_with fail
              refine HFD.out.mono ?_
              rintro e w6 ⟨rfl, hb6⟩
              obtain ⟨g7, hg7⟩ : ∃ g, w6.heap.size = g := ⟨_, rfl⟩
              obtain ⟨W7, hW7, h7, W8, hW8, h8, hb8⟩ := box6 w6 (findM L2 s.ip)
              have hb28 := hb6.trans (hb8.mono hb6.size)
              have hbo8 := HBO2.out.later hb28
              have h10w := (hb28.block g10 (Array.getElem?_eq_some_iff.1 H10V.out).1).trans H10V.out
              have cip8 := cell_of h10w (i := 1) (v := .int .u32 s.ip) rfl
              have HRF := hid (rFind_any W8 q T' own ip L2 s.ip hbo8.rp (fun b hb => (hbo8.t b hb).2))
              generalize findM L2 s.ip = fm at *
              generalize (lookP L2 s.ip).isSome = fb at *
              rw [hg7] at h7 hW8 h8
              have H7 := hid h7
              have H8 := hid h8
              have HW7 := hid hW7
              have HW8 := hid hW8
              have HBO8 := hid hbo8
              clear hb6 hW7 h7 hW8 h8 hb8 hb28 hbo8 h10w HFD cip
              go_upto_region 34 with (rw [← HW7.out]; clear HW7; refine wpList_store_row rfl 23 _ _ rfl g7 (macC fm) rfl rfl 23 _ H7.out size6 rfl (macC_one _) ?_; rw [← HW8.out]; clear HW8)
              go_wp2_with fail
              refine HRF.out.mono ?_
              rintro e w9 ⟨rfl, hb9⟩
              obtain ⟨g11, hg11⟩ : ∃ g, w9.heap.size = g := ⟨_, rfl⟩
              obtain ⟨W11, hW11, h11, W12, hW12, h12, hb12⟩ := box6 w9 fm
              have hb812 := hb9.trans (hb12.mono hb9.size)
              have H87 := hid ((hb812.block g7 (Array.getElem?_eq_some_iff.1 H8.out).1).trans H8.out)
              have HBOZ := hid (HBO8.out.later hb812)
              rw [hg11] at h11 hW12 h12
              have H11 := hid h11
              have H12 := hid h12
              have HW11 := hid hW11
              have HW12 := hid hW12
              have hq := fun (m' k : Mac) (w : World) => eqMac m' k w
              clear hb9 hW11 h11 hW12 h12 hb12 hb812 HRF cip8
              go_upto_region 35 with (rw [← HW11.out]; clear HW11; refine wpList_store_row rfl 23 _ _ rfl g11 (macC fm) rfl rfl 23 _ H11.out size6 rfl (macC_one _) ?_; rw [← HW12.out]; clear HW12)
              go_wp2_with (first
                | (refine wpList_load_row rfl 23 _ rfl g7 rfl 23 _ (0, 0) _ H87.out Try.underlying23 rfl size6 ?_)
                | (refine wpList_load_row rfl 23 _ rfl g11 rfl 23 _ (0, 0) _ H12.out Try.underlying23 rfl size6 ?_))
              go_roundw
              case rel => exact ⟨k + 1, S', T', m', L2, hlt2, by go_num, HBOZ.out, HM'.out⟩
              case measure => simp [RowKit.intOf]; omega
        have e1 : (s.kd == 1) = false := by simpa using k1
        by_cases k2 : s.kd = 2
        · have e2 : (s.kd == 2) = true := by simpa using k2
          have HHE := hid (Hear_any V p m S own ip L s.m1 s.m2 s.k s.a s.n s.c s.body HBO.out.pe (fun b hb => (HBO.out.s b hb).2) (by omega) HSK.out.2.2.2.2.2.1 HSK.out.2.2.2.2.2.2.2.2 HSK.out.2.2.2.2.2.2.2.1 (HSK.out.2.2.2.2.2.2.1.later HBO.out.bel))
          go_wp2_with (refine wpList_load_mid rfl 25 _ rfl g10 8 rfl [.int .u8 s.m1.a, .int .u8 s.m1.b, .int .u8 s.m1.c, .int .u8 s.m1.d, .int .u8 s.m1.e, .int .u8 s.m1.f, .int .u8 s.m2.a, .int .u8 s.m2.b, .int .u8 s.m2.c, .int .u8 s.m2.d, .int .u8 s.m2.e, .int .u8 s.m2.f, .int .i64 s.k, .slice s.a s.n s.c] _ (rng H10.out 8 _ (range14 rfl rfl rfl rfl rfl rfl rfl rfl rfl rfl rfl rfl rfl rfl)) Try.underlying25 rfl sizeFr ?_)
          refine HHE.out.mono ?_
          rintro e v1 ⟨a1, c1, rfl, _, hy1, S', m', hpe', hm', hk', hs'⟩
          have hng : ¬ S g10 := fun e => by have := (HBX.out.s g10 e).2; have := HG10.out; omega
          have hngt : ¬ T g10 := fun e => by have := (HBX.out.t g10 e).2; have := HG10.out; omega
          have h101 := (hk'.block (Array.getElem?_eq_some_iff.1 H10.out).1 hng).trans H10.out
          have H101' := hid h101
          have HTS := hid (theirs_any v1 s.m1 s.m2 s.k s.a s.n s.c)
          have HY1 := hid hy1
          have HPE' := hid hpe'
          have HMM : Hid (m' ≤ k + 1) := hid (by omega)
          have HK' := hid hk'
          have HS' := hid hs'
          clear h101 hy1 hpe' hm' hk' hs' HHE
          go_upto_region 18 with fail
          go_wp2_with (refine wpList_load_mid rfl 25 _ rfl g10 8 rfl [.int .u8 s.m1.a, .int .u8 s.m1.b, .int .u8 s.m1.c, .int .u8 s.m1.d, .int .u8 s.m1.e, .int .u8 s.m1.f, .int .u8 s.m2.a, .int .u8 s.m2.b, .int .u8 s.m2.c, .int .u8 s.m2.d, .int .u8 s.m2.e, .int .u8 s.m2.f, .int .i64 s.k, .slice s.a s.n s.c] _ (rng H101'.out 8 _ (range14 rfl rfl rfl rfl rfl rfl rfl rfl rfl rfl rfl rfl rfl rfl)) Try.underlying25 rfl sizeFr ?_)
          refine HTS.out.mono ?_
          rintro e v2 ⟨rfl, hb2⟩
          have hV2 := (HK'.out.below0 HBO.out.bel (fun b hb => (HBO.out.s b hb).1)).1
          have hV2' := hV2.trans (hb2.mono hV2.size)
          have HRH := hid (rHear_any v2 q T own ip L s.m1 s.m2 s.k s.a s.n s.c s.body ((HBO.out.rp.mods HK'.out.2 (fun b h1 h2 => HBO.out.d b h2 h1)).later hb2) (fun b hb => Nat.lt_of_lt_of_le (HBO.out.t b hb).2 (Nat.le_trans HK'.out.2.size hb2.size)) HSK.out.2.2.2.2.2.1 (by omega) HSK.out.2.2.2.2.2.2.2.2 (HSK.out.2.2.2.2.2.2.1.later hV2'))
          have HB2' := hid hb2
          clear hb2 hV2 hV2' HTS
          go_wp2_with fail
          refine HRH.out.mono ?_
          rintro e v3 ⟨a3, c3, rfl, hy3, T', hrp', hk2, ht'⟩
          have hk12 := (Kp.below (S := T) HB2'.out).trans hk2
          have H102 := hid ((hk12.block (Array.getElem?_eq_some_iff.1 H101'.out).1 hngt).trans H101'.out)
          have HBN := hid (HBO.out.step HPE'.out HK'.out HS'.out hrp' hk12 ht')
          have hyA : By v3 (New V) a1 (hearB own ip s.k s.body) := (HY1.out.later HB2'.out).keep (fun b hb hl => hk2.2.block b hl (fun e => by have := (HBO.out.t b e).2; have h2 : V.heap.size ≤ b := hb; omega))
          have k1 := conv0 (cap := c1) hyA.bytes rfl
          have k2 := conv0 (cap := c3) hy3.bytes rfl
          generalize strOfNums (hearB own ip s.k s.body) = ss at *
          generalize (hearB own ip s.k s.body).length = nn at *
          generalize hearC ip s.k s.body = ee at *
          generalize hearS ip s.k s.body L = L2 at *
          clear hyA hy3 hrp' hk2 ht' hk12 hng hngt HRH HY1
          have HM' := HMM
          clear HBX
          go_upto_region 24 with fail
          clear k1 k2

          have hbo := HBN.out
          have HKA := hid (Known_any v3 p m' S' own ip L2 hbo.pe)
          have hl16 := hbo.pe.okL.len
          have HOK := hid hbo.pe.okL
          have HIS := hid (fun x (hx : x ∈ L2.map Pe.ip) => show IsU x by obtain ⟨e, he, rfl⟩ := List.mem_map.1 hx; exact (HOK.out.ok e he).1)
          clear hbo
          go_wp2_with fail
          refine HKA.out.mono ?_
          rintro e w1 ⟨v1, rfl, ho1, hb1⟩
          obtain ⟨a1, c1, e1, _, _, hu1⟩ := UT.of_owns (T := fun _ => True) ho1 HIS.out (fun _ _ => trivial)
          subst e1
          have hbo1 := HBN.out.later hb1
          obtain ⟨_, vl, hq1, hpr1, _⟩ := hbo1.rp
          obtain ⟨av, cv, rfl⟩ := hpr1.shape
          have cq := cell_of hq1 (i := 7) (v := .slice av L2.length cv) rfl
          have HU1 := hid hu1
          have HBO1 := hid hbo1
          have HQ1 := hid hq1
          have HPR1 := hid hpr1
          have H101 := hid ((hb1.block g10 (Array.getElem?_eq_some_iff.1 H102.out).1).trans H102.out)
          clear ho1 hb1 hu1 hbo1 hq1 hpr1 HKA
          go_wp2
          go_loopw [16] (fun i wr => ∃ j : Nat, j ≤ L2.length ∧ i = .int .i64 j ∧ Below w1.heap.size w1 wr) (fun i _ => L2.length - (RowKit.intOf i).toNat)
          case atStart => exact ⟨0, Nat.zero_le _, rfl, Below.refl _ _⟩
          case round =>
            obtain ⟨j, hj, rfl, hb⟩ := hrel
            rename World => V2
            have HB := hid hb
            clear hb cq
            have cq2 := cell_of ((HB.out.block q (Array.getElem?_eq_some_iff.1 HQ1.out).1).trans HQ1.out) (i := 7) (v := .slice av L2.length cv) rfl
            by_cases hjl : j < L2.length
            · obtain ⟨bu, ou, eu, cu, huU⟩ := (HU1.out.later HB.out).at_ (i := j) (by simpa using hjl)
              subst eu
              obtain ⟨br, or_, cr, er, hcs⟩ := (HPR1.out.later HB.out).at_ (i := j) hjl ⟨0, mac0⟩
              simp only [Value.slice.injEq, true_and] at er
              obtain ⟨rfl, rfl⟩ := er
              have hla := look_at HOK.out ⟨0, mac0⟩ j hjl
              rw [ips_at L2 ⟨0, mac0⟩ j hjl] at cu huU
              generalize L2.getD j ⟨0, mac0⟩ = d at *
              have HFD := hid (Find_any V2 p m' S' own ip L2 d.ip (HBO1.out.later HB.out).pe huU)
              rw [hla, show findM L2 d.ip = d.mac by unfold findM; rw [hla]; rfl, show (some d).isSome = true from rfl] at HFD
              have hji : (j : Int) < L2.length := by omega
              have HCS := hid hcs
              have HCU := hid cu
              clear hla huU hcs
              go_wp2_with fail
              refine HFD.out.mono ?_
              rintro e w6 ⟨rfl, hb6⟩
              obtain ⟨g7, hg7⟩ : ∃ g, w6.heap.size = g := ⟨_, rfl⟩
              obtain ⟨W7, hW7, h7, W8, hW8, h8, hb8⟩ := box6 w6 d.mac
              have hb28 := hb6.trans (hb8.mono hb6.size)
              have HB28 := hid (HB.out.trans (hb28.mono HB.out.size))
              rw [hg7] at h7 hW8 h8
              have H7 := hid h7
              have HW7 := hid hW7
              have HW8 := hid hW8
              have cu8 := cell_later hb28 HCU.out
              have cq8 := cell_later hb28 cq2
              have t0 := cell_of h8 (i := 0) (v := .int .u8 d.mac.a) rfl
              have t1 := cell_of h8 (i := 1) (v := .int .u8 d.mac.b) rfl
              have t2 := cell_of h8 (i := 2) (v := .int .u8 d.mac.c) rfl
              have t3 := cell_of h8 (i := 3) (v := .int .u8 d.mac.d) rfl
              have t4 := cell_of h8 (i := 4) (v := .int .u8 d.mac.e) rfl
              have t5 := cell_of h8 (i := 5) (v := .int .u8 d.mac.f) rfl
              have r0 : W8.cell? ⟨br, or_ + j * 7, none⟩ = some (.int .u32 d.ip) := by have := cell_later hb28 (show V2.cell? ⟨br, or_ + j * 7 + 0, none⟩ = some (.int .u32 d.ip) from (HCS.out 0 (by omega)).trans rfl); rw [Nat.add_zero] at this; exact this
              have r1 : W8.cell? ⟨br, or_ + j * 7 + 1, none⟩ = some (.int .u8 d.mac.a) := cell_later hb28 (show V2.cell? ⟨br, or_ + j * 7 + 1, none⟩ = some (.int .u8 d.mac.a) from (HCS.out 1 (by omega)).trans rfl)
              have r2 : W8.cell? ⟨br, or_ + j * 7 + 2, none⟩ = some (.int .u8 d.mac.b) := cell_later hb28 (show V2.cell? ⟨br, or_ + j * 7 + 2, none⟩ = some (.int .u8 d.mac.b) from (HCS.out 2 (by omega)).trans rfl)
              have r3 : W8.cell? ⟨br, or_ + j * 7 + 3, none⟩ = some (.int .u8 d.mac.c) := cell_later hb28 (show V2.cell? ⟨br, or_ + j * 7 + 3, none⟩ = some (.int .u8 d.mac.c) from (HCS.out 3 (by omega)).trans rfl)
              have r4 : W8.cell? ⟨br, or_ + j * 7 + 4, none⟩ = some (.int .u8 d.mac.d) := cell_later hb28 (show V2.cell? ⟨br, or_ + j * 7 + 4, none⟩ = some (.int .u8 d.mac.d) from (HCS.out 4 (by omega)).trans rfl)
              have r5 : W8.cell? ⟨br, or_ + j * 7 + 5, none⟩ = some (.int .u8 d.mac.e) := cell_later hb28 (show V2.cell? ⟨br, or_ + j * 7 + 5, none⟩ = some (.int .u8 d.mac.e) from (HCS.out 5 (by omega)).trans rfl)
              have r6 : W8.cell? ⟨br, or_ + j * 7 + 6, none⟩ = some (.int .u8 d.mac.f) := cell_later hb28 (show V2.cell? ⟨br, or_ + j * 7 + 6, none⟩ = some (.int .u8 d.mac.f) from (HCS.out 6 (by omega)).trans rfl)
              have qe : ∀ w, (Op.equalIn 10000 23 (.agg #[.int .u8 d.mac.a, .int .u8 d.mac.b, .int .u8 d.mac.c, .int .u8 d.mac.d, .int .u8 d.mac.e, .int .u8 d.mac.f]) (.agg #[.int .u8 d.mac.a, .int .u8 d.mac.b, .int .u8 d.mac.c, .int .u8 d.mac.d, .int .u8 d.mac.e, .int .u8 d.mac.f])).run Try.prog w = .ok true w := fun w => (eqMac d.mac d.mac w).trans (by simp)
              clear hb6 hW7 h7 hW8 h8 hb8 hb28 HFD HCS HCU cu cq2
              go_upto_region 31 with (rw [← HW7.out]; clear HW7; refine wpList_store_row rfl 23 _ _ rfl g7 (macC d.mac) rfl rfl 23 _ H7.out size6 rfl (macC_one _) ?_; rw [← HW8.out]; clear HW8)
              go_quiet (fail)
              go_wp2
              go_roundw
              case rel => exact ⟨j + 1, hjl, by go_num, below_drewN HB28.out _⟩
              case measure => simp [RowKit.intOf]; omega
            · have hji : ¬ ((j : Int) < L2.length) := by omega
              have hbo2 := HBO1.out.later HB.out
              have h10v := (HB.out.block g10 (Array.getElem?_eq_some_iff.1 H101.out).1).trans H101.out
              have cip := cell_of h10v (i := 1) (v := .int .u32 s.ip) rfl
              have HFD := hid (Find_any V2 p m' S' own ip L2 s.ip hbo2.pe HSK.out.1)
              have HBO2 := hid hbo2
              have H10V := hid h10v
              clear hbo2 h10v cq2
              go_wp2_with fail
              refine HFD.out.mono ?_
              rintro e w6 ⟨rfl, hb6⟩
              obtain ⟨g7, hg7⟩ : ∃ g, w6.heap.size = g := ⟨_, rfl⟩
              obtain ⟨W7, hW7, h7, W8, hW8, h8, hb8⟩ := box6 w6 (findM L2 s.ip)
              have hb28 := hb6.trans (hb8.mono hb6.size)
              have hbo8 := HBO2.out.later hb28
              have h10w := (hb28.block g10 (Array.getElem?_eq_some_iff.1 H10V.out).1).trans H10V.out
              have cip8 := cell_of h10w (i := 1) (v := .int .u32 s.ip) rfl
              have HRF := hid (rFind_any W8 q T' own ip L2 s.ip hbo8.rp (fun b hb => (hbo8.t b hb).2))
              generalize findM L2 s.ip = fm at *
              generalize (lookP L2 s.ip).isSome = fb at *
              rw [hg7] at h7 hW8 h8
              have H7 := hid h7
              have H8 := hid h8
              have HW7 := hid hW7
              have HW8 := hid hW8
              have HBO8 := hid hbo8
              clear hb6 hW7 h7 hW8 h8 hb8 hb28 hbo8 h10w HFD cip
              go_upto_region 34 with (rw [← HW7.out]; clear HW7; refine wpList_store_row rfl 23 _ _ rfl g7 (macC fm) rfl rfl 23 _ H7.out size6 rfl (macC_one _) ?_; rw [← HW8.out]; clear HW8)
              go_wp2_with fail
              refine HRF.out.mono ?_
              rintro e w9 ⟨rfl, hb9⟩
              obtain ⟨g11, hg11⟩ : ∃ g, w9.heap.size = g := ⟨_, rfl⟩
              obtain ⟨W11, hW11, h11, W12, hW12, h12, hb12⟩ := box6 w9 fm
              have hb812 := hb9.trans (hb12.mono hb9.size)
              have H87 := hid ((hb812.block g7 (Array.getElem?_eq_some_iff.1 H8.out).1).trans H8.out)
              have HBOZ := hid (HBO8.out.later hb812)
              rw [hg11] at h11 hW12 h12
              have H11 := hid h11
              have H12 := hid h12
              have HW11 := hid hW11
              have HW12 := hid hW12
              have hq := fun (m' k : Mac) (w : World) => eqMac m' k w
              clear hb9 hW11 h11 hW12 h12 hb12 hb812 HRF cip8
              go_upto_region 35 with (rw [← HW11.out]; clear HW11; refine wpList_store_row rfl 23 _ _ rfl g11 (macC fm) rfl rfl 23 _ H11.out size6 rfl (macC_one _) ?_; rw [← HW12.out]; clear HW12)
              go_wp2_with (first
                | (refine wpList_load_row rfl 23 _ rfl g7 rfl 23 _ (0, 0) _ H87.out Try.underlying23 rfl size6 ?_)
                | (refine wpList_load_row rfl 23 _ rfl g11 rfl 23 _ (0, 0) _ H12.out Try.underlying23 rfl size6 ?_))
              go_roundw
              case rel => exact ⟨k + 1, S', T', m', L2, hlt2, by go_num, HBOZ.out, HM'.out⟩
              case measure => simp [RowKit.intOf]; omega
        have e2 : (s.kd == 2) = false := by simpa using k2
        by_cases k3 : s.kd = 3
        · have e3 : (s.kd == 3) = true := by simpa using k3
          have HAS := hid (Ask_any V.drew p m S own ip L s.ip (HBO.out.pe.later ((Below.refl _ V).drew)) HSK.out.1)
          go_upto_region 22 with fail
          refine wp_region_held_drew (S := fun W => W.heap[g10]? = some (.cells (stC s) 49 (0, 0))) (by kernel_rfl) H10.out (fun hS => ?_)
          refine nany_take 0 98 (.pointer (some ⟨p, 0, none⟩)) rfl rfl (by kernel_rfl) (by kernel_rfl) (by kernel_rfl) (fun _ _ _ h => h) (Or.inl ⟨by rfl, ?_⟩) hS ?_
          · rintro w' hS'
            go_simp
          simp only [List.setIfInBounds_toArray, List.set_cons_zero, List.set_cons_succ]
          refine nany_take 1 99 (.pointer (some ⟨g10, 1, none⟩)) rfl rfl (by kernel_rfl) (by kernel_rfl) (by kernel_rfl) (fun _ _ _ h => h) (Or.inl ⟨by rfl, ?_⟩) hS ?_
          · rintro w' hS'
            go_simp
          simp only [List.setIfInBounds_toArray, List.set_cons_zero, List.set_cons_succ]
          refine nany_take 2 100 (.int .u32 s.ip) rfl rfl (by kernel_rfl) (by kernel_rfl) (by kernel_rfl) (fun _ _ _ h => h) (Or.inl ⟨by rfl, ?_⟩) hS ?_
          · rintro w' hS'
            have hc := cell_of hS' (i := 1) (v := .int .u32 s.ip) rfl; go_simp
          simp only [List.setIfInBounds_toArray, List.set_cons_zero, List.set_cons_succ]
          refine nany_take 5 103 (.pointer (some ⟨q, 0, none⟩)) rfl rfl (by kernel_rfl) (by kernel_rfl) (by kernel_rfl) (fun _ _ _ h => h) (Or.inl ⟨by rfl, ?_⟩) hS ?_
          · rintro w' hS'
            go_simp
          simp only [List.setIfInBounds_toArray, List.set_cons_zero, List.set_cons_succ]
          refine nany_take 6 104 (.pointer (some ⟨g10, 1, none⟩)) rfl rfl (by kernel_rfl) (by kernel_rfl) (by kernel_rfl) (fun _ _ _ h => h) (Or.inl ⟨by rfl, ?_⟩) hS ?_
          · rintro w' hS'
            go_simp
          simp only [List.setIfInBounds_toArray, List.set_cons_zero, List.set_cons_succ]
          refine nany_take 7 105 (.int .u32 s.ip) rfl rfl (by kernel_rfl) (by kernel_rfl) (by kernel_rfl) (fun _ _ _ h => h) (Or.inl ⟨by rfl, ?_⟩) hS ?_
          · rintro w' hS'
            have hc := cell_of hS' (i := 1) (v := .int .u32 s.ip) rfl; go_simp
          simp only [List.setIfInBounds_toArray, List.set_cons_zero, List.set_cons_succ]
          refine nany_one 3 (by kernel_rfl) ?_
          refine nop_callE 101 (f := 19) (args := #[.pointer (some ⟨p, 0, none⟩), .int .u32 s.ip]) (R := fun v w' => ∃ a c, v = .slice a 42 c ∧ By w' (New V) a (askL own ip s.ip) ∧ Below V.heap.size V w') rfl (by rfl) rfl (by go_simp) (HAS.out.mono (fun e w' h => by obtain ⟨a, c, h1, h2, h3, h4⟩ := h; exact ⟨_, h1, a, c, rfl, h2, below_undrew h4⟩)) ?_
          rintro v v1 ⟨a1, c1, rfl, hy1, hb1⟩
          have hS1 := (hb1.block g10 (Array.getElem?_eq_some_iff.1 H10.out).1).trans H10.out
          refine ⟨hS1, ?_⟩
          refine nwpAnyH_strong (S' := fun W => W.heap[g10]? = some (.cells (stC s) 49 (0, 0)) ∧ By W (New V) a1 (askL own ip s.ip)) (fun W h => h.1) _ _ _ _ ?_
          have hS3 := (show _ ∧ _ from ⟨hS1, hy1⟩)
          simp only [List.setIfInBounds_toArray, List.set_cons_zero, List.set_cons_succ]
          refine nany_take 4 102 (.string (strOfNums (askL own ip s.ip))) rfl rfl (by kernel_rfl) (by kernel_rfl) (by kernel_rfl) (fun _ _ _ h => h) (Or.inl ⟨by rfl, ?_⟩) hS3 ?_
          · rintro w' hS'
            have hc := conv0 (cap := c1) hS'.2.bytes (askL_len _ _ _); go_simp
          simp only [List.setIfInBounds_toArray, List.set_cons_zero, List.set_cons_succ]
          refine nany_one 8 (by kernel_rfl) ?_
          refine nop_callE 106 (f := 20) (args := #[.pointer (some ⟨q, 0, none⟩), .int .u32 s.ip]) (R := fun v w' => ∃ a c, v = .slice a 42 c ∧ By w' (New v1) a (askL own ip s.ip) ∧ Below v1.heap.size v1 w') rfl (by rfl) rfl (by go_simp) ((rAsk_any v1 q T own ip L s.ip (HBO.out.rp.later hb1) HSK.out.1).mono (fun e w' h => by obtain ⟨a, c, h1, h2, h3, h4⟩ := h; exact ⟨_, h1, a, c, rfl, h2, h4⟩)) ?_
          rintro v v2 ⟨a2, c2, rfl, hy2, hb2⟩
          have hS2 := (show _ ∧ _ from ⟨(hb2.block g10 (Array.getElem?_eq_some_iff.1 hS1).1).trans hS1, hy1.later hb2⟩)
          refine ⟨hS2, ?_⟩
          have k2 := conv0 (cap := c2) hy2.bytes (askL_len _ _ _)
          have k1 := k2
          simp only [List.setIfInBounds_toArray, List.set_cons_zero, List.set_cons_succ]
          refine nany_one 9 (by kernel_rfl) ?_
          refine nop_value' 107 (v := .string (strOfNums (askL own ip s.ip))) (w' := v2) rfl (by rfl) rfl (by go_simp) ?_
          refine ⟨hS2, ?_⟩
          simp only [List.setIfInBounds_toArray, List.set_cons_zero, List.set_cons_succ]
          refine nany_take 10 108 (.bool false) rfl rfl (by kernel_rfl) (by kernel_rfl) (by kernel_rfl) (fun _ _ _ h => h) (Or.inl ⟨by rfl, ?_⟩) hS2 ?_
          · rintro w' hS'
            simp [execOp, Act.eval, go_sem]
          simp only [List.setIfInBounds_toArray, List.set_cons_zero, List.set_cons_succ]
          refine wpAnyH_done (by kernel_rfl) ?_ _
          have HV22 := hid (hb1.trans (hb2.mono hb1.size))
          have HBN := hid (HBO.out.later HV22.out)
          have H102 := hid hS2.1
          have HM' := HM
          clear hS hS1 hS2 hS3 hy1 hy2 hb1 hb2 k1 k2 HAS HBX

          have hbo := HBN.out
          have HKA := hid (Known_any v2 p m S own ip L hbo.pe)
          have hl16 := hbo.pe.okL.len
          have HOK := hid hbo.pe.okL
          have HIS := hid (fun x (hx : x ∈ L.map Pe.ip) => show IsU x by obtain ⟨e, he, rfl⟩ := List.mem_map.1 hx; exact (HOK.out.ok e he).1)
          clear hbo
          go_wp2_with fail
          refine HKA.out.mono ?_
          rintro e w1 ⟨v1, rfl, ho1, hb1⟩
          obtain ⟨a1, c1, e1, _, _, hu1⟩ := UT.of_owns (T := fun _ => True) ho1 HIS.out (fun _ _ => trivial)
          subst e1
          have hbo1 := HBN.out.later hb1
          obtain ⟨_, vl, hq1, hpr1, _⟩ := hbo1.rp
          obtain ⟨av, cv, rfl⟩ := hpr1.shape
          have cq := cell_of hq1 (i := 7) (v := .slice av L.length cv) rfl
          have HU1 := hid hu1
          have HBO1 := hid hbo1
          have HQ1 := hid hq1
          have HPR1 := hid hpr1
          have H101 := hid ((hb1.block g10 (Array.getElem?_eq_some_iff.1 H102.out).1).trans H102.out)
          clear ho1 hb1 hu1 hbo1 hq1 hpr1 HKA
          go_wp2
          go_loopw [16] (fun i wr => ∃ j : Nat, j ≤ L.length ∧ i = .int .i64 j ∧ Below w1.heap.size w1 wr) (fun i _ => L.length - (RowKit.intOf i).toNat)
          case atStart => exact ⟨0, Nat.zero_le _, rfl, Below.refl _ _⟩
          case round =>
            obtain ⟨j, hj, rfl, hb⟩ := hrel
            rename World => V2
            have HB := hid hb
            clear hb cq
            have cq2 := cell_of ((HB.out.block q (Array.getElem?_eq_some_iff.1 HQ1.out).1).trans HQ1.out) (i := 7) (v := .slice av L.length cv) rfl
            by_cases hjl : j < L.length
            · obtain ⟨bu, ou, eu, cu, huU⟩ := (HU1.out.later HB.out).at_ (i := j) (by simpa using hjl)
              subst eu
              obtain ⟨br, or_, cr, er, hcs⟩ := (HPR1.out.later HB.out).at_ (i := j) hjl ⟨0, mac0⟩
              simp only [Value.slice.injEq, true_and] at er
              obtain ⟨rfl, rfl⟩ := er
              have hla := look_at HOK.out ⟨0, mac0⟩ j hjl
              rw [ips_at L ⟨0, mac0⟩ j hjl] at cu huU
              generalize L.getD j ⟨0, mac0⟩ = d at *
              have HFD := hid (Find_any V2 p m S own ip L d.ip (HBO1.out.later HB.out).pe huU)
              rw [hla, show findM L d.ip = d.mac by unfold findM; rw [hla]; rfl, show (some d).isSome = true from rfl] at HFD
              have hji : (j : Int) < L.length := by omega
              have HCS := hid hcs
              have HCU := hid cu
              clear hla huU hcs
              go_wp2_with fail
              refine HFD.out.mono ?_
              rintro e w6 ⟨rfl, hb6⟩
              obtain ⟨g7, hg7⟩ : ∃ g, w6.heap.size = g := ⟨_, rfl⟩
              obtain ⟨W7, hW7, h7, W8, hW8, h8, hb8⟩ := box6 w6 d.mac
              have hb28 := hb6.trans (hb8.mono hb6.size)
              have HB28 := hid (HB.out.trans (hb28.mono HB.out.size))
              rw [hg7] at h7 hW8 h8
              have H7 := hid h7
              have HW7 := hid hW7
              have HW8 := hid hW8
              have cu8 := cell_later hb28 HCU.out
              have cq8 := cell_later hb28 cq2
              have t0 := cell_of h8 (i := 0) (v := .int .u8 d.mac.a) rfl
              have t1 := cell_of h8 (i := 1) (v := .int .u8 d.mac.b) rfl
              have t2 := cell_of h8 (i := 2) (v := .int .u8 d.mac.c) rfl
              have t3 := cell_of h8 (i := 3) (v := .int .u8 d.mac.d) rfl
              have t4 := cell_of h8 (i := 4) (v := .int .u8 d.mac.e) rfl
              have t5 := cell_of h8 (i := 5) (v := .int .u8 d.mac.f) rfl
              have r0 : W8.cell? ⟨br, or_ + j * 7, none⟩ = some (.int .u32 d.ip) := by have := cell_later hb28 (show V2.cell? ⟨br, or_ + j * 7 + 0, none⟩ = some (.int .u32 d.ip) from (HCS.out 0 (by omega)).trans rfl); rw [Nat.add_zero] at this; exact this
              have r1 : W8.cell? ⟨br, or_ + j * 7 + 1, none⟩ = some (.int .u8 d.mac.a) := cell_later hb28 (show V2.cell? ⟨br, or_ + j * 7 + 1, none⟩ = some (.int .u8 d.mac.a) from (HCS.out 1 (by omega)).trans rfl)
              have r2 : W8.cell? ⟨br, or_ + j * 7 + 2, none⟩ = some (.int .u8 d.mac.b) := cell_later hb28 (show V2.cell? ⟨br, or_ + j * 7 + 2, none⟩ = some (.int .u8 d.mac.b) from (HCS.out 2 (by omega)).trans rfl)
              have r3 : W8.cell? ⟨br, or_ + j * 7 + 3, none⟩ = some (.int .u8 d.mac.c) := cell_later hb28 (show V2.cell? ⟨br, or_ + j * 7 + 3, none⟩ = some (.int .u8 d.mac.c) from (HCS.out 3 (by omega)).trans rfl)
              have r4 : W8.cell? ⟨br, or_ + j * 7 + 4, none⟩ = some (.int .u8 d.mac.d) := cell_later hb28 (show V2.cell? ⟨br, or_ + j * 7 + 4, none⟩ = some (.int .u8 d.mac.d) from (HCS.out 4 (by omega)).trans rfl)
              have r5 : W8.cell? ⟨br, or_ + j * 7 + 5, none⟩ = some (.int .u8 d.mac.e) := cell_later hb28 (show V2.cell? ⟨br, or_ + j * 7 + 5, none⟩ = some (.int .u8 d.mac.e) from (HCS.out 5 (by omega)).trans rfl)
              have r6 : W8.cell? ⟨br, or_ + j * 7 + 6, none⟩ = some (.int .u8 d.mac.f) := cell_later hb28 (show V2.cell? ⟨br, or_ + j * 7 + 6, none⟩ = some (.int .u8 d.mac.f) from (HCS.out 6 (by omega)).trans rfl)
              have qe : ∀ w, (Op.equalIn 10000 23 (.agg #[.int .u8 d.mac.a, .int .u8 d.mac.b, .int .u8 d.mac.c, .int .u8 d.mac.d, .int .u8 d.mac.e, .int .u8 d.mac.f]) (.agg #[.int .u8 d.mac.a, .int .u8 d.mac.b, .int .u8 d.mac.c, .int .u8 d.mac.d, .int .u8 d.mac.e, .int .u8 d.mac.f])).run Try.prog w = .ok true w := fun w => (eqMac d.mac d.mac w).trans (by simp)
              clear hb6 hW7 h7 hW8 h8 hb8 hb28 HFD HCS HCU cu cq2
              go_upto_region 31 with (rw [← HW7.out]; clear HW7; refine wpList_store_row rfl 23 _ _ rfl g7 (macC d.mac) rfl rfl 23 _ H7.out size6 rfl (macC_one _) ?_; rw [← HW8.out]; clear HW8)
              go_quiet (fail)
              go_wp2
              go_roundw
              case rel => exact ⟨j + 1, hjl, by go_num, below_drewN HB28.out _⟩
              case measure => simp [RowKit.intOf]; omega
            · have hji : ¬ ((j : Int) < L.length) := by omega
              have hbo2 := HBO1.out.later HB.out
              have h10v := (HB.out.block g10 (Array.getElem?_eq_some_iff.1 H101.out).1).trans H101.out
              have cip := cell_of h10v (i := 1) (v := .int .u32 s.ip) rfl
              have HFD := hid (Find_any V2 p m S own ip L s.ip hbo2.pe HSK.out.1)
              have HBO2 := hid hbo2
              have H10V := hid h10v
              clear hbo2 h10v cq2
              go_wp2_with fail
              refine HFD.out.mono ?_
              rintro e w6 ⟨rfl, hb6⟩
              obtain ⟨g7, hg7⟩ : ∃ g, w6.heap.size = g := ⟨_, rfl⟩
              obtain ⟨W7, hW7, h7, W8, hW8, h8, hb8⟩ := box6 w6 (findM L s.ip)
              have hb28 := hb6.trans (hb8.mono hb6.size)
              have hbo8 := HBO2.out.later hb28
              have h10w := (hb28.block g10 (Array.getElem?_eq_some_iff.1 H10V.out).1).trans H10V.out
              have cip8 := cell_of h10w (i := 1) (v := .int .u32 s.ip) rfl
              have HRF := hid (rFind_any W8 q T own ip L s.ip hbo8.rp (fun b hb => (hbo8.t b hb).2))
              generalize findM L s.ip = fm at *
              generalize (lookP L s.ip).isSome = fb at *
              rw [hg7] at h7 hW8 h8
              have H7 := hid h7
              have H8 := hid h8
              have HW7 := hid hW7
              have HW8 := hid hW8
              have HBO8 := hid hbo8
              clear hb6 hW7 h7 hW8 h8 hb8 hb28 hbo8 h10w HFD cip
              go_upto_region 34 with (rw [← HW7.out]; clear HW7; refine wpList_store_row rfl 23 _ _ rfl g7 (macC fm) rfl rfl 23 _ H7.out size6 rfl (macC_one _) ?_; rw [← HW8.out]; clear HW8)
              go_wp2_with fail
              refine HRF.out.mono ?_
              rintro e w9 ⟨rfl, hb9⟩
              obtain ⟨g11, hg11⟩ : ∃ g, w9.heap.size = g := ⟨_, rfl⟩
              obtain ⟨W11, hW11, h11, W12, hW12, h12, hb12⟩ := box6 w9 fm
              have hb812 := hb9.trans (hb12.mono hb9.size)
              have H87 := hid ((hb812.block g7 (Array.getElem?_eq_some_iff.1 H8.out).1).trans H8.out)
              have HBOZ := hid (HBO8.out.later hb812)
              rw [hg11] at h11 hW12 h12
              have H11 := hid h11
              have H12 := hid h12
              have HW11 := hid hW11
              have HW12 := hid hW12
              have hq := fun (m k : Mac) (w : World) => eqMac m k w
              clear hb9 hW11 h11 hW12 h12 hb12 hb812 HRF cip8
              go_upto_region 35 with (rw [← HW11.out]; clear HW11; refine wpList_store_row rfl 23 _ _ rfl g11 (macC fm) rfl rfl 23 _ H11.out size6 rfl (macC_one _) ?_; rw [← HW12.out]; clear HW12)
              go_wp2_with (first
                | (refine wpList_load_row rfl 23 _ rfl g7 rfl 23 _ (0, 0) _ H87.out Try.underlying23 rfl size6 ?_)
                | (refine wpList_load_row rfl 23 _ rfl g11 rfl 23 _ (0, 0) _ H12.out Try.underlying23 rfl size6 ?_))
              go_roundw
              case rel => exact ⟨k + 1, S, T, m, L, hlt2, by go_num, HBOZ.out, HM'.out⟩
              case measure => simp [RowKit.intOf]; omega
        have e3 : (s.kd == 3) = false := by simpa using k3
        have hbo := HBO.out
        have HKA := hid (Known_any V p m S own ip L hbo.pe)
        have hl16 := hbo.pe.okL.len
        have HOK := hid hbo.pe.okL
        have HIS := hid (fun x (hx : x ∈ L.map Pe.ip) => show IsU x by obtain ⟨e, he, rfl⟩ := List.mem_map.1 hx; exact (HOK.out.ok e he).1)
        clear hbo
        go_wp2_with fail
        refine HKA.out.mono ?_
        rintro e w1 ⟨v1, rfl, ho1, hb1⟩
        obtain ⟨a1, c1, e1, _, _, hu1⟩ := UT.of_owns (T := fun _ => True) ho1 HIS.out (fun _ _ => trivial)
        subst e1
        have hbo1 := HBO.out.later hb1
        obtain ⟨_, vl, hq1, hpr1, _⟩ := hbo1.rp
        obtain ⟨av, cv, rfl⟩ := hpr1.shape
        have cq := cell_of hq1 (i := 7) (v := .slice av L.length cv) rfl
        have HU1 := hid hu1
        have HBO1 := hid hbo1
        have HQ1 := hid hq1
        have HPR1 := hid hpr1
        have H101 := hid ((hb1.block g10 (Array.getElem?_eq_some_iff.1 H10.out).1).trans H10.out)
        clear ho1 hb1 hu1 hbo1 hq1 hpr1 HKA
        go_wp2
        go_loopw [16] (fun i wr => ∃ j : Nat, j ≤ L.length ∧ i = .int .i64 j ∧ Below w1.heap.size w1 wr) (fun i _ => L.length - (RowKit.intOf i).toNat)
        case atStart => exact ⟨0, Nat.zero_le _, rfl, Below.refl _ _⟩
        case round =>
          obtain ⟨j, hj, rfl, hb⟩ := hrel
          rename World => V2
          have HB := hid hb
          clear hb cq
          have cq2 := cell_of ((HB.out.block q (Array.getElem?_eq_some_iff.1 HQ1.out).1).trans HQ1.out) (i := 7) (v := .slice av L.length cv) rfl
          by_cases hjl : j < L.length
          · obtain ⟨bu, ou, eu, cu, huU⟩ := (HU1.out.later HB.out).at_ (i := j) (by simpa using hjl)
            subst eu
            obtain ⟨br, or_, cr, er, hcs⟩ := (HPR1.out.later HB.out).at_ (i := j) hjl ⟨0, mac0⟩
            simp only [Value.slice.injEq, true_and] at er
            obtain ⟨rfl, rfl⟩ := er
            have hla := look_at HOK.out ⟨0, mac0⟩ j hjl
            rw [ips_at L ⟨0, mac0⟩ j hjl] at cu huU
            generalize L.getD j ⟨0, mac0⟩ = d at *
            have HFD := hid (Find_any V2 p m S own ip L d.ip (HBO1.out.later HB.out).pe huU)
            rw [hla, show findM L d.ip = d.mac by unfold findM; rw [hla]; rfl, show (some d).isSome = true from rfl] at HFD
            have hji : (j : Int) < L.length := by omega
            have HCS := hid hcs
            have HCU := hid cu
            clear hla huU hcs
            go_wp2_with fail
            refine HFD.out.mono ?_
            rintro e w6 ⟨rfl, hb6⟩
            obtain ⟨g7, hg7⟩ : ∃ g, w6.heap.size = g := ⟨_, rfl⟩
            obtain ⟨W7, hW7, h7, W8, hW8, h8, hb8⟩ := box6 w6 d.mac
            have hb28 := hb6.trans (hb8.mono hb6.size)
            have HB28 := hid (HB.out.trans (hb28.mono HB.out.size))
            rw [hg7] at h7 hW8 h8
            have H7 := hid h7
            have HW7 := hid hW7
            have HW8 := hid hW8
            have cu8 := cell_later hb28 HCU.out
            have cq8 := cell_later hb28 cq2
            have t0 := cell_of h8 (i := 0) (v := .int .u8 d.mac.a) rfl
            have t1 := cell_of h8 (i := 1) (v := .int .u8 d.mac.b) rfl
            have t2 := cell_of h8 (i := 2) (v := .int .u8 d.mac.c) rfl
            have t3 := cell_of h8 (i := 3) (v := .int .u8 d.mac.d) rfl
            have t4 := cell_of h8 (i := 4) (v := .int .u8 d.mac.e) rfl
            have t5 := cell_of h8 (i := 5) (v := .int .u8 d.mac.f) rfl
            have r0 : W8.cell? ⟨br, or_ + j * 7, none⟩ = some (.int .u32 d.ip) := by have := cell_later hb28 (show V2.cell? ⟨br, or_ + j * 7 + 0, none⟩ = some (.int .u32 d.ip) from (HCS.out 0 (by omega)).trans rfl); rw [Nat.add_zero] at this; exact this
            have r1 : W8.cell? ⟨br, or_ + j * 7 + 1, none⟩ = some (.int .u8 d.mac.a) := cell_later hb28 (show V2.cell? ⟨br, or_ + j * 7 + 1, none⟩ = some (.int .u8 d.mac.a) from (HCS.out 1 (by omega)).trans rfl)
            have r2 : W8.cell? ⟨br, or_ + j * 7 + 2, none⟩ = some (.int .u8 d.mac.b) := cell_later hb28 (show V2.cell? ⟨br, or_ + j * 7 + 2, none⟩ = some (.int .u8 d.mac.b) from (HCS.out 2 (by omega)).trans rfl)
            have r3 : W8.cell? ⟨br, or_ + j * 7 + 3, none⟩ = some (.int .u8 d.mac.c) := cell_later hb28 (show V2.cell? ⟨br, or_ + j * 7 + 3, none⟩ = some (.int .u8 d.mac.c) from (HCS.out 3 (by omega)).trans rfl)
            have r4 : W8.cell? ⟨br, or_ + j * 7 + 4, none⟩ = some (.int .u8 d.mac.d) := cell_later hb28 (show V2.cell? ⟨br, or_ + j * 7 + 4, none⟩ = some (.int .u8 d.mac.d) from (HCS.out 4 (by omega)).trans rfl)
            have r5 : W8.cell? ⟨br, or_ + j * 7 + 5, none⟩ = some (.int .u8 d.mac.e) := cell_later hb28 (show V2.cell? ⟨br, or_ + j * 7 + 5, none⟩ = some (.int .u8 d.mac.e) from (HCS.out 5 (by omega)).trans rfl)
            have r6 : W8.cell? ⟨br, or_ + j * 7 + 6, none⟩ = some (.int .u8 d.mac.f) := cell_later hb28 (show V2.cell? ⟨br, or_ + j * 7 + 6, none⟩ = some (.int .u8 d.mac.f) from (HCS.out 6 (by omega)).trans rfl)
            have qe : ∀ w, (Op.equalIn 10000 23 (.agg #[.int .u8 d.mac.a, .int .u8 d.mac.b, .int .u8 d.mac.c, .int .u8 d.mac.d, .int .u8 d.mac.e, .int .u8 d.mac.f]) (.agg #[.int .u8 d.mac.a, .int .u8 d.mac.b, .int .u8 d.mac.c, .int .u8 d.mac.d, .int .u8 d.mac.e, .int .u8 d.mac.f])).run Try.prog w = .ok true w := fun w => (eqMac d.mac d.mac w).trans (by simp)
            clear hb6 hW7 h7 hW8 h8 hb8 hb28 HFD HCS HCU cu cq2
            go_upto_region 31 with (rw [← HW7.out]; clear HW7; refine wpList_store_row rfl 23 _ _ rfl g7 (macC d.mac) rfl rfl 23 _ H7.out size6 rfl (macC_one _) ?_; rw [← HW8.out]; clear HW8)
            go_quiet (fail)
            go_wp2
            go_roundw
            case rel => exact ⟨j + 1, hjl, by go_num, below_drewN HB28.out _⟩
            case measure => simp [RowKit.intOf]; omega
          · have hji : ¬ ((j : Int) < L.length) := by omega
            have hbo2 := HBO1.out.later HB.out
            have h10v := (HB.out.block g10 (Array.getElem?_eq_some_iff.1 H101.out).1).trans H101.out
            have cip := cell_of h10v (i := 1) (v := .int .u32 s.ip) rfl
            have HFD := hid (Find_any V2 p m S own ip L s.ip hbo2.pe HSK.out.1)
            have HBO2 := hid hbo2
            have H10V := hid h10v
            clear hbo2 h10v cq2
            go_wp2_with fail
            refine HFD.out.mono ?_
            rintro e w6 ⟨rfl, hb6⟩
            obtain ⟨g7, hg7⟩ : ∃ g, w6.heap.size = g := ⟨_, rfl⟩
            obtain ⟨W7, hW7, h7, W8, hW8, h8, hb8⟩ := box6 w6 (findM L s.ip)
            have hb28 := hb6.trans (hb8.mono hb6.size)
            have hbo8 := HBO2.out.later hb28
            have h10w := (hb28.block g10 (Array.getElem?_eq_some_iff.1 H10V.out).1).trans H10V.out
            have cip8 := cell_of h10w (i := 1) (v := .int .u32 s.ip) rfl
            have HRF := hid (rFind_any W8 q T own ip L s.ip hbo8.rp (fun b hb => (hbo8.t b hb).2))
            generalize findM L s.ip = fm at *
            generalize (lookP L s.ip).isSome = fb at *
            rw [hg7] at h7 hW8 h8
            have H7 := hid h7
            have H8 := hid h8
            have HW7 := hid hW7
            have HW8 := hid hW8
            have HBO8 := hid hbo8
            clear hb6 hW7 h7 hW8 h8 hb8 hb28 hbo8 h10w HFD cip
            go_upto_region 34 with (rw [← HW7.out]; clear HW7; refine wpList_store_row rfl 23 _ _ rfl g7 (macC fm) rfl rfl 23 _ H7.out size6 rfl (macC_one _) ?_; rw [← HW8.out]; clear HW8)
            go_wp2_with fail
            refine HRF.out.mono ?_
            rintro e w9 ⟨rfl, hb9⟩
            obtain ⟨g11, hg11⟩ : ∃ g, w9.heap.size = g := ⟨_, rfl⟩
            obtain ⟨W11, hW11, h11, W12, hW12, h12, hb12⟩ := box6 w9 fm
            have hb812 := hb9.trans (hb12.mono hb9.size)
            have H87 := hid ((hb812.block g7 (Array.getElem?_eq_some_iff.1 H8.out).1).trans H8.out)
            have HBOZ := hid (HBO8.out.later hb812)
            rw [hg11] at h11 hW12 h12
            have H11 := hid h11
            have H12 := hid h12
            have HW11 := hid hW11
            have HW12 := hid hW12
            have hq := fun (m k : Mac) (w : World) => eqMac m k w
            clear hb9 hW11 h11 hW12 h12 hb12 hb812 HRF cip8
            go_upto_region 35 with (rw [← HW11.out]; clear HW11; refine wpList_store_row rfl 23 _ _ rfl g11 (macC fm) rfl rfl 23 _ H11.out size6 rfl (macC_one _) ?_; rw [← HW12.out]; clear HW12)
            go_wp2_with (first
              | (refine wpList_load_row rfl 23 _ rfl g7 rfl 23 _ (0, 0) _ H87.out Try.underlying23 rfl size6 ?_)
              | (refine wpList_load_row rfl 23 _ rfl g11 rfl 23 _ (0, 0) _ H12.out Try.underlying23 rfl size6 ?_))
            go_roundw
            case rel => exact ⟨k + 1, S, T, m, L, hlt2, by go_num, HBOZ.out, HM.out⟩
            case measure => simp [RowKit.intOf]; omega
      · have hki : (k : Int) < n := by have := HL.out; omega
        have hkj : ¬ ((k : Int) < 60) := by omega
        have HBE := hid hbo.bel
        clear hbo
        go_wp2
        go_ret
        exact ⟨rfl, by first | exact HBE.out | (have hz := HBE.out; rw [HWG.out] at hz; exact hz)⟩
    · have hki : ¬ ((k : Int) < n) := by have := HL.out; omega
      have HBE := hid hbo.bel
      clear hbo
      go_wp2
      go_ret
      exact ⟨rfl, by first | exact HBE.out | (have hz := HBE.out; rw [HWG.out] at hz; exact hz)⟩
end Go.Proofs.Ytlflbpemjlgdiaa
