/- EtherKnown. -/
import Derived.Test.YtlflbpemjlgdiaaEgA
namespace Go.Proofs.Ytlflbpemjlgdiaa
open Go.RowKit Go.Maps
set_option linter.unusedVariables false

def mO : Mac := ⟨1, 0, 0, 0, 0, 0⟩
theorem mO_ok : mO.ok := by intro x hx; simp [mO, Mac.l] at hx; unfold IsB; omega
theorem isU5 : IsU 5 := by unfold IsU; omega
theorem isU0 : IsU 0 := by unfold IsU; omega
set_option maxRecDepth 100000 in
set_option maxHeartbeats 8000000 in
theorem EtherKnown_walk (w : World) (a : Option Addr) (n c : Nat) (ips : List Int) (hl : ips.length = n) (hn : n ≤ maxLen) (hu : UT w (fun _ => True) a ips) :
    Calls Try.prog 6 #[.slice a n c] w fun e w' => e = .returned (.bool true) ∧ Below w.heap.size w w' := by
  have HIP := hid hu
  have HL := hid hl
  have HNM := hid hn
  clear hu hl hn
  go_enter Try.func6, Try.ntmps6
  go_wp2_with (go_at_call 7; refine (known_any w).mono ?_; rintro e w1 ⟨rfl, hb1⟩; have HB1 := hid hb1; clear hb1)
  refine (New_any w1 mO 5 mO_ok isU5).mono ?_
  rintro e w2 ⟨p, S0, rfl, hpe2, hb2, hs2⟩
  have HPE2 := hid hpe2
  have HB2 := hid (HB1.out.trans (hb2.mono HB1.out.size))
  have HS2 : Hid (∀ b, S0 b → w.heap.size ≤ b ∧ b < w2.heap.size) := hid (fun b hb => ⟨Nat.le_trans HB1.out.size (hs2 b hb).1, (hs2 b hb).2⟩)
  clear hpe2 hb2 hs2
  go_wp2
  go_loopw [4, 5] (fun v i wr => ∃ (k : Nat) (S : Nat → Prop) (m : Nat) (L : List Pe) (ra : Option Addr) (rc : Nat), k ≤ 100 ∧ i = .int .i64 k ∧ v = .slice ra L.length rc ∧ L.length ≤ rc ∧ UT wr (fun b => w.heap.size ≤ b ∧ ¬ S b) ra (L.map Pe.ip) ∧ PeAt wr p S mO 5 m L ∧ (∀ b, S b → w.heap.size ≤ b ∧ b < wr.heap.size) ∧ Below w.heap.size w wr ∧ m ≤ k) (fun _ i _ => 100 - (RowKit.intOf i).toNat)
  case atStart => exact ⟨0, S0, 0, [], none, 0, Nat.zero_le _, rfl, rfl, Nat.le_refl _, UT.nil _ _ _, HPE2.out, HS2.out, HB2.out, Nat.le_refl _⟩
  case round =>
    obtain ⟨k, S, m, L, ra, rc, hk, rfl, rfl, hca, hUT, hPE, hSS, hBV, hmk⟩ := hrel
    rename World => V
    by_cases hlt : k < ips.length
    · by_cases hlt2 : k < 100
      · have hln := HL.out
        obtain ⟨b0, o0, e0, c0', hxu⟩ := (HIP.out.later hBV).at_ (i := k) hlt
        subst e0
        generalize ips.getD k 0 = y at *
        obtain ⟨x, hx⟩ : ∃ x, y % 40 = x := ⟨_, rfl⟩
        unfold IsU at hxu
        have hxb : 0 ≤ x ∧ x < 40 := by omega
        have hki : (k : Int) < n := by omega
        have hkj : (k : Int) < 100 := by omega
        have hrem : IntKind.u32.wrap (y.tmod 40) = x := by rw [Int.tmod_eq_emod_of_nonneg hxu.1, hx]; exact IntWalk.u32_in _ (by omega)
        have hrem2 : y.tmod 40 = x := by rw [Int.tmod_eq_emod_of_nonneg hxu.1, hx]
        have hwx : IntKind.u8.wrap x = x := IntWalk.u8_in _ (by omega)
        have hwk : IntKind.u8.wrap (k : Int) = k := IntWalk.u8_in _ (by omega)
        have hmok : (⟨x, k, 0, 0, 0, 0⟩ : Mac).ok := by intro z hz; simp [Mac.l] at hz; unfold IsB; omega
        have HLN := hid (Learn_any V p m S mO 5 L x ⟨x, k, 0, 0, 0, 0⟩ hPE (fun b hb => (hSS b hb).2) (by unfold IsU; omega) hmok (by omega))
        clear hmok hrem
        go_wp2_with fail
        refine HLN.out.mono ?_
        rintro e w3 ⟨rfl, S', m', hpe3, hm3, hk3, hs3⟩
        have hut3 : UT w3 (fun b => w.heap.size ≤ b ∧ ¬ S' b) ra (L.map Pe.ip) := ((hUT.weak (T' := fun b => (w.heap.size ≤ b ∧ ¬ S b) ∧ b < V.heap.size) (fun b hb hl => ⟨hb, hl⟩)).keep hk3.2.size (fun b hb hl => hk3.2.block b hl hb.1.2)).weak (fun b hb hl => ⟨hb.1.1, fun e => by
          rcases hk3.1 b e with h1 | h1
          · exact hb.1.2 h1
          · have := hb.2; omega⟩)
        have hss3 : ∀ b, S' b → w.heap.size ≤ b ∧ b < w3.heap.size := fun b hb => ⟨by
          rcases hk3.1 b hb with h1 | h1
          · exact (hSS b h1).1
          · exact Nat.le_trans hBV.size h1, hs3 b hb⟩
        have hb3 := (hk3.below0 hBV (fun b hb => (hSS b hb).1)).1
        have HUT3 := hid hut3
        have HSS3 := hid hss3
        have HB3 := hid hb3
        have HPE3 := hid hpe3
        have HM3 : Hid (m' ≤ k + 1) := hid (by omega)
        have HCA := hid hca
        have HOK := hid hPE.okL
        have hl16 := hPE.okL.len
        clear hUT hPE hSS hBV hmk hca hpe3 hm3 hk3 hs3 hut3 hss3 hb3 HLN
        by_cases hx0 : x = 0
        · subst hx0
          go_wp2
          go_roundw
          case rel => exact ⟨k + 1, S', m', L, ra, rc, hlt2, by go_num, rfl, HCA.out, HUT3.out, by have := HPE3.out; rw [learn_zero] at this; exact this, HSS3.out, HB3.out, HM3.out⟩
          case measure => simp [RowKit.intOf]; omega
        · have hx0' : (x == 0) = false := by simpa using hx0
          obtain ⟨F, hF⟩ : ∃ F : Nat → List Int, F = fun j => ((L.map Pe.ip).take j).filter (fun y => !decide (y = x)) := ⟨_, rfl⟩
          have HF0 : Hid (F 0 = []) := hid (by rw [hF]; simp)
          have HFS : Hid (∀ j, j < L.length → F (j + 1) = F j ++ (if (!decide ((L.map Pe.ip).getD j 0 = x)) = true then [(L.map Pe.ip).getD j 0] else [])) := hid (fun j hj => by rw [hF]; exact filter_snoc (L.map Pe.ip) j (by simpa using hj) _)
          have HFN : Hid (F L.length ++ [x] = rowL (L.map Pe.ip) x) := hid (by rw [hF]; unfold rowL; show List.filter _ (List.take L.length (L.map Pe.ip)) ++ [x] = _; rw [List.take_of_length_le (by simp)])
          have HFL : Hid (∀ j, (F j).length ≤ 16) := hid (fun j => by rw [hF]; refine Nat.le_trans (List.length_filter_le _ _) ?_; rw [List.length_take, List.length_map]; omega)
          have HFU : Hid (∀ j, ∀ y ∈ F j, IsU y) := hid (fun j y hy => by
            rw [hF] at hy
            obtain ⟨e, he, rfl⟩ := List.mem_map.1 (List.mem_of_mem_take (List.mem_filter.1 hy).1)
            exact (HOK.out.ok e he).1)
          have HXU : Hid (IsU x) := hid (by unfold IsU; omega)
          have HLK := hid (learn_look L x ⟨x, k, 0, 0, 0, 0⟩ hx0)
          have HLR0 := hid (learn_row L x ⟨x, k, 0, 0, 0, 0⟩ hx0)
          clear hF
          go_wp2
          go_loopw [7, 8] (fun v i wr => ∃ (j : Nat) (ra2 : Option Addr) (rc2 : Nat), j ≤ L.length ∧ i = .int .i64 j ∧ v = .slice ra2 (F j).length rc2 ∧ wr.ownsRow w3.heap.size 40 1 (.slice ra2 (F j).length rc2) (F j).length (u32v (F j)) ∧ Below w3.heap.size w3 wr) (fun _ i _ => L.length - (RowKit.intOf i).toNat)
          case atStart => exact ⟨0, none, 0, Nat.zero_le _, rfl, by rw [HF0.out]; rfl, by rw [HF0.out]; exact ⟨by simp, .inl ⟨rfl, rfl⟩⟩, Below.refl _ _⟩
          case round =>
            obtain ⟨j, ra2, rc2, hj, rfl, rfl, ho, hb⟩ := hrel
            rename World => V2
            by_cases hjl : j < L.length
            · obtain ⟨b1, o1, e1, c1, _⟩ := (HUT3.out.later hb).at_ (i := j) (by simpa using hjl)
              subst e1
              have hfs := HFS.out j hjl
              generalize (L.map Pe.ip).getD j 0 = y' at *
              have hfl := HFL.out j
              obtain ⟨fn, hfn⟩ : ∃ fn, (F j).length = fn := ⟨_, rfl⟩
              rw [hfn] at ho hfl ⊢
              by_cases hyx : y' = x
              · have hyx' : (y' != x) = false := by simpa using hyx
                have HFE : Hid (F (j + 1) = F j) := hid (by rw [hfs, hyx]; simp)
                have HO := hid ho
                have HB := hid hb
                have HFN2 := hid hfn
                clear hfs ho hb hfn
                subst hyx
                go_wp2
                go_roundw
                case rel => exact ⟨j + 1, ra2, rc2, hjl, by go_num, by rw [HFE.out, HFN2.out], by rw [HFE.out, HFN2.out]; exact HO.out, HB.out⟩
                case measure => simp [RowKit.intOf]; omega
              · have hyx' : (y' != x) = true := by simpa using hyx
                have HFE : Hid (F (j + 1) = F j ++ [y']) := hid (by rw [hfs]; simp [hyx])
                obtain ⟨a7, c7, w7, hap, ho7, hb7⟩ := pushU V2 w3.heap.size ra2 fn rc2 (F j) hfn ho hb.size y' (by omega)
                have HO7 := hid ho7
                have HB7 := hid (hb.trans hb7)
                have HFN2 := hid hfn
                clear hfs ho hb hfn ho7 hb7 hyx
                go_wp2_with (at_builtin; refine wpList_append_run rfl _ _ 52 rfl rfl rfl hap ?_)
                go_roundw
                case rel => exact ⟨j + 1, a7, c7, hjl, by go_num, by rw [HFE.out, List.length_append, HFN2.out]; rfl, by rw [HFE.out, List.length_append, HFN2.out]; exact HO7.out, HB7.out⟩
                case measure => simp [RowKit.intOf]; omega
            · obtain rfl : j = L.length := by omega
              have hfl := HFL.out L.length
              obtain ⟨fn, hfn⟩ : ∃ fn, (F L.length).length = fn := ⟨_, rfl⟩
              rw [hfn] at ho hfl ⊢
              obtain ⟨a7, c7, w7, hap, ho7, hb7⟩ := pushU V2 w3.heap.size ra2 fn rc2 (F L.length) hfn ho hb.size x (by omega)
              rw [HFN.out] at ho7
              have hisu : ∀ y ∈ rowL (L.map Pe.ip) x, IsU y := fun y hy => by
                rw [← HFN.out] at hy
                rcases List.mem_append.1 hy with h1 | h1
                · exact HFU.out _ y h1
                · simp at h1; subst h1; exact HXU.out
              have hrl : (rowL (L.map Pe.ip) x).length = fn + 1 := by rw [← HFN.out, List.length_append, hfn]; rfl
              obtain ⟨a8, c8, e8, hc8, _, hu8⟩ := UT.of_owns (T := fun b => w3.heap.size ≤ b) ho7 hisu (fun g hg => (owns_lt ho7 hg).2)
              simp only [Value.slice.injEq, true_and] at e8
              obtain ⟨rfl, rfl⟩ := e8
              have HB7 := hid (hb.trans hb7)
              have HU8 := hid hu8
              have HC8 := hid hc8
              clear ho hb hfn ho7 hb7 hu8 hisu hc8
              by_cases h16 : 16 < fn + 1
              · obtain rfl : fn = 16 := by omega
                obtain ⟨b8, o8, e8, _, _⟩ := HU8.out.at_ (i := 0) (by rw [hrl]; omega)
                subst e8
                have hcut := cut1_run b8 o8 17 c7 (by omega) HC8.out
                have HUD := hid HU8.out.drop1
                have HLR : Hid ((learnL L x ⟨x, k, 0, 0, 0, 0⟩).map Pe.ip = (rowL (L.map Pe.ip) x).drop 1) := hid (by rw [HLR0.out, if_pos (by rw [hrl]; omega)])
                have hrl1 : ((rowL (L.map Pe.ip) x).drop 1).length = 16 := by rw [List.length_drop, hrl]
                have HRL1 := hid hrl1
                clear hrl hrl1
                have HC9 : Hid (16 ≤ c7 - 1) := hid (by have := HC8.out; omega)
                go_upto_region 22 with (at_builtin; refine wpList_append_run rfl _ _ 52 rfl rfl rfl hap ?_)
                have HFD := hid (Find_any w7 p m' S' mO 5 (learnL L x ⟨x, k, 0, 0, 0, 0⟩) x (HPE3.out.later HB7.out) HXU.out)
                rw [show findM (learnL L x ⟨x, k, 0, 0, 0, 0⟩) x = ⟨x, k, 0, 0, 0, 0⟩ by unfold findM; rw [HLK.out]; rfl, HLK.out, show (some (⟨x, ⟨x, k, 0, 0, 0, 0⟩⟩ : Pe)).isSome = true from rfl] at HFD
                go_wp2_with fail
                refine HFD.out.mono ?_
                rintro e w6 ⟨rfl, hb6⟩
                obtain ⟨g7, hg7⟩ : ∃ g, w6.heap.size = g := ⟨_, rfl⟩
                obtain ⟨W7, hW7, h7, W8, hW8, h8, hb8⟩ := box6 w6 ⟨x, k, 0, 0, 0, 0⟩
                have hbb := (HB7.out).trans (hb6.mono (HB7.out).size)
                have hbc := hbb.trans (hb8.mono hbb.size)
                have HB38 := hid hbc
                rw [hg7] at h7 hW8 h8
                have H7 := hid h7
                have HW7 := hid hW7
                have HW8 := hid hW8
                have q0 := cell_of h8 (i := 0) (v := .int .u8 x) rfl
                have q1 := cell_of h8 (i := 1) (v := .int .u8 k) rfl
                have q2 := cell_of h8 (i := 2) (v := .int .u8 0) rfl
                have q3 := cell_of h8 (i := 3) (v := .int .u8 0) rfl
                have q4 := cell_of h8 (i := 4) (v := .int .u8 0) rfl
                have q5 := cell_of h8 (i := 5) (v := .int .u8 0) rfl
                have qe : ∀ w, (Op.equalIn 10000 23 (.agg #[.int .u8 x, .int .u8 k, .int .u8 0, .int .u8 0, .int .u8 0, .int .u8 0]) (.agg #[.int .u8 x, .int .u8 k, .int .u8 0, .int .u8 0, .int .u8 0, .int .u8 0])).run Try.prog w = .ok true w := fun w => (eqMac ⟨x, k, 0, 0, 0, 0⟩ ⟨x, k, 0, 0, 0, 0⟩ w).trans (by simp)
                have HUT8 := hid (HUD.out.later (hb6.trans (hb8.mono hb6.size)))
                clear hb6 hW7 h7 hW8 h8 hb8 hbb hbc HFD
                go_wp2_with (rw [← HW7.out]; clear HW7; refine wpList_store_row rfl 23 _ _ rfl g7 (macC ⟨x, k, 0, 0, 0, 0⟩) rfl rfl 23 _ H7.out size6 rfl (macC_one _) ?_; rw [← HW8.out]; clear HW8)
                go_roundw
                case rel =>
                  have hB38 := HB38.out
                  have hlr : (learnL L x ⟨x, k, 0, 0, 0, 0⟩).length = 16 := by have h1 := congrArg List.length HLR.out; rw [HRL1.out, List.length_map] at h1; exact h1
                  refine ⟨k + 1, S', m', learnL L x ⟨x, k, 0, 0, 0, 0⟩, _, _, hlt2, by go_num, by rw [hlr], by rw [hlr]; exact HC9.out, ?_, HPE3.out.later hB38, fun b hb => ⟨(HSS3.out b hb).1, Nat.lt_of_lt_of_le (HSS3.out b hb).2 hB38.size⟩, HB3.out.trans (hB38.mono HB3.out.size), HM3.out⟩
                  rw [HLR.out]
                  exact HUT8.out.weak (fun b hb _ => ⟨Nat.le_trans HB3.out.size hb, fun e => by have := (HSS3.out b e).2; omega⟩)
                case measure => simp [RowKit.intOf]; omega
              · have HLR : Hid ((learnL L x ⟨x, k, 0, 0, 0, 0⟩).map Pe.ip = rowL (L.map Pe.ip) x) := hid (by rw [HLR0.out, if_neg (by rw [hrl]; omega)])
                have h16i : ¬ ((16 : Int) < ((fn + 1 : Nat) : Int)) := by omega
                have h16j : ¬ ((16 : Int) < (fn : Int) + 1) := by omega
                have HRL1 := hid hrl
                clear hrl
                go_upto_region 22 with (at_builtin; refine wpList_append_run rfl _ _ 52 rfl rfl rfl hap ?_)
                have HFD := hid (Find_any w7 p m' S' mO 5 (learnL L x ⟨x, k, 0, 0, 0, 0⟩) x (HPE3.out.later HB7.out) HXU.out)
                rw [show findM (learnL L x ⟨x, k, 0, 0, 0, 0⟩) x = ⟨x, k, 0, 0, 0, 0⟩ by unfold findM; rw [HLK.out]; rfl, HLK.out, show (some (⟨x, ⟨x, k, 0, 0, 0, 0⟩⟩ : Pe)).isSome = true from rfl] at HFD
                go_wp2_with fail
                refine HFD.out.mono ?_
                rintro e w6 ⟨rfl, hb6⟩
                obtain ⟨g7, hg7⟩ : ∃ g, w6.heap.size = g := ⟨_, rfl⟩
                obtain ⟨W7, hW7, h7, W8, hW8, h8, hb8⟩ := box6 w6 ⟨x, k, 0, 0, 0, 0⟩
                have hbb := (HB7.out).trans (hb6.mono (HB7.out).size)
                have hbc := hbb.trans (hb8.mono hbb.size)
                have HB38 := hid hbc
                rw [hg7] at h7 hW8 h8
                have H7 := hid h7
                have HW7 := hid hW7
                have HW8 := hid hW8
                have q0 := cell_of h8 (i := 0) (v := .int .u8 x) rfl
                have q1 := cell_of h8 (i := 1) (v := .int .u8 k) rfl
                have q2 := cell_of h8 (i := 2) (v := .int .u8 0) rfl
                have q3 := cell_of h8 (i := 3) (v := .int .u8 0) rfl
                have q4 := cell_of h8 (i := 4) (v := .int .u8 0) rfl
                have q5 := cell_of h8 (i := 5) (v := .int .u8 0) rfl
                have qe : ∀ w, (Op.equalIn 10000 23 (.agg #[.int .u8 x, .int .u8 k, .int .u8 0, .int .u8 0, .int .u8 0, .int .u8 0]) (.agg #[.int .u8 x, .int .u8 k, .int .u8 0, .int .u8 0, .int .u8 0, .int .u8 0])).run Try.prog w = .ok true w := fun w => (eqMac ⟨x, k, 0, 0, 0, 0⟩ ⟨x, k, 0, 0, 0, 0⟩ w).trans (by simp)
                have HUT8 := hid (HU8.out.later (hb6.trans (hb8.mono hb6.size)))
                clear hb6 hW7 h7 hW8 h8 hb8 hbb hbc HFD
                go_wp2_with (rw [← HW7.out]; clear HW7; refine wpList_store_row rfl 23 _ _ rfl g7 (macC ⟨x, k, 0, 0, 0, 0⟩) rfl rfl 23 _ H7.out size6 rfl (macC_one _) ?_; rw [← HW8.out]; clear HW8)
                go_roundw
                case rel =>
                  have hB38 := HB38.out
                  have hlr : (learnL L x ⟨x, k, 0, 0, 0, 0⟩).length = fn + 1 := by have h1 := congrArg List.length HLR.out; rw [HRL1.out, List.length_map] at h1; exact h1
                  refine ⟨k + 1, S', m', learnL L x ⟨x, k, 0, 0, 0, 0⟩, _, _, hlt2, by go_num, by rw [hlr], by rw [hlr]; exact HC8.out, ?_, HPE3.out.later hB38, fun b hb => ⟨(HSS3.out b hb).1, Nat.lt_of_lt_of_le (HSS3.out b hb).2 hB38.size⟩, HB3.out.trans (hB38.mono HB3.out.size), HM3.out⟩
                  rw [HLR.out]
                  exact HUT8.out.weak (fun b hb _ => ⟨Nat.le_trans HB3.out.size hb, fun e => by have := (HSS3.out b e).2; omega⟩)
                case measure => simp [RowKit.intOf]; omega
      · have hki : (k : Int) < n := by have := HL.out; omega
        have hkj : ¬ ((k : Int) < 100) := by omega
        have HKA := hid (Known_any V p m S mO 5 L hPE)
        have HZ : Hid (lookP L 0 = none) := hid (look_none.2 (fun e he => (hPE.okL.ok e he).2.1))
        have HPE := hid hPE
        have HUT := hid hUT
        have HBV := hid hBV
        have HIS := hid (fun x (hx : x ∈ L.map Pe.ip) => show IsU x by obtain ⟨e, he, rfl⟩ := List.mem_map.1 hx; exact (hPE.okL.ok e he).1)
        have hl16 := hPE.okL.len
        clear hPE hUT hBV hSS hca hmk
        go_wp2_with (go_at_call 21; refine HKA.out.mono ?_; rintro e w5 ⟨v5, rfl, ho5, hb5⟩; obtain ⟨a5, c5, e5, hc5, hl5, hu5⟩ := UT.of_owns (T := fun _ => True) ho5 HIS.out (fun _ _ => trivial); subst e5; have HU5 := hid hu5; have HB5 := hid (HBV.out.trans (hb5.mono HBV.out.size)); have HUT5 := hid (HUT.out.later hb5); have HPE5 := hid (HPE.out.later hb5); clear ho5 hb5 hc5 hl5 hu5)
        go_loopw [12] (fun i wr => ∃ j : Nat, j ≤ L.length ∧ i = .int .i64 j ∧ Below w5.heap.size w5 wr) (fun i _ => L.length - (RowKit.intOf i).toNat)
        case atStart => exact ⟨0, Nat.zero_le _, rfl, Below.refl _ _⟩
        case round =>
          obtain ⟨j, hj, rfl, hb⟩ := hrel
          have HB := hid hb
          clear hb
          by_cases hlt : j < L.length
          · obtain ⟨b1, o1, e1, c1, _⟩ := (HU5.out.later HB.out).at_ (i := j) (by simpa using hlt)
            obtain ⟨b2, o2, e2, c2, _⟩ := (HUT5.out.later HB.out).at_ (i := j) (by simpa using hlt)
            subst e1 e2
            generalize (L.map Pe.ip).getD j 0 = y at *
            rename World => V2
            go_upto_region 31 with fail
            go_quiet (fail)
            go_wp2
            go_roundw
            case rel => exact ⟨j + 1, hlt, by go_num, below_drewN HB.out _⟩
            case measure => simp [RowKit.intOf]; omega
          · have HFD := hid (Find_any wr p m S mO 5 L 0 (HPE5.out.later HB.out) isU0)
            rw [HZ.out] at HFD
            go_wp2_with fail
            refine HFD.out.mono ?_
            rintro e w6 ⟨rfl, hb6⟩
            obtain ⟨g7, hg7⟩ : ∃ g, w6.heap.size = g := ⟨_, rfl⟩
            obtain ⟨W7, hW7, h7, W8, hW8, h8, hb8⟩ := box6 w6 (findM L 0)
            have hbb := HB.out.trans (hb6.mono HB.out.size)
            have hbc := HB5.out.trans (hbb.mono HB5.out.size)
            have HB8 := hid (hbc.trans (hb8.mono hbc.size))
            rw [hg7] at h7 hW8
            have H7 := hid h7
            have HW7 := hid hW7
            have HW8 := hid hW8
            generalize findM L 0 = mz at *
            clear hb6 hW7 h7 hW8 h8 hb8 hbb hbc
            go_wp2_with (rw [← HW7.out]; clear HW7; refine wpList_store_row rfl 23 _ _ rfl g7 (macC mz) rfl rfl 23 _ H7.out size6 rfl (macC_one _) ?_; rw [← HW8.out]; clear HW8)
            go_ret
            exact ⟨rfl, HB8.out⟩
    · have hki : ¬ ((k : Int) < n) := by have := HL.out; omega
      have HKA := hid (Known_any V p m S mO 5 L hPE)
      have HZ : Hid (lookP L 0 = none) := hid (look_none.2 (fun e he => (hPE.okL.ok e he).2.1))
      have HPE := hid hPE
      have HUT := hid hUT
      have HBV := hid hBV
      have HIS := hid (fun x (hx : x ∈ L.map Pe.ip) => show IsU x by obtain ⟨e, he, rfl⟩ := List.mem_map.1 hx; exact (hPE.okL.ok e he).1)
      have hl16 := hPE.okL.len
      clear hPE hUT hBV hSS hca hmk
      go_wp2_with (go_at_call 21; refine HKA.out.mono ?_; rintro e w5 ⟨v5, rfl, ho5, hb5⟩; obtain ⟨a5, c5, e5, hc5, hl5, hu5⟩ := UT.of_owns (T := fun _ => True) ho5 HIS.out (fun _ _ => trivial); subst e5; have HU5 := hid hu5; have HB5 := hid (HBV.out.trans (hb5.mono HBV.out.size)); have HUT5 := hid (HUT.out.later hb5); have HPE5 := hid (HPE.out.later hb5); clear ho5 hb5 hc5 hl5 hu5)
      go_loopw [12] (fun i wr => ∃ j : Nat, j ≤ L.length ∧ i = .int .i64 j ∧ Below w5.heap.size w5 wr) (fun i _ => L.length - (RowKit.intOf i).toNat)
      case atStart => exact ⟨0, Nat.zero_le _, rfl, Below.refl _ _⟩
      case round =>
        obtain ⟨j, hj, rfl, hb⟩ := hrel
        have HB := hid hb
        clear hb
        by_cases hlt : j < L.length
        · obtain ⟨b1, o1, e1, c1, _⟩ := (HU5.out.later HB.out).at_ (i := j) (by simpa using hlt)
          obtain ⟨b2, o2, e2, c2, _⟩ := (HUT5.out.later HB.out).at_ (i := j) (by simpa using hlt)
          subst e1 e2
          generalize (L.map Pe.ip).getD j 0 = y at *
          rename World => V2
          go_upto_region 31 with fail
          go_quiet (fail)
          go_wp2
          go_roundw
          case rel => exact ⟨j + 1, hlt, by go_num, below_drewN HB.out _⟩
          case measure => simp [RowKit.intOf]; omega
        · have HFD := hid (Find_any wr p m S mO 5 L 0 (HPE5.out.later HB.out) isU0)
          rw [HZ.out] at HFD
          go_wp2_with fail
          refine HFD.out.mono ?_
          rintro e w6 ⟨rfl, hb6⟩
          obtain ⟨g7, hg7⟩ : ∃ g, w6.heap.size = g := ⟨_, rfl⟩
          obtain ⟨W7, hW7, h7, W8, hW8, h8, hb8⟩ := box6 w6 (findM L 0)
          have hbb := HB.out.trans (hb6.mono HB.out.size)
          have hbc := HB5.out.trans (hbb.mono HB5.out.size)
          have HB8 := hid (hbc.trans (hb8.mono hbc.size))
          rw [hg7] at h7 hW8
          have H7 := hid h7
          have HW7 := hid hW7
          have HW8 := hid hW8
          generalize findM L 0 = mz at *
          clear hb6 hW7 h7 hW8 h8 hb8 hbb hbc
          go_wp2_with (rw [← HW7.out]; clear HW7; refine wpList_store_row rfl 23 _ _ rfl g7 (macC mz) rfl rfl 23 _ H7.out size6 rfl (macC_one _) ?_; rw [← HW8.out]; clear HW8)
          go_ret
          exact ⟨rfl, HB8.out⟩
end Go.Proofs.Ytlflbpemjlgdiaa
