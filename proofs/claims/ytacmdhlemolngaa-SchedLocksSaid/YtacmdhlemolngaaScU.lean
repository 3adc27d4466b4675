/- SchedTurns: the law. -/
import Derived.Test.YtacmdhlemolngaaScT
namespace Go.Proofs.Ytacmdhlemolngaa
open Go.RowKit Go.Maps

theorem wrap_small (q : Nat) (h : q < 1000000) : IntKind.i64.wrap (q : Int) = q := IntWalk.i64_in _ (by omega)
theorem Tm.add {w0 w : World} {lab : Nat → Own} {cs : List Nat} {v v' : Value} {w' : World} (h : Tm w0 w lab cs v (fun _ => 0)) (hlt : ∀ b, lab b ≠ .no → b < w.heap.size) (c : Nat) (hc : w.heap.size ≤ c) (hcc : w'.heap[c]? = some (.cells #[.int .i64 0] 77 (0, 0))) (hm : Mods (fun b => v.ownBlock = some b) w w') (hr : w'.ownsRow 0 75 1 v' (cs ++ [c]).length (ptrs (cs ++ [c]))) (hv : ∀ g, v'.ownBlock = some g → v.ownBlock = some g ∨ (w.heap.size ≤ g ∧ g ≠ c)) :
    Tm w0 w' lab (cs ++ [c]) v' (fun _ => 0) := by
  have hno : ∀ b, w.heap.size ≤ b → lab b = .no := fun b hb => by
    cases e : lab b <;> first | rfl | (have := hlt b (by rw [e]; simp); omega)
  have hbel := h.bel.size
  refine ⟨fun i hi => ?_, ?_, hr, fun g hg => ?_, h.low, hm.to_below h.bel h.bel.size (fun b e => (h.rown b e).2.1)⟩
  · rw [List.length_append] at hi
    simp only [List.length_cons, List.length_nil] at hi
    by_cases e : i < cs.length
    · have eg : (cs ++ [c]).getD i 0 = cs.getD i 0 := by simp [List.getD, List.getElem?_append_left e]
      rw [eg]
      obtain ⟨h1, h2, h3⟩ := h.cell i e
      exact ⟨(hm.block _ (Array.getElem?_eq_some_iff.1 h1).1 (fun e2 => (h.rown _ e2).2.2 (getD_mem' cs i e))).trans h1, h2, h3⟩
    · have eg : (cs ++ [c]).getD i 0 = c := by
        have : i = cs.length := by omega
        subst this
        simp [List.getD]
      rw [eg]
      exact ⟨hcc, hno c hc, by omega⟩
  · rw [List.nodup_append]
    refine ⟨h.nd, by simp, fun a ha b hb e => ?_⟩
    simp at hb
    have := h.lt a ha
    omega
  · rcases hv g hg with e | ⟨e1, e2⟩
    · obtain ⟨h1, h2, h3⟩ := h.rown g e
      refine ⟨h1, h2, ?_⟩
      rw [List.mem_append]
      rintro (e3 | e3)
      · exact h3 e3
      · simp at e3
        have := (owns_lt h.row e).1
        omega
    · refine ⟨hno g e1, by omega, ?_⟩
      rw [List.mem_append]
      rintro (e3 | e3)
      · have := h.lt g e3; omega
      · simp at e3; exact e2 e3
set_option maxRecDepth 100000 in
set_option maxHeartbeats 8000000 in
theorem Turns_any (w0 : World) (x y : Int) :
    Calls Try.prog 7 #[.int .i64 x, .int .i64 y] w0 fun e w' => e = .returned (.bool true) ∧ Below w0.heap.size w0 w' := by
  have HKN := hid (known_any w0)
  obtain ⟨N, hN, hN1, hN2⟩ : ∃ N : Nat, 1 + wi x 9 = (N : Int) ∧ 1 ≤ N ∧ N ≤ 9 := by
    have := wi_bd x 9 (by omega)
    exact ⟨(1 + wi x 9).toNat, by omega, by omega, by omega⟩
  obtain ⟨K, hK, hK1⟩ : ∃ K : Nat, wi y 500 = (K : Int) ∧ K < 500 := by
    have := wi_bd y 500 (by omega)
    exact ⟨(wi y 500).toNat, by omega, by omega⟩
  have HW1 : Hid (∀ w : World, Calls Try.prog 24 #[.int .i64 x, .int .i64 9] w fun e w' => e = .returned (.int .i64 (wi x 9)) ∧ w' = w) := hid (fun w => within_any x 9 (by omega) (by omega) w)
  have HW2 : Hid (∀ w : World, Calls Try.prog 24 #[.int .i64 y, .int .i64 500] w fun e w' => e = .returned (.int .i64 (K : Int)) ∧ w' = w) := hid (fun w => by rw [← hK]; exact within_any y 500 (by omega) (by omega) w)
  have hwr : IntKind.i64.wrap (1 + wi x 9) = (N : Int) := by rw [hN]; exact IntWalk.i64_in _ (by omega)
  have HB := hid (And.intro hN1 (And.intro hN2 hK1))
  clear hN hK
  generalize wi x 9 = wx at *
  go_enter Try.func7, Try.ntmps7
  go_wp2_with fail
  refine HKN.out.mono ?_
  rintro e w1 ⟨rfl, hb1⟩
  have HB1 := hid hb1
  clear hb1
  go_wp2_with fail
  refine (HW1.out w1).mono ?_
  rintro e w2 ⟨rfl, hw2⟩
  rw [hw2]
  clear hw2
  go_wp2_with fail
  refine (HW2.out w1).mono ?_
  rintro e w2 ⟨rfl, hw2⟩
  rw [hw2]
  clear hw2
  go_wp2_with fail
  refine (New_any w1).mono ?_
  rintro e w2 ⟨p, lab, rfl, hS, hb2, hl⟩
  have HS := hid hS
  have HL : Hid (∀ b, b < w0.heap.size → lab b = .no) := hid (fun b hb => hl b (Nat.lt_of_lt_of_le hb HB1.out.size))
  have HB2 := hid (HB1.out.trans (hb2.mono HB1.out.size))
  clear hS hb2 hl
  go_wp2_with fail
  go_loopw [6, 7] (fun l i wr => ∃ (k : Nat) (lab1 : Nat → Own) (cs : List Nat), k ≤ N ∧ i = .int .i64 k ∧ cs.length = k ∧ Sc wr p lab1 (tS 75 cs 0) 0 ∧ Tm w0 wr lab1 cs l (fun _ => 0)) (fun _ i _ => N - (RowKit.intOf i).toNat)
  case atStart =>
    exact ⟨0, lab, [], Nat.zero_le _, rfl, rfl, HS.out, fun i hi => by simp at hi, by simp, ⟨rfl, .inl ⟨rfl, rfl⟩⟩, fun g hg => by simp [Value.ownBlock] at hg, HL.out, HB2.out⟩
  case round =>
    obtain ⟨k, lab1, cs, hk, rfl, hcs, hS1, hT1⟩ := hrel
    have HS1 := hid hS1
    have HT1 := hid hT1
    by_cases hlt : k < N
    · have hki : (k : Int) < N := by omega
      obtain ⟨W3, hW3⟩ : ∃ W3, W3 = wr.alloc (.cells #[.int .i64 0] 77) := ⟨_, rfl⟩
      have hb3 : Below wr.heap.size wr W3 := by rw [hW3]; exact (Below.refl _ _).alloc (Nat.le_refl _) _
      have hs3 : W3.heap.size = wr.heap.size + 1 := by rw [hW3]; simp
      have hc3 : W3.heap[wr.heap.size]? = some (.cells #[.int .i64 0] 77 (0, 0)) := by rw [hW3]; exact alloc_new wr _
      obtain ⟨W4, hW4⟩ : ∃ W4, W4 = W3.alloc (.cells #[.pointer (some ⟨wr.heap.size, 0, none⟩)] 75) := ⟨_, rfl⟩
      have hb4 : Below W3.heap.size W3 W4 := by rw [hW4]; exact (Below.refl _ _).alloc (Nat.le_refl _) _
      have hc4 : W4.heap[W3.heap.size]? = some (.cells #[.pointer (some ⟨wr.heap.size, 0, none⟩)] 75 (0, 0)) := by rw [hW4]; exact alloc_new W3 _
      have hb34 : Below wr.heap.size wr W4 := hb3.trans (hb4.mono hb3.size)
      have hs4 : W4.heap.size = W3.heap.size + 1 := by rw [hW4]; simp
      have hr4 : W4.ownsRow 0 75 1 u6 cs.length (ptrs cs) := owns_keep hT1.row (fun g hg => hb34.block g (owns_lt hT1.row hg).1)
      obtain ⟨v', w5, hap, ho, hm5, hob⟩ := appC_run W4 u6 cs hr4 W3.heap.size 1 wr.heap.size (cell_of hc4 rfl) (by omega) 74
      have hm : Mods (fun b => u6.ownBlock = some b) wr w5 := (Mods.of_below hb34).tr hm5
      have hcc : w5.heap[wr.heap.size]? = some (.cells #[.int .i64 0] 77 (0, 0)) := (hm5.block _ (by omega) (fun e => by have := (owns_lt hT1.row e).1; omega)).trans ((hb4.block _ (by omega)).trans hc3)
      have hT5 : Tm w0 w5 lab1 (cs ++ [wr.heap.size]) v' (fun _ => 0) := hT1.add hS1.lt wr.heap.size (Nat.le_refl _) hcc hm ho (fun g hg => by
        rcases hob with e | e
        · exact .inl (by rw [← e]; exact hg)
        · rw [e] at hg
          simp at hg
          exact .inr (by omega))
      have hS5 : Sc w5 p lab1 (tS 75 cs 0) 0 := hS1.outside hm (fun b e => (hT1.rown b e).1)
      have HSP := hid (Spawn_any hS5 ((tS_inv _ cs 0).fit (by rw [tS_len]; omega)) 75 wr.heap.size)
      rw [tS_spawn, tS_len] at HSP
      have HT5 := hid hT5
      have HLN : Hid (∀ z : List Nat, z = cs ++ [wr.heap.size] → z.length = k + 1) := hid (fun z hz => by rw [hz, List.length_append, hcs]; rfl)
      obtain ⟨a6, c6, e6⟩ := owns_slice hT1.row
      obtain ⟨a7, c7, e7⟩ := owns_slice ho
      subst e6 e7
      rw [hs3] at hap
      clear hS1 hT1 hb3 hc3 hb4 hc4 hb34 hr4 ho hm5 hob hm hcc hT5 hS5 hs4
      clear HS1 HT1
      generalize (cs ++ [wr.heap.size]).length = ln2 at *
      generalize cs.length = ln1 at *
      go_wp2_with (first | (at_builtin; rw [← hW3, ← hW4]; refine wpList_append_run rfl _ _ 74 rfl rfl rfl hap ?_) | (go_at_call 13; refine HSP.out.mono ?_; rintro e w6 ⟨rfl, lab6, h6, hK6⟩; have H6 := hid h6; have HT6 := hid (HT5.out.keep hK6); clear h6 hK6))
      go_roundw
      case rel => exact ⟨k + 1, lab6, cs ++ [wr.heap.size], by omega, by go_num, HLN.out _ rfl, H6.out, HT6.out⟩
      case measure => simp [RowKit.intOf]; omega
    · have hki : ¬ ((k : Int) < N) := by omega
      obtain rfl : k = N := by omega
      clear hS1 hT1
      obtain ⟨a6, c6, e6⟩ := owns_slice HT1.out.row
      subst e6
      have HCS := hid hcs
      rw [hcs] at HT1 ⊢
      clear hcs
      clear HS HL HB2 HB1 HW1 HW2 HKN
      go_wp2_with fail
      go_loopw [9] (fun i wr => ∃ (j : Nat) (lab2 : Nat → Own), j ≤ K ∧ i = .int .i64 j ∧ Sc wr p lab2 (tS 75 cs j) 0 ∧ Tm w0 wr lab2 cs (.slice a6 k c6) (cnt k j)) (fun i _ => K - (RowKit.intOf i).toNat)
      case atStart => exact ⟨0, lab1, Nat.zero_le _, rfl, HS1.out, HT1.out⟩
      case round =>
        obtain ⟨j, lab2, hj, rfl, hS2, hT2⟩ := hrel
        have HS2 := hid hS2
        have HT2 := hid hT2
        have hk0 : ¬ ((k : Int) = 0) := by omega
        by_cases hjl : j < K
        · have hji : (j : Int) < K := by omega
          have hcn : ∀ i, cnt k j i < 1000 := fun i => by
            have : ∀ m, cnt k m i ≤ m := fun m => by
              induction m with
              | zero => simp [cnt]
              | succ m ih => rw [cnt]; split <;> omega
            have := this j
            omega
          have HP := hid (pick_tn hS2 hT2 (by rw [HCS.out]; omega) (by rw [HCS.out]; omega) hcn)
          rw [HCS.out] at HP
          have hrm : (j : Int).tmod (k : Int) = ((j % k : Nat) : Int) := by rw [Int.tmod_eq_emod_of_nonneg (by omega)]; rfl
          have HC : Hid (∀ f : Nat → Nat, f = (fun i => cnt k j i + (if j % k = i then 1 else 0)) → f = cnt k (j + 1)) := hid (fun f hf => by rw [hf]; rfl)
          clear hS2 hT2 hcn
          generalize j % k = jk at *
          go_wp2_with (go_at_call 18; refine HP.out.mono ?_; rintro e w6 ⟨rfl, lab6, h6, hT6⟩; have H6 := hid h6; have HT6 := hid hT6; clear h6 hT6)
          go_roundw
          case rel => exact ⟨j + 1, lab6, by omega, by go_num, H6.out, by rw [← HC.out _ rfl]; exact HT6.out⟩
          case measure => simp [RowKit.intOf]; omega
        · have hji : ¬ ((j : Int) < K) := by omega
          obtain rfl : j = K := by omega
          clear hS2 hT2
          go_wp2_with fail
          go_loopw [12] (fun i wr => ∃ (m : Nat), m ≤ k ∧ i = .int .i64 m ∧ Tm w0 wr lab2 cs (.slice a6 k c6) (cnt k j)) (fun i _ => k - (RowKit.intOf i).toNat)
          case atStart => exact ⟨0, Nat.zero_le _, rfl, HT2.out⟩
          case round =>
            obtain ⟨m, hm, rfl, hT3⟩ := hrel
            have HT3 := hid hT3
            by_cases hml : m < k
            · have hmi : (m : Int) < k := by omega
              have hmc : m < cs.length := by rw [HCS.out]; exact hml
              obtain ⟨g, cg, e, _, _, _, _, hcell, _⟩ := owns_cells hT3.row (by omega)
              simp only [Value.slice.injEq] at e
              obtain ⟨rfl, hkc, rfl⟩ := e
              clear hkc
              have q1 := hcell m (.pointer (some ⟨cs.getD m 0, 0, none⟩)) (by simp [ptrs, List.getD, hmc])
              have q2 : wr.cell? ⟨cs.getD m 0, 0, none⟩ = some (.int .i64 (cnt k j m)) := cell_of (hT3.cell m hmc).1 rfl
              have hce := cnt_eq k (by omega) m hml j
              have hqu : (j : Int).tdiv (k : Int) = ((j / k : Nat) : Int) := by rw [Int.tdiv_eq_ediv_of_nonneg (by omega)]; rfl
              have HR : Hid (Tm w0 wr lab2 cs (.slice (some ⟨g, 0, none⟩) k c6) (cnt k j)) := hid hT3
              have hjk : j / k ≤ j := Nat.div_le_self _ _
              have hwd : IntKind.i64.wrap ((j : Int).tdiv (k : Int)) = ((j / k : Nat) : Int) := by rw [hqu]; exact wrap_small _ (Nat.lt_of_le_of_lt hjk (by omega))
              have hkb : ((k : Int) == 0) = false := by rw [beq_eq_false_iff_ne]; omega
              generalize hqq : j / k = qq at *
              have hwq : IntKind.i64.wrap ((qq : Int) + 1) = (qq : Int) + 1 := IntWalk.i64_in _ (by omega)
              generalize cs.getD m 0 = cb at *
              clear hT3 HT3 hcell
              by_cases hb : m < j % k
              · rw [if_pos hb] at hce
                rw [hce] at q2
                rw [show ((qq + 1 : Nat) : Int) = (qq : Int) + 1 by omega] at q2
                have n1 : (((qq : Int) + 1) != (qq : Int)) = true := by rw [bne_iff_ne]; omega
                clear hce hb
                go_wp2_with fail
                go_quiet (fail)
                go_wp2
                go_roundw
                case rel => exact ⟨m + 1, by omega, by go_num, HR.out.keep (Keep.below (below_drewN (Below.refl _ _) _))⟩
                case measure => simp [RowKit.intOf]; omega
              · rw [if_neg hb] at hce
                rw [hce] at q2
                rw [show ((qq + 0 : Nat) : Int) = (qq : Int) by omega] at q2
                have n1 : decide (((qq : Int)) != (qq : Int)) = false := by simp
                clear hce hb
                go_wp2_with fail
                go_quiet (fail)
                go_wp2
                go_roundw
                case rel => exact ⟨m + 1, by omega, by go_num, HR.out.keep (Keep.below (below_drewN (Below.refl _ _) _))⟩
                case measure => simp [RowKit.intOf]; omega
            · have hmi : ¬ ((m : Int) < k) := by omega
              clear hT3
              go_wp2
              go_ret
              exact ⟨rfl, HT3.out.bel⟩
end Go.Proofs.Ytacmdhlemolngaa
