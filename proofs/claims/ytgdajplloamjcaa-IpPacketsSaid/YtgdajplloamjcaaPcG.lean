/- The document's Parse: what is read. -/
import Derived.Test.YtgdajplloamjcaaPcF
namespace Go.Proofs.Ytgdajplloamjcaa
open Go.RowKit Go.Maps
set_option linter.unusedVariables false
set_option maxRecDepth 100000 in
set_option maxHeartbeats 16000000 in
theorem rParse_ok (w : World) (a : Option Addr) (n c : Nat) (l : List Int) (hn : l.length = n) (hl : n ≤ 800000) (hc : n ≤ c) (hb : Bytes w a l) (he : exE l = 0) :
    Calls Try.prog 9 #[.slice a n c] w fun e w' => ∃ a2 c2, e = .returned (.tuple #[.agg (pkV (prO l) (.slice a2 (boN l).length c2)), .int .i64 0]) ∧ By w' (New w) a2 (boN l) ∧ (boN l).length ≤ c2 ∧ Below w.heap.size w w' := by
  obtain ⟨q0, q1, q2, q3, q4, q5, q6⟩ := exE_ok he
  obtain ⟨W1, hW1, h1, b1⟩ := boxP w (pkC 0 0 0 0 0 false false 0 (.slice none 0 0)) 30
  obtain ⟨g, hg⟩ : ∃ g, w.heap.size = g := ⟨_, rfl⟩
  rw [hg] at h1
  have hltg := (Array.getElem?_eq_some_iff.1 h1).1
  have hb1 := hb.later b1
  have hx0 := mem_getD l IsB hb.isB 0 (by omega)
  obtain ⟨b, off, rfl, hcell⟩ := hb.open_ (by omega)
  have hbb : b < w.heap.size := by
    have := hcell 0 (by omega)
    rcases Nat.lt_or_ge b w.heap.size with h | h
    · exact h
    · simp [World.cell?, Array.getElem?_eq_none h] at this
  have c0 := cell_later b1 (hcell 0 (by omega))
  rw [Nat.add_zero] at c0
  have HBE : Hid (∀ W, Bytes W (some ⟨b, off, none⟩) l → ∀ at_ m : Nat, (m = 1 ∨ m = 2 ∨ m = 4) → at_ + m ≤ 20 → Calls Try.prog 25 #[.slice (some ⟨b, off, none⟩) n c, .int .i64 at_, .int .i64 m] W fun e w' => e = .returned (.int .i64 (beOf ((l.drop at_).take m))) ∧ w' = W) := hid (fun W hW at_ m hm h20 => rbe_in W _ n c l at_ m hn (by omega) hm (by omega) hW at_ m rfl rfl)
  obtain ⟨xs, hxs⟩ : ∃ x, x = beOf ((l.drop 12).take 4) := ⟨_, rfl⟩
  obtain ⟨xd, hxd⟩ : ∃ x, x = beOf ((l.drop 16).take 4) := ⟨_, rfl⟩
  obtain ⟨xp, hxp⟩ : ∃ x, x = beOf ((l.drop 9).take 1) := ⟨_, rfl⟩
  obtain ⟨xi, hxi⟩ : ∃ x, x = beOf ((l.drop 4).take 2) := ⟨_, rfl⟩
  obtain ⟨xt, hxt⟩ : ∃ x, x = beOf ((l.drop 8).take 1) := ⟨_, rfl⟩
  obtain ⟨fl, hfl⟩ : ∃ x, x = beOf ((l.drop 6).take 2) := ⟨_, rfl⟩
  have hp9 : l.getD 9 0 = xp := by rw [hxp, one_at l 9 (by omega)]
  have hp8 : l.getD 8 0 = xt := by rw [hxt, one_at l 8 (by omega)]
  have bp := be_cut_bd l 9 1 hb.isB (by omega)
  have bt := be_cut_bd l 8 1 hb.isB (by omega)
  have bs := be_cut_bd l 12 4 hb.isB (by omega)
  have bd := be_cut_bd l 16 4 hb.isB (by omega)
  have bf := be_cut_bd l 6 2 hb.isB (by omega)
  rw [← hxp] at bp
  rw [← hxt] at bt
  rw [← hxs] at bs
  rw [← hxd] at bd
  rw [← hfl] at bf
  obtain ⟨o, ho⟩ : ∃ o, o = fl % 8192 * 8 := ⟨_, rfl⟩
  obtain ⟨fb, hfb⟩ : ∃ x, x = bits .and .i64 fl 8192 := ⟨_, rfl⟩
  obtain ⟨mo, hmo⟩ : ∃ b : Bool, b = (fb != 0) := ⟨_, rfl⟩
  obtain ⟨wq, hwq⟩ : ∃ b : Bool, b = (decide (o = 0) && !mo) := ⟨_, rfl⟩
  obtain ⟨hN, hhN⟩ : ∃ k : Nat, k = (hdN l).toNat := ⟨_, rfl⟩
  obtain ⟨aN, haN⟩ : ∃ k : Nat, k = (alN l).toNat := ⟨_, rfl⟩
  obtain ⟨hd, hhd⟩ : ∃ x, x = hdN l := ⟨_, rfl⟩
  obtain ⟨al, hal⟩ : ∃ x, x = alN l := ⟨_, rfl⟩
  obtain ⟨body, hbody⟩ : ∃ x, x = boN l := ⟨_, rfl⟩
  obtain ⟨nb, hnb⟩ : ∃ k : Nat, k = aN - hN := ⟨_, rfl⟩
  have hbl : body.length = nb := by rw [hbody, hnb, hhN, haN]; unfold boN; simp; omega
  obtain ⟨aC, hcut, hcb⟩ := cut_lh (some ⟨b, off, none⟩) n c hN aN (by omega) (by omega) hc
  have hcut' : ∀ W : World, (Instr.slice 22 (.slice (some ⟨b, off, none⟩) n c) (some (.int .i64 hd)) (some (.int .i64 al)) none).run Try.prog W = .ok (.slice aC nb (c - hN)) W := fun W => by
    have := hcut W
    rw [show ((hN : Nat) : Int) = hd by omega, show ((aN : Nat) : Int) = al by omega, ← hnb] at this
    exact this
  have hbyC : ∀ W, Bytes W (some ⟨b, off, none⟩) l → Bytes W aC body := fun W hW => by
    have := hcb W l hn hW
    rw [hbody]; unfold boN; rw [← hhN, ← haN]; exact this
  obtain ⟨aH, hcutH0, hcbH⟩ := cut_h (some ⟨b, off, none⟩) n c hN (by omega) hc
  have hcutH : ∀ W : World, (Instr.slice 22 (.slice (some ⟨b, off, none⟩) n c) none (some (.int .i64 hd)) none).run Try.prog W = .ok (.slice aH hN c) W := fun W => by
    have := hcutH0 W
    rw [show ((hN : Nat) : Int) = hd by omega] at this
    exact this
  have HIN : Calls Try.prog 26 #[.slice aH hN c] W1 fun e w' => e = .returned (.int .u16 0) ∧ w' = W1 := by
    have := refInet_at aH hN c (l.take hN) W1 (by rw [List.length_take, hn]; omega) (by rw [List.length_take, hn]; omega) (hcbH W1 l hn hb1)
    have e : 65535 - inetFold (wsum 0 (l.take hN)) = 0 := by have := q6; rw [← hhN] at this; exact this
    rw [e] at this
    exact this
  have HA2 := HBE.out W1 hb1 2 2 (by omega) (by omega)
  rw [show beOf ((l.drop 2).take 2) = al by rw [hal]; rfl] at HA2
  have HA6 := HBE.out W1 hb1 6 2 (by omega) (by omega)
  rw [← hfl] at HA6
  have hpr : prO l = ⟨xs, xd, xp, xi, o, mo, wq, xt, body⟩ := by rw [hwq, hxs, hxd, hxp, hxi, hmo, hfb, ho, hxt, hbody, hfl]; rfl
  rw [hpr, ← hbody, hbl]
  dsimp only [pkV]
  have ha15 := and15b (l.getD 0 0) hx0
  unfold IsB at hx0
  have hH0 : l.getD 0 0 % 16 * 4 = hd := by rw [hhd]; rfl
  have k1b : (l.getD 0 0 / 16 != 4) = false := by rw [q1]; rfl
  generalize l.getD 0 0 = x0 at *
  -- the worlds
  obtain ⟨v0, hv0⟩ : ∃ W, W = W1.drew := ⟨_, rfl⟩
  have b01 : Below w.heap.size w v0 := by rw [hv0]; exact b1.drew
  have h0g : v0.heap[g]? = some (.cells (pkC 0 0 0 0 0 false false 0 (.slice none 0 0)) 30 (0, 0)) := by rw [hv0]; exact h1
  have hs0 : Bytes v0 (some ⟨b, off, none⟩) l := hb.later b01
  obtain ⟨vA, hvA, hkA, bA⟩ := boxP v0 (pkC 0 0 0 0 0 false false 0 (.slice none 0 0)) 30
  obtain ⟨g7, hg7⟩ : ∃ g, v0.heap.size = g := ⟨_, rfl⟩
  rw [hg7] at hkA
  have hlt0 := (Array.getElem?_eq_some_iff.1 h0g).1
  have hne : g ≠ g7 := by omega
  have hAg := (bA.block g hlt0).trans h0g
  have hg7w : w.heap.size ≤ g7 := by have := b01.size; omega
  have b0A := b01.trans (bA.mono b01.size)
  have hsA := hs0.later bA
  obtain ⟨W11, hW11⟩ : ∃ W, W = vA.setRow g7 (pkC xs xd xp xi 0 false false xt (.slice none 0 0)) := ⟨_, rfl⟩
  have h11 : W11.heap[g7]? = some (.cells (pkC xs xd xp xi 0 false false xt (.slice none 0 0)) 30 (0, 0)) := by rw [hW11]; exact setRow_heap _ _ _ _ _ _ hkA
  have h11g : W11.heap[g]? = some (.cells (pkC 0 0 0 0 0 false false 0 (.slice none 0 0)) 30 (0, 0)) := by rw [hW11, setRow_other _ _ _ _ hne]; exact hAg
  have b11 : Below w.heap.size w W11 := by rw [hW11]; exact (setRow_mods _ _ _).to_below b0A b0A.size (fun x hx => by rw [hx]; exact hg7w)
  have hs11 := hb.later b11
  obtain ⟨W12, hW12, h12, b12, k12, _⟩ := setP h11 4 (.int .i64 o) w.heap.size w b11 hg7w
  obtain ⟨W13, hW13, h13, b13, k13, _⟩ := setP h12 5 (.bool mo) w.heap.size w b12 hg7w
  obtain ⟨W14, hW14, h14, b14, k14, _⟩ := setP h13 6 (.bool wq) w.heap.size w b13 hg7w
  have h14g := (k14 g hne).trans ((k13 g hne).trans ((k12 g hne).trans h11g))
  have b14d : Below w.heap.size w W14.drew := b14.drew
  obtain ⟨aD, cD, w15, hap, hg15, hb15⟩ := (GO.none W14.drew W14.drew.heap.size).push rfl (Nat.le_refl _) body aC nb (c - hN) hbl (hbyC _ (hb.later b14d)) (by omega) 22
  rw [Nat.zero_add] at hap hg15
  rw [List.nil_append] at hg15
  have h15 := (hb15.block g7 (Array.getElem?_eq_some_iff.1 (drawn W14 g7 _ h14)).1).trans (drawn W14 g7 _ h14)
  have h15g := (hb15.block g (Array.getElem?_eq_some_iff.1 (drawn W14 g _ h14g)).1).trans (drawn W14 g _ h14g)
  have b15 := b14d.trans (hb15.mono b14d.size)
  obtain ⟨W16, hW16, h16, b16, k16, _⟩ := setP h15 8 (.slice aD nb cD) w.heap.size w b15 hg7w
  have h16g := (k16 g hne).trans h15g
  obtain ⟨x15, y15, e15, hc15, hy15⟩ := hg15.by_ (S := fun b => w.heap.size ≤ b ∧ b ≠ g ∧ b ≠ g7) (fun bb hh => ⟨Nat.le_trans b14d.size hh, fun e => by rw [e] at hh; exact absurd (Array.getElem?_eq_some_iff.1 (drawn W14 g _ h14g)).1 (Nat.not_lt.2 hh), fun e => by rw [e] at hh; exact absurd (Array.getElem?_eq_some_iff.1 (drawn W14 g7 _ h14)).1 (Nat.not_lt.2 hh)⟩)
  rw [hbl] at e15 hc15
  simp only [Value.slice.injEq, true_and] at e15
  obtain ⟨rfl, rfl⟩ := e15
  have HY16 := hid ((hy15.keep (w' := W16) (fun bb hh hl => k16 bb hh.2.2)).weak (S' := fun b => w.heap.size ≤ b ∧ b ≠ g) (fun bb hh _ => ⟨hh.1, hh.2.1⟩))
  have HC16 := hid hc15
  have HK16 := hid h16
  have HG16 := hid h16g
  have HB16 := hid b16
  have HW16 := hid hW16
  have HK15 := hid h15
  have HAP := hid hap
  have HC14 := hid (cell_of h14 (i := 8) (v := .slice none 0 0) rfl)
  have HF11 := hid (And.intro (froz_of h11 4) (And.intro (cell_of h11 (i := 4) (v := .int .i64 0) rfl) (And.intro (froz_of h12 5) (And.intro (cell_of h12 (i := 5) (v := .bool false) rfl) (And.intro (froz_of h13 6) (And.intro (cell_of h13 (i := 6) (v := .bool false) rfl) (And.intro (cell_of h13 (i := 4) (v := .int .i64 o) rfl) (cell_of h13 (i := 5) (v := .bool mo) rfl))))))))
  have HE12 := hid hW12.symm
  have HE13 := hid hW13.symm
  have HE14 := hid hW14.symm
  have HW11 := hid hW11
  have HKA := hid hkA
  have HVA := hid hvA
  have HG7 := hid hg7
  have HSA := hid hsA
  have HS11 := hid hs11
  have HV0 := hid hv0
  have HBW := hid (show Bytes W1.drew (some ⟨b, off, none⟩) l by rw [← hv0]; exact hs0)
  have HX9 := hid hp9
  have HX8 := hid hp8
  have Hxs := hid hxs.symm
  have Hxd := hid hxd.symm
  have Hxi := hid hxi.symm
  have HA2 := hid HA2
  have HA6 := hid HA6
  have HIN := hid HIN
  have HN := hid (show l.length = n ∧ 20 ≤ l.length by omega)
  have HG := hid hg
  have HW := hW1.symm
  have hw1 : IntKind.u32.wrap xs = xs := IntWalk.u32_in _ (by omega)
  have hw2 : IntKind.u32.wrap xd = xd := IntWalk.u32_in _ (by omega)
  have hm1 : bits .and .i64 fl 8191 = fl % 8192 := i64_and8191 fl
  have hm2 : bits .and .i64 fl 8192 = fb := hfb.symm
  have hm3 : (fb != 0) = mo := hmo.symm
  have hw3 : IntKind.i64.wrap (fl % 8192 * 8) = o := by rw [ho]; exact IntWalk.i64_in _ (by omega)
  have hw4 : fl % 8192 * 8 = o := ho.symm
  have hw5 : IntKind.i64.wrap o = o := by rw [ho]; exact IntWalk.i64_in _ (by omega)
  have hw6 : IntKind.i64.wrap (x0 % 16) = x0 % 16 := IntWalk.i64_in _ (by omega)
  have hw7 : IntKind.i64.wrap (x0 % 16 * 4) = x0 % 16 * 4 := IntWalk.i64_in _ (by omega)
  have hw8 : IntKind.i64.wrap hd = hd := IntWalk.i64_in _ (by omega)
  have hw9 : IntKind.i64.wrap xp = xp := IntWalk.i64_in _ (by omega)
  have hw10 : IntKind.i64.wrap xt = xt := IntWalk.i64_in _ (by omega)
  have h20i : ¬ ((n : Int) < 20) := by omega
  have hhd1 : ¬ (hd < 20) := by omega
  have hhd2 : ¬ ((n : Int) < hd) := by omega
  have hhd3 : ¬ (al < hd) := by omega
  have hhd4 : ¬ ((n : Int) < al) := by omega
  have hn0 : ¬ n = 0 := by omega
  have hn9 : (9 : Int) < n := by omega
  have hn8 : (8 : Int) < n := by omega
  have HWQ := hid hwq
  clear h1 b1 hW1 hn hb hb1 he q0 q1 q2 q3 q4 q5 q6 hxs hxd hxp hxi hxt hfl bs bd bf bp bt ho hfb hmo hhN haN hhd hal hbody hnb hbl hcut hcb hpr hcell hbb hbyC hcutH0 hcbH hp9 hp8 hltg hv0 b01 h0g hs0 hvA hkA bA hg7 hlt0 hne hAg hg7w b0A hsA hW11 h11 h11g b11 hs11 hW12 h12 b12 k12 hW13 h13 b13 k13 hW14 h14 b14 k14 h14g b14d hap hg15 hb15 h15 h15g b15 hW16 h16 b16 k16 h16g hy15 hc15 hwq hx0
  by_cases ho0 : o = 0
  · have hz1 : (o == 0) = true := by simp [ho0]
    have hz2 : (!mo) = wq := by rw [HWQ.out]; simp [ho0]
    clear ho0
    go_enter Try.func9, Try.ntmps9
    go_upto_region 16 with (first
      | (go_at_call 25; refine HA2.out.mono ?_; rintro e w9 ⟨rfl, hw9⟩; obtain rfl : W1 = w9 := hw9.symm; clear HA2)
      | (go_at_call 26; refine HIN.out.mono ?_; rintro e w9 ⟨rfl, hw9⟩; obtain rfl : W1 = w9 := hw9.symm; clear HIN)
      | (go_at_call 25; refine HA6.out.mono ?_; rintro e w9 ⟨rfl, hw9⟩; obtain rfl : W1 = w9 := hw9.symm; clear HA6))
    clear hcutH
    try simp only [Act.put]
    refine wp_region_held_drew (S := fun W => Bytes W (some ⟨b, off, none⟩) l) (by kernel_rfl) HBW.out (fun hS => ?_)
    rw [← HV0.out]
    rw [← HV0.out] at hS
    refine nany_take 0 52 (.slice (some ⟨b, off, none⟩) n c) rfl rfl (by kernel_rfl) (by kernel_rfl) (by kernel_rfl) (fun _ _ _ h => h) (Or.inl ⟨by rfl, ?_⟩) hS ?_
    · rintro w' hS'
      go_simp
    simp only [List.setIfInBounds_toArray, List.set_cons_zero, List.set_cons_succ]
    refine nany_take 3 55 (.slice (some ⟨b, off, none⟩) n c) rfl rfl (by kernel_rfl) (by kernel_rfl) (by kernel_rfl) (fun _ _ _ h => h) (Or.inl ⟨by rfl, ?_⟩) hS ?_
    · rintro w' hS'
      go_simp
    simp only [List.setIfInBounds_toArray, List.set_cons_zero, List.set_cons_succ]
    refine nany_take 6 58 (.slice (some ⟨b, off, none⟩) n c) rfl rfl (by kernel_rfl) (by kernel_rfl) (by kernel_rfl) (fun _ _ _ h => h) (Or.inl ⟨by rfl, ?_⟩) hS ?_
    · rintro w' hS'
      go_simp
    simp only [List.setIfInBounds_toArray, List.set_cons_zero, List.set_cons_succ]
    refine nany_take 7 59 (.pointer (some ⟨b, off + 9, none⟩)) rfl rfl (by kernel_rfl) (by kernel_rfl) (by kernel_rfl) (fun _ _ _ h => h) (Or.inl ⟨by rfl, ?_⟩) hS ?_
    · rintro w' hS'
      go_simp
    simp only [List.setIfInBounds_toArray, List.set_cons_zero, List.set_cons_succ]
    refine nany_take 8 60 (.int .u8 xp) rfl rfl (by kernel_rfl) (by kernel_rfl) (by kernel_rfl) (fun _ _ _ h => h) (Or.inl ⟨by rfl, ?_⟩) hS ?_
    · rintro w' hS'
      have hq := hS'.at_ 9 (by have := HN.out; omega); rw [HX9.out] at hq; go_simp
    simp only [List.setIfInBounds_toArray, List.set_cons_zero, List.set_cons_succ]
    refine nany_take 9 61 (.int .i64 xp) rfl rfl (by kernel_rfl) (by kernel_rfl) (by kernel_rfl) (fun _ _ _ h => h) (Or.inl ⟨by rfl, ?_⟩) hS ?_
    · rintro w' hS'
      go_simp
    simp only [List.setIfInBounds_toArray, List.set_cons_zero, List.set_cons_succ]
    refine nany_take 10 62 (.slice (some ⟨b, off, none⟩) n c) rfl rfl (by kernel_rfl) (by kernel_rfl) (by kernel_rfl) (fun _ _ _ h => h) (Or.inl ⟨by rfl, ?_⟩) hS ?_
    · rintro w' hS'
      go_simp
    simp only [List.setIfInBounds_toArray, List.set_cons_zero, List.set_cons_succ]
    refine nany_take 12 64 (.slice (some ⟨b, off, none⟩) n c) rfl rfl (by kernel_rfl) (by kernel_rfl) (by kernel_rfl) (fun _ _ _ h => h) (Or.inl ⟨by rfl, ?_⟩) hS ?_
    · rintro w' hS'
      go_simp
    simp only [List.setIfInBounds_toArray, List.set_cons_zero, List.set_cons_succ]
    refine nany_take 13 65 (.pointer (some ⟨b, off + 8, none⟩)) rfl rfl (by kernel_rfl) (by kernel_rfl) (by kernel_rfl) (fun _ _ _ h => h) (Or.inl ⟨by rfl, ?_⟩) hS ?_
    · rintro w' hS'
      go_simp
    simp only [List.setIfInBounds_toArray, List.set_cons_zero, List.set_cons_succ]
    refine nany_take 14 66 (.int .u8 xt) rfl rfl (by kernel_rfl) (by kernel_rfl) (by kernel_rfl) (fun _ _ _ h => h) (Or.inl ⟨by rfl, ?_⟩) hS ?_
    · rintro w' hS'
      have hq := hS'.at_ 8 (by have := HN.out; omega); rw [HX8.out] at hq; go_simp
    simp only [List.setIfInBounds_toArray, List.set_cons_zero, List.set_cons_succ]
    refine nany_take 15 67 (.int .i64 xt) rfl rfl (by kernel_rfl) (by kernel_rfl) (by kernel_rfl) (fun _ _ _ h => h) (Or.inl ⟨by rfl, ?_⟩) hS ?_
    · rintro w' hS'
      go_simp
    simp only [List.setIfInBounds_toArray, List.set_cons_zero, List.set_cons_succ]
    refine nany_two 1 17 (by kernel_rfl) ?_ ?_
    · refine nop_callE 53 (f := 25) (args := #[.slice (some ⟨b, off, none⟩) n c, .int .i64 12, .int .i64 4]) (R := fun v w' => v = .int .i64 xs ∧ w' = v0) rfl (by rfl) rfl (by go_simp) ((HBE.out v0 hS 12 4 (by omega) (by omega)).mono (fun e w' h => ⟨_, h.1.trans (by rw [Hxs.out]), rfl, h.2⟩)) ?_
      rintro v w9 ⟨rfl, hw9⟩
      obtain rfl : v0 = w9 := hw9.symm
      refine ⟨hS, ?_⟩
      simp only [List.setIfInBounds_toArray, List.set_cons_zero, List.set_cons_succ]
      refine nany_take 2 54 (.int .u32 xs) rfl rfl (by kernel_rfl) (by kernel_rfl) (by kernel_rfl) (fun _ _ _ h => h) (Or.inl ⟨by rfl, ?_⟩) hS ?_
      · rintro w' hS'
        go_simp
      simp only [List.setIfInBounds_toArray, List.set_cons_zero, List.set_cons_succ]
      refine nany_two 4 17 (by kernel_rfl) ?_ ?_
      · refine nop_callE 56 (f := 25) (args := #[.slice (some ⟨b, off, none⟩) n c, .int .i64 16, .int .i64 4]) (R := fun v w' => v = .int .i64 xd ∧ w' = v0) rfl (by rfl) rfl (by go_simp) ((HBE.out v0 hS 16 4 (by omega) (by omega)).mono (fun e w' h => ⟨_, h.1.trans (by rw [Hxd.out]), rfl, h.2⟩)) ?_
        rintro v w9 ⟨rfl, hw9⟩
        obtain rfl : v0 = w9 := hw9.symm
        refine ⟨hS, ?_⟩
        simp only [List.setIfInBounds_toArray, List.set_cons_zero, List.set_cons_succ]
        refine nany_take 5 57 (.int .u32 xd) rfl rfl (by kernel_rfl) (by kernel_rfl) (by kernel_rfl) (fun _ _ _ h => h) (Or.inl ⟨by rfl, ?_⟩) hS ?_
        · rintro w' hS'
          go_simp
        simp only [List.setIfInBounds_toArray, List.set_cons_zero, List.set_cons_succ]
        refine nany_two 11 17 (by kernel_rfl) ?_ ?_
        · refine nop_callE 63 (f := 25) (args := #[.slice (some ⟨b, off, none⟩) n c, .int .i64 4, .int .i64 2]) (R := fun v w' => v = .int .i64 xi ∧ w' = v0) rfl (by rfl) rfl (by go_simp) ((HBE.out v0 hS 4 2 (by omega) (by omega)).mono (fun e w' h => ⟨_, h.1.trans (by rw [Hxi.out]), rfl, h.2⟩)) ?_
          rintro v w9 ⟨rfl, hw9⟩
          obtain rfl : v0 = w9 := hw9.symm
          refine ⟨hS, ?_⟩
          simp only [List.setIfInBounds_toArray, List.set_cons_zero, List.set_cons_succ]
          refine nany_take 16 68 (.agg (pkC xs xd xp xi 0 false false xt (.slice none 0 0))) rfl rfl (by kernel_rfl) (by kernel_rfl) (by kernel_rfl) (fun _ _ _ h => h) (Or.inl ⟨by rfl, ?_⟩) hS ?_
          · rintro w' hS'
            go_simp
          simp only [List.setIfInBounds_toArray, List.set_cons_zero, List.set_cons_succ]
          refine nany_one 17 (by kernel_rfl) ?_
          refine nop_value' 7 (v := .pointer (some ⟨g7, 0, none⟩)) (w' := vA) rfl (by rfl) rfl (by rw [HVA.out, ← HG7.out]; go_simp) ?_
          refine ⟨HSA.out, ?_⟩
          simp only [List.setIfInBounds_toArray, List.set_cons_zero, List.set_cons_succ]
          refine nany_one 18 (by kernel_rfl) ?_
          refine nop_skip (w' := W11) rfl (by rfl) rfl (by rw [HW11.out]; exact ex_store 30 _ _ rfl g7 (pkC xs xd xp xi 0 false false xt (.slice none 0 0)) rfl rfl 30 _ HKA.out sizeDk rfl (pkC_one _ _ _ _ _ _ _ _ _ rfl)) ?_
          refine ⟨HS11.out, ?_⟩
          refine wpAnyH_done (by kernel_rfl) ?_ _
          clear hS
          have e12 := HE12.out
          have e13 := HE13.out
          have e14 := HE14.out
          have f11 := HF11.out.1
          have c11 := HF11.out.2.1
          have f12 := HF11.out.2.2.1
          have c12 := HF11.out.2.2.2.1
          have f13 := HF11.out.2.2.2.2.1
          have c13 := HF11.out.2.2.2.2.2.1
          have c134 := HF11.out.2.2.2.2.2.2.1
          have c135 := HF11.out.2.2.2.2.2.2.2
          go_upto_region 20 with fail
          clear e12 e13 e14 f11 c11 f12 c12 f13 c13 c134 c135
          try simp only [Act.put]
          refine wp_region_held_drew (S := fun _ => True) (by kernel_rfl) trivial (fun hS => ?_)
          refine nany_take 0 86 (.pointer (some ⟨g7, 8, none⟩)) rfl rfl (by kernel_rfl) (by kernel_rfl) (by kernel_rfl) (fun _ _ _ h => h) (Or.inl ⟨by rfl, ?_⟩) trivial ?_
          · rintro w' -
            go_simp
          simp only [List.setIfInBounds_toArray, List.set_cons_zero, List.set_cons_succ]
          refine nany_take 2 88 (.slice (some ⟨b, off, none⟩) n c) rfl rfl (by kernel_rfl) (by kernel_rfl) (by kernel_rfl) (fun _ _ _ h => h) (Or.inl ⟨by rfl, ?_⟩) trivial ?_
          · rintro w' -
            go_simp
          simp only [List.setIfInBounds_toArray, List.set_cons_zero, List.set_cons_succ]
          refine nany_take 3 89 (.int .i64 hd) rfl rfl (by kernel_rfl) (by kernel_rfl) (by kernel_rfl) (fun _ _ _ h => h) (Or.inl ⟨by rfl, ?_⟩) trivial ?_
          · rintro w' -
            go_simp
          simp only [List.setIfInBounds_toArray, List.set_cons_zero, List.set_cons_succ]
          refine nany_take 4 90 (.int .i64 al) rfl rfl (by kernel_rfl) (by kernel_rfl) (by kernel_rfl) (fun _ _ _ h => h) (Or.inl ⟨by rfl, ?_⟩) trivial ?_
          · rintro w' -
            go_simp
          simp only [List.setIfInBounds_toArray, List.set_cons_zero, List.set_cons_succ]
          refine nany_take 5 91 (.slice aC nb (c - hN)) rfl rfl (by kernel_rfl) (by kernel_rfl) (by kernel_rfl) (fun _ _ _ h => h) (Or.inl ⟨by rfl, ?_⟩) trivial ?_
          · rintro w' -
            go_simp
          simp only [List.setIfInBounds_toArray, List.set_cons_zero, List.set_cons_succ]
          refine nany_one 1 (by kernel_rfl) ?_
          refine nop_value' 87 (v := .slice none 0 0) (w' := W14.drew) rfl (by rfl) rfl (by have hcc : W14.drew.cell? ⟨g7, 8, none⟩ = some (.slice none 0 0) := HC14.out; go_simp) ?_
          refine ⟨trivial, ?_⟩
          simp only [List.setIfInBounds_toArray, List.set_cons_zero, List.set_cons_succ]
          refine nany_one 6 (by kernel_rfl) ?_
          refine nop_value' 92 (v := .slice aD nb cD) (w' := w15) rfl (by rfl) rfl (ex_append (.tmp 87) (.tmp 91) 22 rfl 22 rfl (v := .slice none 0 0) (y := .slice aC nb (c - hN)) rfl rfl HAP.out) ?_
          refine ⟨trivial, ?_⟩
          simp only [List.setIfInBounds_toArray, List.set_cons_zero, List.set_cons_succ]
          refine nany_take 7 93 (.pointer (some ⟨g7, 8, none⟩)) rfl rfl (by kernel_rfl) (by kernel_rfl) (by kernel_rfl) (fun _ _ _ h => h) (Or.inl ⟨by rfl, ?_⟩) trivial ?_
          · rintro w' -
            go_simp
          simp only [List.setIfInBounds_toArray, List.set_cons_zero, List.set_cons_succ]
          refine nany_one 8 (by kernel_rfl) ?_
          refine nop_skip (w' := W16) rfl (by rfl) rfl (by rw [HW16.out]; exact ex_storeB _ _ rfl g7 8 aD nb cD rfl rfl HK15.out (by simp)) ?_
          refine ⟨trivial, ?_⟩
          refine wpAnyH_done (by kernel_rfl) ?_ _
          clear hS
          go_wp2_with (first | (refine wpList_load_row rfl 30 _ rfl g7 rfl 30 _ (0, 0) _ HK16.out Try.underlying30 rfl sizeDk ?_) | (refine wpList_store_row rfl 30 _ _ rfl g (pkC xs xd xp xi o mo wq xt (.slice aD nb cD)) rfl rfl 30 _ HG16.out sizeDk rfl (pkC_one _ _ _ _ _ _ _ _ _ rfl) ?_))
          refine bodyPost_ret (results_ct rfl _ _ g (pkC xs xd xp xi o mo wq xt (.slice aD nb cD)) _ _ rfl (setRow_heap _ g _ _ _ _ HG16.out) Try.underlying30 sizeDk) rfl ⟨aD, cD, rfl, (HY16.out.keep (fun x hx hl => setRow_other W16 g x _ hx.2)).weak (fun x hx _ => hx.1), HC16.out, ?_⟩
          have hbw := (setRow_mods W16 g (pkC xs xd xp xi o mo wq xt (.slice aD nb cD))).to_below HB16.out HB16.out.size (fun x hx => by rw [hx, HG.out]; exact Nat.le_refl _)
          first | exact hbw | (rw [HG.out] at hbw; exact hbw)
        · refine nop_value' 7 (v := .pointer (some ⟨g7, 0, none⟩)) (w' := vA) rfl (by rfl) rfl (by rw [HVA.out, ← HG7.out]; go_simp) ?_
          refine ⟨HSA.out, ?_⟩
          simp only [List.setIfInBounds_toArray, List.set_cons_zero, List.set_cons_succ]
          refine nany_one 11 (by kernel_rfl) ?_
          refine nop_callE 63 (f := 25) (args := #[.slice (some ⟨b, off, none⟩) n c, .int .i64 4, .int .i64 2]) (R := fun v w' => v = .int .i64 xi ∧ w' = vA) rfl (by rfl) rfl (by go_simp) ((HBE.out vA HSA.out 4 2 (by omega) (by omega)).mono (fun e w' h => ⟨_, h.1.trans (by rw [Hxi.out]), rfl, h.2⟩)) ?_
          rintro v w9 ⟨rfl, hw9⟩
          obtain rfl : vA = w9 := hw9.symm
          refine ⟨HSA.out, ?_⟩
          simp only [List.setIfInBounds_toArray, List.set_cons_zero, List.set_cons_succ]
          refine nany_take 16 68 (.agg (pkC xs xd xp xi 0 false false xt (.slice none 0 0))) rfl rfl (by kernel_rfl) (by kernel_rfl) (by kernel_rfl) (fun _ _ _ h => h) (Or.inl ⟨by rfl, ?_⟩) HSA.out ?_
          · rintro w' hS'
            go_simp
          simp only [List.setIfInBounds_toArray, List.set_cons_zero, List.set_cons_succ]
          refine nany_one 18 (by kernel_rfl) ?_
          refine nop_skip (w' := W11) rfl (by rfl) rfl (by rw [HW11.out]; exact ex_store 30 _ _ rfl g7 (pkC xs xd xp xi 0 false false xt (.slice none 0 0)) rfl rfl 30 _ HKA.out sizeDk rfl (pkC_one _ _ _ _ _ _ _ _ _ rfl)) ?_
          refine ⟨HS11.out, ?_⟩
          refine wpAnyH_done (by kernel_rfl) ?_ _
          clear hS
          have e12 := HE12.out
          have e13 := HE13.out
          have e14 := HE14.out
          have f11 := HF11.out.1
          have c11 := HF11.out.2.1
          have f12 := HF11.out.2.2.1
          have c12 := HF11.out.2.2.2.1
          have f13 := HF11.out.2.2.2.2.1
          have c13 := HF11.out.2.2.2.2.2.1
          have c134 := HF11.out.2.2.2.2.2.2.1
          have c135 := HF11.out.2.2.2.2.2.2.2
          go_upto_region 20 with fail
          clear e12 e13 e14 f11 c11 f12 c12 f13 c13 c134 c135
          try simp only [Act.put]
          refine wp_region_held_drew (S := fun _ => True) (by kernel_rfl) trivial (fun hS => ?_)
          refine nany_take 0 86 (.pointer (some ⟨g7, 8, none⟩)) rfl rfl (by kernel_rfl) (by kernel_rfl) (by kernel_rfl) (fun _ _ _ h => h) (Or.inl ⟨by rfl, ?_⟩) trivial ?_
          · rintro w' -
            go_simp
          simp only [List.setIfInBounds_toArray, List.set_cons_zero, List.set_cons_succ]
          refine nany_take 2 88 (.slice (some ⟨b, off, none⟩) n c) rfl rfl (by kernel_rfl) (by kernel_rfl) (by kernel_rfl) (fun _ _ _ h => h) (Or.inl ⟨by rfl, ?_⟩) trivial ?_
          · rintro w' -
            go_simp
          simp only [List.setIfInBounds_toArray, List.set_cons_zero, List.set_cons_succ]
          refine nany_take 3 89 (.int .i64 hd) rfl rfl (by kernel_rfl) (by kernel_rfl) (by kernel_rfl) (fun _ _ _ h => h) (Or.inl ⟨by rfl, ?_⟩) trivial ?_
          · rintro w' -
            go_simp
          simp only [List.setIfInBounds_toArray, List.set_cons_zero, List.set_cons_succ]
          refine nany_take 4 90 (.int .i64 al) rfl rfl (by kernel_rfl) (by kernel_rfl) (by kernel_rfl) (fun _ _ _ h => h) (Or.inl ⟨by rfl, ?_⟩) trivial ?_
          · rintro w' -
            go_simp
          simp only [List.setIfInBounds_toArray, List.set_cons_zero, List.set_cons_succ]
          refine nany_take 5 91 (.slice aC nb (c - hN)) rfl rfl (by kernel_rfl) (by kernel_rfl) (by kernel_rfl) (fun _ _ _ h => h) (Or.inl ⟨by rfl, ?_⟩) trivial ?_
          · rintro w' -
            go_simp
          simp only [List.setIfInBounds_toArray, List.set_cons_zero, List.set_cons_succ]
          refine nany_one 1 (by kernel_rfl) ?_
          refine nop_value' 87 (v := .slice none 0 0) (w' := W14.drew) rfl (by rfl) rfl (by have hcc : W14.drew.cell? ⟨g7, 8, none⟩ = some (.slice none 0 0) := HC14.out; go_simp) ?_
          refine ⟨trivial, ?_⟩
          simp only [List.setIfInBounds_toArray, List.set_cons_zero, List.set_cons_succ]
          refine nany_one 6 (by kernel_rfl) ?_
          refine nop_value' 92 (v := .slice aD nb cD) (w' := w15) rfl (by rfl) rfl (ex_append (.tmp 87) (.tmp 91) 22 rfl 22 rfl (v := .slice none 0 0) (y := .slice aC nb (c - hN)) rfl rfl HAP.out) ?_
          refine ⟨trivial, ?_⟩
          simp only [List.setIfInBounds_toArray, List.set_cons_zero, List.set_cons_succ]
          refine nany_take 7 93 (.pointer (some ⟨g7, 8, none⟩)) rfl rfl (by kernel_rfl) (by kernel_rfl) (by kernel_rfl) (fun _ _ _ h => h) (Or.inl ⟨by rfl, ?_⟩) trivial ?_
          · rintro w' -
            go_simp
          simp only [List.setIfInBounds_toArray, List.set_cons_zero, List.set_cons_succ]
          refine nany_one 8 (by kernel_rfl) ?_
          refine nop_skip (w' := W16) rfl (by rfl) rfl (by rw [HW16.out]; exact ex_storeB _ _ rfl g7 8 aD nb cD rfl rfl HK15.out (by simp)) ?_
          refine ⟨trivial, ?_⟩
          refine wpAnyH_done (by kernel_rfl) ?_ _
          clear hS
          go_wp2_with (first | (refine wpList_load_row rfl 30 _ rfl g7 rfl 30 _ (0, 0) _ HK16.out Try.underlying30 rfl sizeDk ?_) | (refine wpList_store_row rfl 30 _ _ rfl g (pkC xs xd xp xi o mo wq xt (.slice aD nb cD)) rfl rfl 30 _ HG16.out sizeDk rfl (pkC_one _ _ _ _ _ _ _ _ _ rfl) ?_))
          refine bodyPost_ret (results_ct rfl _ _ g (pkC xs xd xp xi o mo wq xt (.slice aD nb cD)) _ _ rfl (setRow_heap _ g _ _ _ _ HG16.out) Try.underlying30 sizeDk) rfl ⟨aD, cD, rfl, (HY16.out.keep (fun x hx hl => setRow_other W16 g x _ hx.2)).weak (fun x hx _ => hx.1), HC16.out, ?_⟩
          have hbw := (setRow_mods W16 g (pkC xs xd xp xi o mo wq xt (.slice aD nb cD))).to_below HB16.out HB16.out.size (fun x hx => by rw [hx, HG.out]; exact Nat.le_refl _)
          first | exact hbw | (rw [HG.out] at hbw; exact hbw)
      · refine nop_value' 7 (v := .pointer (some ⟨g7, 0, none⟩)) (w' := vA) rfl (by rfl) rfl (by rw [HVA.out, ← HG7.out]; go_simp) ?_
        refine ⟨HSA.out, ?_⟩
        simp only [List.setIfInBounds_toArray, List.set_cons_zero, List.set_cons_succ]
        refine nany_one 4 (by kernel_rfl) ?_
        refine nop_callE 56 (f := 25) (args := #[.slice (some ⟨b, off, none⟩) n c, .int .i64 16, .int .i64 4]) (R := fun v w' => v = .int .i64 xd ∧ w' = vA) rfl (by rfl) rfl (by go_simp) ((HBE.out vA HSA.out 16 4 (by omega) (by omega)).mono (fun e w' h => ⟨_, h.1.trans (by rw [Hxd.out]), rfl, h.2⟩)) ?_
        rintro v w9 ⟨rfl, hw9⟩
        obtain rfl : vA = w9 := hw9.symm
        refine ⟨HSA.out, ?_⟩
        simp only [List.setIfInBounds_toArray, List.set_cons_zero, List.set_cons_succ]
        refine nany_take 5 57 (.int .u32 xd) rfl rfl (by kernel_rfl) (by kernel_rfl) (by kernel_rfl) (fun _ _ _ h => h) (Or.inl ⟨by rfl, ?_⟩) HSA.out ?_
        · rintro w' hS'
          go_simp
        simp only [List.setIfInBounds_toArray, List.set_cons_zero, List.set_cons_succ]
        refine nany_one 11 (by kernel_rfl) ?_
        refine nop_callE 63 (f := 25) (args := #[.slice (some ⟨b, off, none⟩) n c, .int .i64 4, .int .i64 2]) (R := fun v w' => v = .int .i64 xi ∧ w' = vA) rfl (by rfl) rfl (by go_simp) ((HBE.out vA HSA.out 4 2 (by omega) (by omega)).mono (fun e w' h => ⟨_, h.1.trans (by rw [Hxi.out]), rfl, h.2⟩)) ?_
        rintro v w9 ⟨rfl, hw9⟩
        obtain rfl : vA = w9 := hw9.symm
        refine ⟨HSA.out, ?_⟩
        simp only [List.setIfInBounds_toArray, List.set_cons_zero, List.set_cons_succ]
        refine nany_take 16 68 (.agg (pkC xs xd xp xi 0 false false xt (.slice none 0 0))) rfl rfl (by kernel_rfl) (by kernel_rfl) (by kernel_rfl) (fun _ _ _ h => h) (Or.inl ⟨by rfl, ?_⟩) HSA.out ?_
        · rintro w' hS'
          go_simp
        simp only [List.setIfInBounds_toArray, List.set_cons_zero, List.set_cons_succ]
        refine nany_one 18 (by kernel_rfl) ?_
        refine nop_skip (w' := W11) rfl (by rfl) rfl (by rw [HW11.out]; exact ex_store 30 _ _ rfl g7 (pkC xs xd xp xi 0 false false xt (.slice none 0 0)) rfl rfl 30 _ HKA.out sizeDk rfl (pkC_one _ _ _ _ _ _ _ _ _ rfl)) ?_
        refine ⟨HS11.out, ?_⟩
        refine wpAnyH_done (by kernel_rfl) ?_ _
        clear hS
        have e12 := HE12.out
        have e13 := HE13.out
        have e14 := HE14.out
        have f11 := HF11.out.1
        have c11 := HF11.out.2.1
        have f12 := HF11.out.2.2.1
        have c12 := HF11.out.2.2.2.1
        have f13 := HF11.out.2.2.2.2.1
        have c13 := HF11.out.2.2.2.2.2.1
        have c134 := HF11.out.2.2.2.2.2.2.1
        have c135 := HF11.out.2.2.2.2.2.2.2
        go_upto_region 20 with fail
        clear e12 e13 e14 f11 c11 f12 c12 f13 c13 c134 c135
        try simp only [Act.put]
        refine wp_region_held_drew (S := fun _ => True) (by kernel_rfl) trivial (fun hS => ?_)
        refine nany_take 0 86 (.pointer (some ⟨g7, 8, none⟩)) rfl rfl (by kernel_rfl) (by kernel_rfl) (by kernel_rfl) (fun _ _ _ h => h) (Or.inl ⟨by rfl, ?_⟩) trivial ?_
        · rintro w' -
          go_simp
        simp only [List.setIfInBounds_toArray, List.set_cons_zero, List.set_cons_succ]
        refine nany_take 2 88 (.slice (some ⟨b, off, none⟩) n c) rfl rfl (by kernel_rfl) (by kernel_rfl) (by kernel_rfl) (fun _ _ _ h => h) (Or.inl ⟨by rfl, ?_⟩) trivial ?_
        · rintro w' -
          go_simp
        simp only [List.setIfInBounds_toArray, List.set_cons_zero, List.set_cons_succ]
        refine nany_take 3 89 (.int .i64 hd) rfl rfl (by kernel_rfl) (by kernel_rfl) (by kernel_rfl) (fun _ _ _ h => h) (Or.inl ⟨by rfl, ?_⟩) trivial ?_
        · rintro w' -
          go_simp
        simp only [List.setIfInBounds_toArray, List.set_cons_zero, List.set_cons_succ]
        refine nany_take 4 90 (.int .i64 al) rfl rfl (by kernel_rfl) (by kernel_rfl) (by kernel_rfl) (fun _ _ _ h => h) (Or.inl ⟨by rfl, ?_⟩) trivial ?_
        · rintro w' -
          go_simp
        simp only [List.setIfInBounds_toArray, List.set_cons_zero, List.set_cons_succ]
        refine nany_take 5 91 (.slice aC nb (c - hN)) rfl rfl (by kernel_rfl) (by kernel_rfl) (by kernel_rfl) (fun _ _ _ h => h) (Or.inl ⟨by rfl, ?_⟩) trivial ?_
        · rintro w' -
          go_simp
        simp only [List.setIfInBounds_toArray, List.set_cons_zero, List.set_cons_succ]
        refine nany_one 1 (by kernel_rfl) ?_
        refine nop_value' 87 (v := .slice none 0 0) (w' := W14.drew) rfl (by rfl) rfl (by have hcc : W14.drew.cell? ⟨g7, 8, none⟩ = some (.slice none 0 0) := HC14.out; go_simp) ?_
        refine ⟨trivial, ?_⟩
        simp only [List.setIfInBounds_toArray, List.set_cons_zero, List.set_cons_succ]
        refine nany_one 6 (by kernel_rfl) ?_
        refine nop_value' 92 (v := .slice aD nb cD) (w' := w15) rfl (by rfl) rfl (ex_append (.tmp 87) (.tmp 91) 22 rfl 22 rfl (v := .slice none 0 0) (y := .slice aC nb (c - hN)) rfl rfl HAP.out) ?_
        refine ⟨trivial, ?_⟩
        simp only [List.setIfInBounds_toArray, List.set_cons_zero, List.set_cons_succ]
        refine nany_take 7 93 (.pointer (some ⟨g7, 8, none⟩)) rfl rfl (by kernel_rfl) (by kernel_rfl) (by kernel_rfl) (fun _ _ _ h => h) (Or.inl ⟨by rfl, ?_⟩) trivial ?_
        · rintro w' -
          go_simp
        simp only [List.setIfInBounds_toArray, List.set_cons_zero, List.set_cons_succ]
        refine nany_one 8 (by kernel_rfl) ?_
        refine nop_skip (w' := W16) rfl (by rfl) rfl (by rw [HW16.out]; exact ex_storeB _ _ rfl g7 8 aD nb cD rfl rfl HK15.out (by simp)) ?_
        refine ⟨trivial, ?_⟩
        refine wpAnyH_done (by kernel_rfl) ?_ _
        clear hS
        go_wp2_with (first | (refine wpList_load_row rfl 30 _ rfl g7 rfl 30 _ (0, 0) _ HK16.out Try.underlying30 rfl sizeDk ?_) | (refine wpList_store_row rfl 30 _ _ rfl g (pkC xs xd xp xi o mo wq xt (.slice aD nb cD)) rfl rfl 30 _ HG16.out sizeDk rfl (pkC_one _ _ _ _ _ _ _ _ _ rfl) ?_))
        refine bodyPost_ret (results_ct rfl _ _ g (pkC xs xd xp xi o mo wq xt (.slice aD nb cD)) _ _ rfl (setRow_heap _ g _ _ _ _ HG16.out) Try.underlying30 sizeDk) rfl ⟨aD, cD, rfl, (HY16.out.keep (fun x hx hl => setRow_other W16 g x _ hx.2)).weak (fun x hx _ => hx.1), HC16.out, ?_⟩
        have hbw := (setRow_mods W16 g (pkC xs xd xp xi o mo wq xt (.slice aD nb cD))).to_below HB16.out HB16.out.size (fun x hx => by rw [hx, HG.out]; exact Nat.le_refl _)
        first | exact hbw | (rw [HG.out] at hbw; exact hbw)
    · refine nop_value' 7 (v := .pointer (some ⟨g7, 0, none⟩)) (w' := vA) rfl (by rfl) rfl (by rw [HVA.out, ← HG7.out]; go_simp) ?_
      refine ⟨HSA.out, ?_⟩
      simp only [List.setIfInBounds_toArray, List.set_cons_zero, List.set_cons_succ]
      refine nany_one 1 (by kernel_rfl) ?_
      refine nop_callE 53 (f := 25) (args := #[.slice (some ⟨b, off, none⟩) n c, .int .i64 12, .int .i64 4]) (R := fun v w' => v = .int .i64 xs ∧ w' = vA) rfl (by rfl) rfl (by go_simp) ((HBE.out vA HSA.out 12 4 (by omega) (by omega)).mono (fun e w' h => ⟨_, h.1.trans (by rw [Hxs.out]), rfl, h.2⟩)) ?_
      rintro v w9 ⟨rfl, hw9⟩
      obtain rfl : vA = w9 := hw9.symm
      refine ⟨HSA.out, ?_⟩
      simp only [List.setIfInBounds_toArray, List.set_cons_zero, List.set_cons_succ]
      refine nany_take 2 54 (.int .u32 xs) rfl rfl (by kernel_rfl) (by kernel_rfl) (by kernel_rfl) (fun _ _ _ h => h) (Or.inl ⟨by rfl, ?_⟩) HSA.out ?_
      · rintro w' hS'
        go_simp
      simp only [List.setIfInBounds_toArray, List.set_cons_zero, List.set_cons_succ]
      refine nany_one 4 (by kernel_rfl) ?_
      refine nop_callE 56 (f := 25) (args := #[.slice (some ⟨b, off, none⟩) n c, .int .i64 16, .int .i64 4]) (R := fun v w' => v = .int .i64 xd ∧ w' = vA) rfl (by rfl) rfl (by go_simp) ((HBE.out vA HSA.out 16 4 (by omega) (by omega)).mono (fun e w' h => ⟨_, h.1.trans (by rw [Hxd.out]), rfl, h.2⟩)) ?_
      rintro v w9 ⟨rfl, hw9⟩
      obtain rfl : vA = w9 := hw9.symm
      refine ⟨HSA.out, ?_⟩
      simp only [List.setIfInBounds_toArray, List.set_cons_zero, List.set_cons_succ]
      refine nany_take 5 57 (.int .u32 xd) rfl rfl (by kernel_rfl) (by kernel_rfl) (by kernel_rfl) (fun _ _ _ h => h) (Or.inl ⟨by rfl, ?_⟩) HSA.out ?_
      · rintro w' hS'
        go_simp
      simp only [List.setIfInBounds_toArray, List.set_cons_zero, List.set_cons_succ]
      refine nany_one 11 (by kernel_rfl) ?_
      refine nop_callE 63 (f := 25) (args := #[.slice (some ⟨b, off, none⟩) n c, .int .i64 4, .int .i64 2]) (R := fun v w' => v = .int .i64 xi ∧ w' = vA) rfl (by rfl) rfl (by go_simp) ((HBE.out vA HSA.out 4 2 (by omega) (by omega)).mono (fun e w' h => ⟨_, h.1.trans (by rw [Hxi.out]), rfl, h.2⟩)) ?_
      rintro v w9 ⟨rfl, hw9⟩
      obtain rfl : vA = w9 := hw9.symm
      refine ⟨HSA.out, ?_⟩
      simp only [List.setIfInBounds_toArray, List.set_cons_zero, List.set_cons_succ]
      refine nany_take 16 68 (.agg (pkC xs xd xp xi 0 false false xt (.slice none 0 0))) rfl rfl (by kernel_rfl) (by kernel_rfl) (by kernel_rfl) (fun _ _ _ h => h) (Or.inl ⟨by rfl, ?_⟩) HSA.out ?_
      · rintro w' hS'
        go_simp
      simp only [List.setIfInBounds_toArray, List.set_cons_zero, List.set_cons_succ]
      refine nany_one 18 (by kernel_rfl) ?_
      refine nop_skip (w' := W11) rfl (by rfl) rfl (by rw [HW11.out]; exact ex_store 30 _ _ rfl g7 (pkC xs xd xp xi 0 false false xt (.slice none 0 0)) rfl rfl 30 _ HKA.out sizeDk rfl (pkC_one _ _ _ _ _ _ _ _ _ rfl)) ?_
      refine ⟨HS11.out, ?_⟩
      refine wpAnyH_done (by kernel_rfl) ?_ _
      clear hS
      have e12 := HE12.out
      have e13 := HE13.out
      have e14 := HE14.out
      have f11 := HF11.out.1
      have c11 := HF11.out.2.1
      have f12 := HF11.out.2.2.1
      have c12 := HF11.out.2.2.2.1
      have f13 := HF11.out.2.2.2.2.1
      have c13 := HF11.out.2.2.2.2.2.1
      have c134 := HF11.out.2.2.2.2.2.2.1
      have c135 := HF11.out.2.2.2.2.2.2.2
      go_upto_region 20 with fail
      clear e12 e13 e14 f11 c11 f12 c12 f13 c13 c134 c135
      try simp only [Act.put]
      refine wp_region_held_drew (S := fun _ => True) (by kernel_rfl) trivial (fun hS => ?_)
      refine nany_take 0 86 (.pointer (some ⟨g7, 8, none⟩)) rfl rfl (by kernel_rfl) (by kernel_rfl) (by kernel_rfl) (fun _ _ _ h => h) (Or.inl ⟨by rfl, ?_⟩) trivial ?_
      · rintro w' -
        go_simp
      simp only [List.setIfInBounds_toArray, List.set_cons_zero, List.set_cons_succ]
      refine nany_take 2 88 (.slice (some ⟨b, off, none⟩) n c) rfl rfl (by kernel_rfl) (by kernel_rfl) (by kernel_rfl) (fun _ _ _ h => h) (Or.inl ⟨by rfl, ?_⟩) trivial ?_
      · rintro w' -
        go_simp
      simp only [List.setIfInBounds_toArray, List.set_cons_zero, List.set_cons_succ]
      refine nany_take 3 89 (.int .i64 hd) rfl rfl (by kernel_rfl) (by kernel_rfl) (by kernel_rfl) (fun _ _ _ h => h) (Or.inl ⟨by rfl, ?_⟩) trivial ?_
      · rintro w' -
        go_simp
      simp only [List.setIfInBounds_toArray, List.set_cons_zero, List.set_cons_succ]
      refine nany_take 4 90 (.int .i64 al) rfl rfl (by kernel_rfl) (by kernel_rfl) (by kernel_rfl) (fun _ _ _ h => h) (Or.inl ⟨by rfl, ?_⟩) trivial ?_
      · rintro w' -
        go_simp
      simp only [List.setIfInBounds_toArray, List.set_cons_zero, List.set_cons_succ]
      refine nany_take 5 91 (.slice aC nb (c - hN)) rfl rfl (by kernel_rfl) (by kernel_rfl) (by kernel_rfl) (fun _ _ _ h => h) (Or.inl ⟨by rfl, ?_⟩) trivial ?_
      · rintro w' -
        go_simp
      simp only [List.setIfInBounds_toArray, List.set_cons_zero, List.set_cons_succ]
      refine nany_one 1 (by kernel_rfl) ?_
      refine nop_value' 87 (v := .slice none 0 0) (w' := W14.drew) rfl (by rfl) rfl (by have hcc : W14.drew.cell? ⟨g7, 8, none⟩ = some (.slice none 0 0) := HC14.out; go_simp) ?_
      refine ⟨trivial, ?_⟩
      simp only [List.setIfInBounds_toArray, List.set_cons_zero, List.set_cons_succ]
      refine nany_one 6 (by kernel_rfl) ?_
      refine nop_value' 92 (v := .slice aD nb cD) (w' := w15) rfl (by rfl) rfl (ex_append (.tmp 87) (.tmp 91) 22 rfl 22 rfl (v := .slice none 0 0) (y := .slice aC nb (c - hN)) rfl rfl HAP.out) ?_
      refine ⟨trivial, ?_⟩
      simp only [List.setIfInBounds_toArray, List.set_cons_zero, List.set_cons_succ]
      refine nany_take 7 93 (.pointer (some ⟨g7, 8, none⟩)) rfl rfl (by kernel_rfl) (by kernel_rfl) (by kernel_rfl) (fun _ _ _ h => h) (Or.inl ⟨by rfl, ?_⟩) trivial ?_
      · rintro w' -
        go_simp
      simp only [List.setIfInBounds_toArray, List.set_cons_zero, List.set_cons_succ]
      refine nany_one 8 (by kernel_rfl) ?_
      refine nop_skip (w' := W16) rfl (by rfl) rfl (by rw [HW16.out]; exact ex_storeB _ _ rfl g7 8 aD nb cD rfl rfl HK15.out (by simp)) ?_
      refine ⟨trivial, ?_⟩
      refine wpAnyH_done (by kernel_rfl) ?_ _
      clear hS
      go_wp2_with (first | (refine wpList_load_row rfl 30 _ rfl g7 rfl 30 _ (0, 0) _ HK16.out Try.underlying30 rfl sizeDk ?_) | (refine wpList_store_row rfl 30 _ _ rfl g (pkC xs xd xp xi o mo wq xt (.slice aD nb cD)) rfl rfl 30 _ HG16.out sizeDk rfl (pkC_one _ _ _ _ _ _ _ _ _ rfl) ?_))
      refine bodyPost_ret (results_ct rfl _ _ g (pkC xs xd xp xi o mo wq xt (.slice aD nb cD)) _ _ rfl (setRow_heap _ g _ _ _ _ HG16.out) Try.underlying30 sizeDk) rfl ⟨aD, cD, rfl, (HY16.out.keep (fun x hx hl => setRow_other W16 g x _ hx.2)).weak (fun x hx _ => hx.1), HC16.out, ?_⟩
      have hbw := (setRow_mods W16 g (pkC xs xd xp xi o mo wq xt (.slice aD nb cD))).to_below HB16.out HB16.out.size (fun x hx => by rw [hx, HG.out]; exact Nat.le_refl _)
      first | exact hbw | (rw [HG.out] at hbw; exact hbw)
  · have hz1 : (o == 0) = false := by simp [ho0]
    have hz2 : wq = false := by rw [HWQ.out]; simp [ho0]
    rw [hz2] at HE14
    clear ho0 hz2
    go_enter Try.func9, Try.ntmps9
    go_upto_region 16 with (first
      | (go_at_call 25; refine HA2.out.mono ?_; rintro e w9 ⟨rfl, hw9⟩; obtain rfl : W1 = w9 := hw9.symm; clear HA2)
      | (go_at_call 26; refine HIN.out.mono ?_; rintro e w9 ⟨rfl, hw9⟩; obtain rfl : W1 = w9 := hw9.symm; clear HIN)
      | (go_at_call 25; refine HA6.out.mono ?_; rintro e w9 ⟨rfl, hw9⟩; obtain rfl : W1 = w9 := hw9.symm; clear HA6))
    clear hcutH
    try simp only [Act.put]
    refine wp_region_held_drew (S := fun W => Bytes W (some ⟨b, off, none⟩) l) (by kernel_rfl) HBW.out (fun hS => ?_)
    rw [← HV0.out]
    rw [← HV0.out] at hS
    refine nany_take 0 52 (.slice (some ⟨b, off, none⟩) n c) rfl rfl (by kernel_rfl) (by kernel_rfl) (by kernel_rfl) (fun _ _ _ h => h) (Or.inl ⟨by rfl, ?_⟩) hS ?_
    · rintro w' hS'
      go_simp
    simp only [List.setIfInBounds_toArray, List.set_cons_zero, List.set_cons_succ]
    refine nany_take 3 55 (.slice (some ⟨b, off, none⟩) n c) rfl rfl (by kernel_rfl) (by kernel_rfl) (by kernel_rfl) (fun _ _ _ h => h) (Or.inl ⟨by rfl, ?_⟩) hS ?_
    · rintro w' hS'
      go_simp
    simp only [List.setIfInBounds_toArray, List.set_cons_zero, List.set_cons_succ]
    refine nany_take 6 58 (.slice (some ⟨b, off, none⟩) n c) rfl rfl (by kernel_rfl) (by kernel_rfl) (by kernel_rfl) (fun _ _ _ h => h) (Or.inl ⟨by rfl, ?_⟩) hS ?_
    · rintro w' hS'
      go_simp
    simp only [List.setIfInBounds_toArray, List.set_cons_zero, List.set_cons_succ]
    refine nany_take 7 59 (.pointer (some ⟨b, off + 9, none⟩)) rfl rfl (by kernel_rfl) (by kernel_rfl) (by kernel_rfl) (fun _ _ _ h => h) (Or.inl ⟨by rfl, ?_⟩) hS ?_
    · rintro w' hS'
      go_simp
    simp only [List.setIfInBounds_toArray, List.set_cons_zero, List.set_cons_succ]
    refine nany_take 8 60 (.int .u8 xp) rfl rfl (by kernel_rfl) (by kernel_rfl) (by kernel_rfl) (fun _ _ _ h => h) (Or.inl ⟨by rfl, ?_⟩) hS ?_
    · rintro w' hS'
      have hq := hS'.at_ 9 (by have := HN.out; omega); rw [HX9.out] at hq; go_simp
    simp only [List.setIfInBounds_toArray, List.set_cons_zero, List.set_cons_succ]
    refine nany_take 9 61 (.int .i64 xp) rfl rfl (by kernel_rfl) (by kernel_rfl) (by kernel_rfl) (fun _ _ _ h => h) (Or.inl ⟨by rfl, ?_⟩) hS ?_
    · rintro w' hS'
      go_simp
    simp only [List.setIfInBounds_toArray, List.set_cons_zero, List.set_cons_succ]
    refine nany_take 10 62 (.slice (some ⟨b, off, none⟩) n c) rfl rfl (by kernel_rfl) (by kernel_rfl) (by kernel_rfl) (fun _ _ _ h => h) (Or.inl ⟨by rfl, ?_⟩) hS ?_
    · rintro w' hS'
      go_simp
    simp only [List.setIfInBounds_toArray, List.set_cons_zero, List.set_cons_succ]
    refine nany_take 12 64 (.slice (some ⟨b, off, none⟩) n c) rfl rfl (by kernel_rfl) (by kernel_rfl) (by kernel_rfl) (fun _ _ _ h => h) (Or.inl ⟨by rfl, ?_⟩) hS ?_
    · rintro w' hS'
      go_simp
    simp only [List.setIfInBounds_toArray, List.set_cons_zero, List.set_cons_succ]
    refine nany_take 13 65 (.pointer (some ⟨b, off + 8, none⟩)) rfl rfl (by kernel_rfl) (by kernel_rfl) (by kernel_rfl) (fun _ _ _ h => h) (Or.inl ⟨by rfl, ?_⟩) hS ?_
    · rintro w' hS'
      go_simp
    simp only [List.setIfInBounds_toArray, List.set_cons_zero, List.set_cons_succ]
    refine nany_take 14 66 (.int .u8 xt) rfl rfl (by kernel_rfl) (by kernel_rfl) (by kernel_rfl) (fun _ _ _ h => h) (Or.inl ⟨by rfl, ?_⟩) hS ?_
    · rintro w' hS'
      have hq := hS'.at_ 8 (by have := HN.out; omega); rw [HX8.out] at hq; go_simp
    simp only [List.setIfInBounds_toArray, List.set_cons_zero, List.set_cons_succ]
    refine nany_take 15 67 (.int .i64 xt) rfl rfl (by kernel_rfl) (by kernel_rfl) (by kernel_rfl) (fun _ _ _ h => h) (Or.inl ⟨by rfl, ?_⟩) hS ?_
    · rintro w' hS'
      go_simp
    simp only [List.setIfInBounds_toArray, List.set_cons_zero, List.set_cons_succ]
    refine nany_two 1 17 (by kernel_rfl) ?_ ?_
    · refine nop_callE 53 (f := 25) (args := #[.slice (some ⟨b, off, none⟩) n c, .int .i64 12, .int .i64 4]) (R := fun v w' => v = .int .i64 xs ∧ w' = v0) rfl (by rfl) rfl (by go_simp) ((HBE.out v0 hS 12 4 (by omega) (by omega)).mono (fun e w' h => ⟨_, h.1.trans (by rw [Hxs.out]), rfl, h.2⟩)) ?_
      rintro v w9 ⟨rfl, hw9⟩
      obtain rfl : v0 = w9 := hw9.symm
      refine ⟨hS, ?_⟩
      simp only [List.setIfInBounds_toArray, List.set_cons_zero, List.set_cons_succ]
      refine nany_take 2 54 (.int .u32 xs) rfl rfl (by kernel_rfl) (by kernel_rfl) (by kernel_rfl) (fun _ _ _ h => h) (Or.inl ⟨by rfl, ?_⟩) hS ?_
      · rintro w' hS'
        go_simp
      simp only [List.setIfInBounds_toArray, List.set_cons_zero, List.set_cons_succ]
      refine nany_two 4 17 (by kernel_rfl) ?_ ?_
      · refine nop_callE 56 (f := 25) (args := #[.slice (some ⟨b, off, none⟩) n c, .int .i64 16, .int .i64 4]) (R := fun v w' => v = .int .i64 xd ∧ w' = v0) rfl (by rfl) rfl (by go_simp) ((HBE.out v0 hS 16 4 (by omega) (by omega)).mono (fun e w' h => ⟨_, h.1.trans (by rw [Hxd.out]), rfl, h.2⟩)) ?_
        rintro v w9 ⟨rfl, hw9⟩
        obtain rfl : v0 = w9 := hw9.symm
        refine ⟨hS, ?_⟩
        simp only [List.setIfInBounds_toArray, List.set_cons_zero, List.set_cons_succ]
        refine nany_take 5 57 (.int .u32 xd) rfl rfl (by kernel_rfl) (by kernel_rfl) (by kernel_rfl) (fun _ _ _ h => h) (Or.inl ⟨by rfl, ?_⟩) hS ?_
        · rintro w' hS'
          go_simp
        simp only [List.setIfInBounds_toArray, List.set_cons_zero, List.set_cons_succ]
        refine nany_two 11 17 (by kernel_rfl) ?_ ?_
        · refine nop_callE 63 (f := 25) (args := #[.slice (some ⟨b, off, none⟩) n c, .int .i64 4, .int .i64 2]) (R := fun v w' => v = .int .i64 xi ∧ w' = v0) rfl (by rfl) rfl (by go_simp) ((HBE.out v0 hS 4 2 (by omega) (by omega)).mono (fun e w' h => ⟨_, h.1.trans (by rw [Hxi.out]), rfl, h.2⟩)) ?_
          rintro v w9 ⟨rfl, hw9⟩
          obtain rfl : v0 = w9 := hw9.symm
          refine ⟨hS, ?_⟩
          simp only [List.setIfInBounds_toArray, List.set_cons_zero, List.set_cons_succ]
          refine nany_take 16 68 (.agg (pkC xs xd xp xi 0 false false xt (.slice none 0 0))) rfl rfl (by kernel_rfl) (by kernel_rfl) (by kernel_rfl) (fun _ _ _ h => h) (Or.inl ⟨by rfl, ?_⟩) hS ?_
          · rintro w' hS'
            go_simp
          simp only [List.setIfInBounds_toArray, List.set_cons_zero, List.set_cons_succ]
          refine nany_one 17 (by kernel_rfl) ?_
          refine nop_value' 7 (v := .pointer (some ⟨g7, 0, none⟩)) (w' := vA) rfl (by rfl) rfl (by rw [HVA.out, ← HG7.out]; go_simp) ?_
          refine ⟨HSA.out, ?_⟩
          simp only [List.setIfInBounds_toArray, List.set_cons_zero, List.set_cons_succ]
          refine nany_one 18 (by kernel_rfl) ?_
          refine nop_skip (w' := W11) rfl (by rfl) rfl (by rw [HW11.out]; exact ex_store 30 _ _ rfl g7 (pkC xs xd xp xi 0 false false xt (.slice none 0 0)) rfl rfl 30 _ HKA.out sizeDk rfl (pkC_one _ _ _ _ _ _ _ _ _ rfl)) ?_
          refine ⟨HS11.out, ?_⟩
          refine wpAnyH_done (by kernel_rfl) ?_ _
          clear hS
          have e12 := HE12.out
          have e13 := HE13.out
          have e14 := HE14.out
          have f11 := HF11.out.1
          have c11 := HF11.out.2.1
          have f12 := HF11.out.2.2.1
          have c12 := HF11.out.2.2.2.1
          have f13 := HF11.out.2.2.2.2.1
          have c13 := HF11.out.2.2.2.2.2.1
          have c134 := HF11.out.2.2.2.2.2.2.1
          have c135 := HF11.out.2.2.2.2.2.2.2
          go_upto_region 20 with fail
          clear e12 e13 e14 f11 c11 f12 c12 f13 c13 c134 c135
          try simp only [Act.put]
          refine wp_region_held_drew (S := fun _ => True) (by kernel_rfl) trivial (fun hS => ?_)
          refine nany_take 0 86 (.pointer (some ⟨g7, 8, none⟩)) rfl rfl (by kernel_rfl) (by kernel_rfl) (by kernel_rfl) (fun _ _ _ h => h) (Or.inl ⟨by rfl, ?_⟩) trivial ?_
          · rintro w' -
            go_simp
          simp only [List.setIfInBounds_toArray, List.set_cons_zero, List.set_cons_succ]
          refine nany_take 2 88 (.slice (some ⟨b, off, none⟩) n c) rfl rfl (by kernel_rfl) (by kernel_rfl) (by kernel_rfl) (fun _ _ _ h => h) (Or.inl ⟨by rfl, ?_⟩) trivial ?_
          · rintro w' -
            go_simp
          simp only [List.setIfInBounds_toArray, List.set_cons_zero, List.set_cons_succ]
          refine nany_take 3 89 (.int .i64 hd) rfl rfl (by kernel_rfl) (by kernel_rfl) (by kernel_rfl) (fun _ _ _ h => h) (Or.inl ⟨by rfl, ?_⟩) trivial ?_
          · rintro w' -
            go_simp
          simp only [List.setIfInBounds_toArray, List.set_cons_zero, List.set_cons_succ]
          refine nany_take 4 90 (.int .i64 al) rfl rfl (by kernel_rfl) (by kernel_rfl) (by kernel_rfl) (fun _ _ _ h => h) (Or.inl ⟨by rfl, ?_⟩) trivial ?_
          · rintro w' -
            go_simp
          simp only [List.setIfInBounds_toArray, List.set_cons_zero, List.set_cons_succ]
          refine nany_take 5 91 (.slice aC nb (c - hN)) rfl rfl (by kernel_rfl) (by kernel_rfl) (by kernel_rfl) (fun _ _ _ h => h) (Or.inl ⟨by rfl, ?_⟩) trivial ?_
          · rintro w' -
            go_simp
          simp only [List.setIfInBounds_toArray, List.set_cons_zero, List.set_cons_succ]
          refine nany_one 1 (by kernel_rfl) ?_
          refine nop_value' 87 (v := .slice none 0 0) (w' := W14.drew) rfl (by rfl) rfl (by have hcc : W14.drew.cell? ⟨g7, 8, none⟩ = some (.slice none 0 0) := HC14.out; go_simp) ?_
          refine ⟨trivial, ?_⟩
          simp only [List.setIfInBounds_toArray, List.set_cons_zero, List.set_cons_succ]
          refine nany_one 6 (by kernel_rfl) ?_
          refine nop_value' 92 (v := .slice aD nb cD) (w' := w15) rfl (by rfl) rfl (ex_append (.tmp 87) (.tmp 91) 22 rfl 22 rfl (v := .slice none 0 0) (y := .slice aC nb (c - hN)) rfl rfl HAP.out) ?_
          refine ⟨trivial, ?_⟩
          simp only [List.setIfInBounds_toArray, List.set_cons_zero, List.set_cons_succ]
          refine nany_take 7 93 (.pointer (some ⟨g7, 8, none⟩)) rfl rfl (by kernel_rfl) (by kernel_rfl) (by kernel_rfl) (fun _ _ _ h => h) (Or.inl ⟨by rfl, ?_⟩) trivial ?_
          · rintro w' -
            go_simp
          simp only [List.setIfInBounds_toArray, List.set_cons_zero, List.set_cons_succ]
          refine nany_one 8 (by kernel_rfl) ?_
          refine nop_skip (w' := W16) rfl (by rfl) rfl (by rw [HW16.out]; exact ex_storeB _ _ rfl g7 8 aD nb cD rfl rfl HK15.out (by simp)) ?_
          refine ⟨trivial, ?_⟩
          refine wpAnyH_done (by kernel_rfl) ?_ _
          clear hS
          go_wp2_with (first | (refine wpList_load_row rfl 30 _ rfl g7 rfl 30 _ (0, 0) _ HK16.out Try.underlying30 rfl sizeDk ?_) | (refine wpList_store_row rfl 30 _ _ rfl g (pkC xs xd xp xi o mo wq xt (.slice aD nb cD)) rfl rfl 30 _ HG16.out sizeDk rfl (pkC_one _ _ _ _ _ _ _ _ _ rfl) ?_))
          refine bodyPost_ret (results_ct rfl _ _ g (pkC xs xd xp xi o mo wq xt (.slice aD nb cD)) _ _ rfl (setRow_heap _ g _ _ _ _ HG16.out) Try.underlying30 sizeDk) rfl ⟨aD, cD, rfl, (HY16.out.keep (fun x hx hl => setRow_other W16 g x _ hx.2)).weak (fun x hx _ => hx.1), HC16.out, ?_⟩
          have hbw := (setRow_mods W16 g (pkC xs xd xp xi o mo wq xt (.slice aD nb cD))).to_below HB16.out HB16.out.size (fun x hx => by rw [hx, HG.out]; exact Nat.le_refl _)
          first | exact hbw | (rw [HG.out] at hbw; exact hbw)
        · refine nop_value' 7 (v := .pointer (some ⟨g7, 0, none⟩)) (w' := vA) rfl (by rfl) rfl (by rw [HVA.out, ← HG7.out]; go_simp) ?_
          refine ⟨HSA.out, ?_⟩
          simp only [List.setIfInBounds_toArray, List.set_cons_zero, List.set_cons_succ]
          refine nany_one 11 (by kernel_rfl) ?_
          refine nop_callE 63 (f := 25) (args := #[.slice (some ⟨b, off, none⟩) n c, .int .i64 4, .int .i64 2]) (R := fun v w' => v = .int .i64 xi ∧ w' = vA) rfl (by rfl) rfl (by go_simp) ((HBE.out vA HSA.out 4 2 (by omega) (by omega)).mono (fun e w' h => ⟨_, h.1.trans (by rw [Hxi.out]), rfl, h.2⟩)) ?_
          rintro v w9 ⟨rfl, hw9⟩
          obtain rfl : vA = w9 := hw9.symm
          refine ⟨HSA.out, ?_⟩
          simp only [List.setIfInBounds_toArray, List.set_cons_zero, List.set_cons_succ]
          refine nany_take 16 68 (.agg (pkC xs xd xp xi 0 false false xt (.slice none 0 0))) rfl rfl (by kernel_rfl) (by kernel_rfl) (by kernel_rfl) (fun _ _ _ h => h) (Or.inl ⟨by rfl, ?_⟩) HSA.out ?_
          · rintro w' hS'
            go_simp
          simp only [List.setIfInBounds_toArray, List.set_cons_zero, List.set_cons_succ]
          refine nany_one 18 (by kernel_rfl) ?_
          refine nop_skip (w' := W11) rfl (by rfl) rfl (by rw [HW11.out]; exact ex_store 30 _ _ rfl g7 (pkC xs xd xp xi 0 false false xt (.slice none 0 0)) rfl rfl 30 _ HKA.out sizeDk rfl (pkC_one _ _ _ _ _ _ _ _ _ rfl)) ?_
          refine ⟨HS11.out, ?_⟩
          refine wpAnyH_done (by kernel_rfl) ?_ _
          clear hS
          have e12 := HE12.out
          have e13 := HE13.out
          have e14 := HE14.out
          have f11 := HF11.out.1
          have c11 := HF11.out.2.1
          have f12 := HF11.out.2.2.1
          have c12 := HF11.out.2.2.2.1
          have f13 := HF11.out.2.2.2.2.1
          have c13 := HF11.out.2.2.2.2.2.1
          have c134 := HF11.out.2.2.2.2.2.2.1
          have c135 := HF11.out.2.2.2.2.2.2.2
          go_upto_region 20 with fail
          clear e12 e13 e14 f11 c11 f12 c12 f13 c13 c134 c135
          try simp only [Act.put]
          refine wp_region_held_drew (S := fun _ => True) (by kernel_rfl) trivial (fun hS => ?_)
          refine nany_take 0 86 (.pointer (some ⟨g7, 8, none⟩)) rfl rfl (by kernel_rfl) (by kernel_rfl) (by kernel_rfl) (fun _ _ _ h => h) (Or.inl ⟨by rfl, ?_⟩) trivial ?_
          · rintro w' -
            go_simp
          simp only [List.setIfInBounds_toArray, List.set_cons_zero, List.set_cons_succ]
          refine nany_take 2 88 (.slice (some ⟨b, off, none⟩) n c) rfl rfl (by kernel_rfl) (by kernel_rfl) (by kernel_rfl) (fun _ _ _ h => h) (Or.inl ⟨by rfl, ?_⟩) trivial ?_
          · rintro w' -
            go_simp
          simp only [List.setIfInBounds_toArray, List.set_cons_zero, List.set_cons_succ]
          refine nany_take 3 89 (.int .i64 hd) rfl rfl (by kernel_rfl) (by kernel_rfl) (by kernel_rfl) (fun _ _ _ h => h) (Or.inl ⟨by rfl, ?_⟩) trivial ?_
          · rintro w' -
            go_simp
          simp only [List.setIfInBounds_toArray, List.set_cons_zero, List.set_cons_succ]
          refine nany_take 4 90 (.int .i64 al) rfl rfl (by kernel_rfl) (by kernel_rfl) (by kernel_rfl) (fun _ _ _ h => h) (Or.inl ⟨by rfl, ?_⟩) trivial ?_
          · rintro w' -
            go_simp
          simp only [List.setIfInBounds_toArray, List.set_cons_zero, List.set_cons_succ]
          refine nany_take 5 91 (.slice aC nb (c - hN)) rfl rfl (by kernel_rfl) (by kernel_rfl) (by kernel_rfl) (fun _ _ _ h => h) (Or.inl ⟨by rfl, ?_⟩) trivial ?_
          · rintro w' -
            go_simp
          simp only [List.setIfInBounds_toArray, List.set_cons_zero, List.set_cons_succ]
          refine nany_one 1 (by kernel_rfl) ?_
          refine nop_value' 87 (v := .slice none 0 0) (w' := W14.drew) rfl (by rfl) rfl (by have hcc : W14.drew.cell? ⟨g7, 8, none⟩ = some (.slice none 0 0) := HC14.out; go_simp) ?_
          refine ⟨trivial, ?_⟩
          simp only [List.setIfInBounds_toArray, List.set_cons_zero, List.set_cons_succ]
          refine nany_one 6 (by kernel_rfl) ?_
          refine nop_value' 92 (v := .slice aD nb cD) (w' := w15) rfl (by rfl) rfl (ex_append (.tmp 87) (.tmp 91) 22 rfl 22 rfl (v := .slice none 0 0) (y := .slice aC nb (c - hN)) rfl rfl HAP.out) ?_
          refine ⟨trivial, ?_⟩
          simp only [List.setIfInBounds_toArray, List.set_cons_zero, List.set_cons_succ]
          refine nany_take 7 93 (.pointer (some ⟨g7, 8, none⟩)) rfl rfl (by kernel_rfl) (by kernel_rfl) (by kernel_rfl) (fun _ _ _ h => h) (Or.inl ⟨by rfl, ?_⟩) trivial ?_
          · rintro w' -
            go_simp
          simp only [List.setIfInBounds_toArray, List.set_cons_zero, List.set_cons_succ]
          refine nany_one 8 (by kernel_rfl) ?_
          refine nop_skip (w' := W16) rfl (by rfl) rfl (by rw [HW16.out]; exact ex_storeB _ _ rfl g7 8 aD nb cD rfl rfl HK15.out (by simp)) ?_
          refine ⟨trivial, ?_⟩
          refine wpAnyH_done (by kernel_rfl) ?_ _
          clear hS
          go_wp2_with (first | (refine wpList_load_row rfl 30 _ rfl g7 rfl 30 _ (0, 0) _ HK16.out Try.underlying30 rfl sizeDk ?_) | (refine wpList_store_row rfl 30 _ _ rfl g (pkC xs xd xp xi o mo wq xt (.slice aD nb cD)) rfl rfl 30 _ HG16.out sizeDk rfl (pkC_one _ _ _ _ _ _ _ _ _ rfl) ?_))
          refine bodyPost_ret (results_ct rfl _ _ g (pkC xs xd xp xi o mo wq xt (.slice aD nb cD)) _ _ rfl (setRow_heap _ g _ _ _ _ HG16.out) Try.underlying30 sizeDk) rfl ⟨aD, cD, rfl, (HY16.out.keep (fun x hx hl => setRow_other W16 g x _ hx.2)).weak (fun x hx _ => hx.1), HC16.out, ?_⟩
          have hbw := (setRow_mods W16 g (pkC xs xd xp xi o mo wq xt (.slice aD nb cD))).to_below HB16.out HB16.out.size (fun x hx => by rw [hx, HG.out]; exact Nat.le_refl _)
          first | exact hbw | (rw [HG.out] at hbw; exact hbw)
      · refine nop_value' 7 (v := .pointer (some ⟨g7, 0, none⟩)) (w' := vA) rfl (by rfl) rfl (by rw [HVA.out, ← HG7.out]; go_simp) ?_
        refine ⟨HSA.out, ?_⟩
        simp only [List.setIfInBounds_toArray, List.set_cons_zero, List.set_cons_succ]
        refine nany_one 4 (by kernel_rfl) ?_
        refine nop_callE 56 (f := 25) (args := #[.slice (some ⟨b, off, none⟩) n c, .int .i64 16, .int .i64 4]) (R := fun v w' => v = .int .i64 xd ∧ w' = vA) rfl (by rfl) rfl (by go_simp) ((HBE.out vA HSA.out 16 4 (by omega) (by omega)).mono (fun e w' h => ⟨_, h.1.trans (by rw [Hxd.out]), rfl, h.2⟩)) ?_
        rintro v w9 ⟨rfl, hw9⟩
        obtain rfl : vA = w9 := hw9.symm
        refine ⟨HSA.out, ?_⟩
        simp only [List.setIfInBounds_toArray, List.set_cons_zero, List.set_cons_succ]
        refine nany_take 5 57 (.int .u32 xd) rfl rfl (by kernel_rfl) (by kernel_rfl) (by kernel_rfl) (fun _ _ _ h => h) (Or.inl ⟨by rfl, ?_⟩) HSA.out ?_
        · rintro w' hS'
          go_simp
        simp only [List.setIfInBounds_toArray, List.set_cons_zero, List.set_cons_succ]
        refine nany_one 11 (by kernel_rfl) ?_
        refine nop_callE 63 (f := 25) (args := #[.slice (some ⟨b, off, none⟩) n c, .int .i64 4, .int .i64 2]) (R := fun v w' => v = .int .i64 xi ∧ w' = vA) rfl (by rfl) rfl (by go_simp) ((HBE.out vA HSA.out 4 2 (by omega) (by omega)).mono (fun e w' h => ⟨_, h.1.trans (by rw [Hxi.out]), rfl, h.2⟩)) ?_
        rintro v w9 ⟨rfl, hw9⟩
        obtain rfl : vA = w9 := hw9.symm
        refine ⟨HSA.out, ?_⟩
        simp only [List.setIfInBounds_toArray, List.set_cons_zero, List.set_cons_succ]
        refine nany_take 16 68 (.agg (pkC xs xd xp xi 0 false false xt (.slice none 0 0))) rfl rfl (by kernel_rfl) (by kernel_rfl) (by kernel_rfl) (fun _ _ _ h => h) (Or.inl ⟨by rfl, ?_⟩) HSA.out ?_
        · rintro w' hS'
          go_simp
        simp only [List.setIfInBounds_toArray, List.set_cons_zero, List.set_cons_succ]
        refine nany_one 18 (by kernel_rfl) ?_
        refine nop_skip (w' := W11) rfl (by rfl) rfl (by rw [HW11.out]; exact ex_store 30 _ _ rfl g7 (pkC xs xd xp xi 0 false false xt (.slice none 0 0)) rfl rfl 30 _ HKA.out sizeDk rfl (pkC_one _ _ _ _ _ _ _ _ _ rfl)) ?_
        refine ⟨HS11.out, ?_⟩
        refine wpAnyH_done (by kernel_rfl) ?_ _
        clear hS
        have e12 := HE12.out
        have e13 := HE13.out
        have e14 := HE14.out
        have f11 := HF11.out.1
        have c11 := HF11.out.2.1
        have f12 := HF11.out.2.2.1
        have c12 := HF11.out.2.2.2.1
        have f13 := HF11.out.2.2.2.2.1
        have c13 := HF11.out.2.2.2.2.2.1
        have c134 := HF11.out.2.2.2.2.2.2.1
        have c135 := HF11.out.2.2.2.2.2.2.2
        go_upto_region 20 with fail
        clear e12 e13 e14 f11 c11 f12 c12 f13 c13 c134 c135
        try simp only [Act.put]
        refine wp_region_held_drew (S := fun _ => True) (by kernel_rfl) trivial (fun hS => ?_)
        refine nany_take 0 86 (.pointer (some ⟨g7, 8, none⟩)) rfl rfl (by kernel_rfl) (by kernel_rfl) (by kernel_rfl) (fun _ _ _ h => h) (Or.inl ⟨by rfl, ?_⟩) trivial ?_
        · rintro w' -
          go_simp
        simp only [List.setIfInBounds_toArray, List.set_cons_zero, List.set_cons_succ]
        refine nany_take 2 88 (.slice (some ⟨b, off, none⟩) n c) rfl rfl (by kernel_rfl) (by kernel_rfl) (by kernel_rfl) (fun _ _ _ h => h) (Or.inl ⟨by rfl, ?_⟩) trivial ?_
        · rintro w' -
          go_simp
        simp only [List.setIfInBounds_toArray, List.set_cons_zero, List.set_cons_succ]
        refine nany_take 3 89 (.int .i64 hd) rfl rfl (by kernel_rfl) (by kernel_rfl) (by kernel_rfl) (fun _ _ _ h => h) (Or.inl ⟨by rfl, ?_⟩) trivial ?_
        · rintro w' -
          go_simp
        simp only [List.setIfInBounds_toArray, List.set_cons_zero, List.set_cons_succ]
        refine nany_take 4 90 (.int .i64 al) rfl rfl (by kernel_rfl) (by kernel_rfl) (by kernel_rfl) (fun _ _ _ h => h) (Or.inl ⟨by rfl, ?_⟩) trivial ?_
        · rintro w' -
          go_simp
        simp only [List.setIfInBounds_toArray, List.set_cons_zero, List.set_cons_succ]
        refine nany_take 5 91 (.slice aC nb (c - hN)) rfl rfl (by kernel_rfl) (by kernel_rfl) (by kernel_rfl) (fun _ _ _ h => h) (Or.inl ⟨by rfl, ?_⟩) trivial ?_
        · rintro w' -
          go_simp
        simp only [List.setIfInBounds_toArray, List.set_cons_zero, List.set_cons_succ]
        refine nany_one 1 (by kernel_rfl) ?_
        refine nop_value' 87 (v := .slice none 0 0) (w' := W14.drew) rfl (by rfl) rfl (by have hcc : W14.drew.cell? ⟨g7, 8, none⟩ = some (.slice none 0 0) := HC14.out; go_simp) ?_
        refine ⟨trivial, ?_⟩
        simp only [List.setIfInBounds_toArray, List.set_cons_zero, List.set_cons_succ]
        refine nany_one 6 (by kernel_rfl) ?_
        refine nop_value' 92 (v := .slice aD nb cD) (w' := w15) rfl (by rfl) rfl (ex_append (.tmp 87) (.tmp 91) 22 rfl 22 rfl (v := .slice none 0 0) (y := .slice aC nb (c - hN)) rfl rfl HAP.out) ?_
        refine ⟨trivial, ?_⟩
        simp only [List.setIfInBounds_toArray, List.set_cons_zero, List.set_cons_succ]
        refine nany_take 7 93 (.pointer (some ⟨g7, 8, none⟩)) rfl rfl (by kernel_rfl) (by kernel_rfl) (by kernel_rfl) (fun _ _ _ h => h) (Or.inl ⟨by rfl, ?_⟩) trivial ?_
        · rintro w' -
          go_simp
        simp only [List.setIfInBounds_toArray, List.set_cons_zero, List.set_cons_succ]
        refine nany_one 8 (by kernel_rfl) ?_
        refine nop_skip (w' := W16) rfl (by rfl) rfl (by rw [HW16.out]; exact ex_storeB _ _ rfl g7 8 aD nb cD rfl rfl HK15.out (by simp)) ?_
        refine ⟨trivial, ?_⟩
        refine wpAnyH_done (by kernel_rfl) ?_ _
        clear hS
        go_wp2_with (first | (refine wpList_load_row rfl 30 _ rfl g7 rfl 30 _ (0, 0) _ HK16.out Try.underlying30 rfl sizeDk ?_) | (refine wpList_store_row rfl 30 _ _ rfl g (pkC xs xd xp xi o mo wq xt (.slice aD nb cD)) rfl rfl 30 _ HG16.out sizeDk rfl (pkC_one _ _ _ _ _ _ _ _ _ rfl) ?_))
        refine bodyPost_ret (results_ct rfl _ _ g (pkC xs xd xp xi o mo wq xt (.slice aD nb cD)) _ _ rfl (setRow_heap _ g _ _ _ _ HG16.out) Try.underlying30 sizeDk) rfl ⟨aD, cD, rfl, (HY16.out.keep (fun x hx hl => setRow_other W16 g x _ hx.2)).weak (fun x hx _ => hx.1), HC16.out, ?_⟩
        have hbw := (setRow_mods W16 g (pkC xs xd xp xi o mo wq xt (.slice aD nb cD))).to_below HB16.out HB16.out.size (fun x hx => by rw [hx, HG.out]; exact Nat.le_refl _)
        first | exact hbw | (rw [HG.out] at hbw; exact hbw)
    · refine nop_value' 7 (v := .pointer (some ⟨g7, 0, none⟩)) (w' := vA) rfl (by rfl) rfl (by rw [HVA.out, ← HG7.out]; go_simp) ?_
      refine ⟨HSA.out, ?_⟩
      simp only [List.setIfInBounds_toArray, List.set_cons_zero, List.set_cons_succ]
      refine nany_one 1 (by kernel_rfl) ?_
      refine nop_callE 53 (f := 25) (args := #[.slice (some ⟨b, off, none⟩) n c, .int .i64 12, .int .i64 4]) (R := fun v w' => v = .int .i64 xs ∧ w' = vA) rfl (by rfl) rfl (by go_simp) ((HBE.out vA HSA.out 12 4 (by omega) (by omega)).mono (fun e w' h => ⟨_, h.1.trans (by rw [Hxs.out]), rfl, h.2⟩)) ?_
      rintro v w9 ⟨rfl, hw9⟩
      obtain rfl : vA = w9 := hw9.symm
      refine ⟨HSA.out, ?_⟩
      simp only [List.setIfInBounds_toArray, List.set_cons_zero, List.set_cons_succ]
      refine nany_take 2 54 (.int .u32 xs) rfl rfl (by kernel_rfl) (by kernel_rfl) (by kernel_rfl) (fun _ _ _ h => h) (Or.inl ⟨by rfl, ?_⟩) HSA.out ?_
      · rintro w' hS'
        go_simp
      simp only [List.setIfInBounds_toArray, List.set_cons_zero, List.set_cons_succ]
      refine nany_one 4 (by kernel_rfl) ?_
      refine nop_callE 56 (f := 25) (args := #[.slice (some ⟨b, off, none⟩) n c, .int .i64 16, .int .i64 4]) (R := fun v w' => v = .int .i64 xd ∧ w' = vA) rfl (by rfl) rfl (by go_simp) ((HBE.out vA HSA.out 16 4 (by omega) (by omega)).mono (fun e w' h => ⟨_, h.1.trans (by rw [Hxd.out]), rfl, h.2⟩)) ?_
      rintro v w9 ⟨rfl, hw9⟩
      obtain rfl : vA = w9 := hw9.symm
      refine ⟨HSA.out, ?_⟩
      simp only [List.setIfInBounds_toArray, List.set_cons_zero, List.set_cons_succ]
      refine nany_take 5 57 (.int .u32 xd) rfl rfl (by kernel_rfl) (by kernel_rfl) (by kernel_rfl) (fun _ _ _ h => h) (Or.inl ⟨by rfl, ?_⟩) HSA.out ?_
      · rintro w' hS'
        go_simp
      simp only [List.setIfInBounds_toArray, List.set_cons_zero, List.set_cons_succ]
      refine nany_one 11 (by kernel_rfl) ?_
      refine nop_callE 63 (f := 25) (args := #[.slice (some ⟨b, off, none⟩) n c, .int .i64 4, .int .i64 2]) (R := fun v w' => v = .int .i64 xi ∧ w' = vA) rfl (by rfl) rfl (by go_simp) ((HBE.out vA HSA.out 4 2 (by omega) (by omega)).mono (fun e w' h => ⟨_, h.1.trans (by rw [Hxi.out]), rfl, h.2⟩)) ?_
      rintro v w9 ⟨rfl, hw9⟩
      obtain rfl : vA = w9 := hw9.symm
      refine ⟨HSA.out, ?_⟩
      simp only [List.setIfInBounds_toArray, List.set_cons_zero, List.set_cons_succ]
      refine nany_take 16 68 (.agg (pkC xs xd xp xi 0 false false xt (.slice none 0 0))) rfl rfl (by kernel_rfl) (by kernel_rfl) (by kernel_rfl) (fun _ _ _ h => h) (Or.inl ⟨by rfl, ?_⟩) HSA.out ?_
      · rintro w' hS'
        go_simp
      simp only [List.setIfInBounds_toArray, List.set_cons_zero, List.set_cons_succ]
      refine nany_one 18 (by kernel_rfl) ?_
      refine nop_skip (w' := W11) rfl (by rfl) rfl (by rw [HW11.out]; exact ex_store 30 _ _ rfl g7 (pkC xs xd xp xi 0 false false xt (.slice none 0 0)) rfl rfl 30 _ HKA.out sizeDk rfl (pkC_one _ _ _ _ _ _ _ _ _ rfl)) ?_
      refine ⟨HS11.out, ?_⟩
      refine wpAnyH_done (by kernel_rfl) ?_ _
      clear hS
      have e12 := HE12.out
      have e13 := HE13.out
      have e14 := HE14.out
      have f11 := HF11.out.1
      have c11 := HF11.out.2.1
      have f12 := HF11.out.2.2.1
      have c12 := HF11.out.2.2.2.1
      have f13 := HF11.out.2.2.2.2.1
      have c13 := HF11.out.2.2.2.2.2.1
      have c134 := HF11.out.2.2.2.2.2.2.1
      have c135 := HF11.out.2.2.2.2.2.2.2
      go_upto_region 20 with fail
      clear e12 e13 e14 f11 c11 f12 c12 f13 c13 c134 c135
      try simp only [Act.put]
      refine wp_region_held_drew (S := fun _ => True) (by kernel_rfl) trivial (fun hS => ?_)
      refine nany_take 0 86 (.pointer (some ⟨g7, 8, none⟩)) rfl rfl (by kernel_rfl) (by kernel_rfl) (by kernel_rfl) (fun _ _ _ h => h) (Or.inl ⟨by rfl, ?_⟩) trivial ?_
      · rintro w' -
        go_simp
      simp only [List.setIfInBounds_toArray, List.set_cons_zero, List.set_cons_succ]
      refine nany_take 2 88 (.slice (some ⟨b, off, none⟩) n c) rfl rfl (by kernel_rfl) (by kernel_rfl) (by kernel_rfl) (fun _ _ _ h => h) (Or.inl ⟨by rfl, ?_⟩) trivial ?_
      · rintro w' -
        go_simp
      simp only [List.setIfInBounds_toArray, List.set_cons_zero, List.set_cons_succ]
      refine nany_take 3 89 (.int .i64 hd) rfl rfl (by kernel_rfl) (by kernel_rfl) (by kernel_rfl) (fun _ _ _ h => h) (Or.inl ⟨by rfl, ?_⟩) trivial ?_
      · rintro w' -
        go_simp
      simp only [List.setIfInBounds_toArray, List.set_cons_zero, List.set_cons_succ]
      refine nany_take 4 90 (.int .i64 al) rfl rfl (by kernel_rfl) (by kernel_rfl) (by kernel_rfl) (fun _ _ _ h => h) (Or.inl ⟨by rfl, ?_⟩) trivial ?_
      · rintro w' -
        go_simp
      simp only [List.setIfInBounds_toArray, List.set_cons_zero, List.set_cons_succ]
      refine nany_take 5 91 (.slice aC nb (c - hN)) rfl rfl (by kernel_rfl) (by kernel_rfl) (by kernel_rfl) (fun _ _ _ h => h) (Or.inl ⟨by rfl, ?_⟩) trivial ?_
      · rintro w' -
        go_simp
      simp only [List.setIfInBounds_toArray, List.set_cons_zero, List.set_cons_succ]
      refine nany_one 1 (by kernel_rfl) ?_
      refine nop_value' 87 (v := .slice none 0 0) (w' := W14.drew) rfl (by rfl) rfl (by have hcc : W14.drew.cell? ⟨g7, 8, none⟩ = some (.slice none 0 0) := HC14.out; go_simp) ?_
      refine ⟨trivial, ?_⟩
      simp only [List.setIfInBounds_toArray, List.set_cons_zero, List.set_cons_succ]
      refine nany_one 6 (by kernel_rfl) ?_
      refine nop_value' 92 (v := .slice aD nb cD) (w' := w15) rfl (by rfl) rfl (ex_append (.tmp 87) (.tmp 91) 22 rfl 22 rfl (v := .slice none 0 0) (y := .slice aC nb (c - hN)) rfl rfl HAP.out) ?_
      refine ⟨trivial, ?_⟩
      simp only [List.setIfInBounds_toArray, List.set_cons_zero, List.set_cons_succ]
      refine nany_take 7 93 (.pointer (some ⟨g7, 8, none⟩)) rfl rfl (by kernel_rfl) (by kernel_rfl) (by kernel_rfl) (fun _ _ _ h => h) (Or.inl ⟨by rfl, ?_⟩) trivial ?_
      · rintro w' -
        go_simp
      simp only [List.setIfInBounds_toArray, List.set_cons_zero, List.set_cons_succ]
      refine nany_one 8 (by kernel_rfl) ?_
      refine nop_skip (w' := W16) rfl (by rfl) rfl (by rw [HW16.out]; exact ex_storeB _ _ rfl g7 8 aD nb cD rfl rfl HK15.out (by simp)) ?_
      refine ⟨trivial, ?_⟩
      refine wpAnyH_done (by kernel_rfl) ?_ _
      clear hS
      go_wp2_with (first | (refine wpList_load_row rfl 30 _ rfl g7 rfl 30 _ (0, 0) _ HK16.out Try.underlying30 rfl sizeDk ?_) | (refine wpList_store_row rfl 30 _ _ rfl g (pkC xs xd xp xi o mo wq xt (.slice aD nb cD)) rfl rfl 30 _ HG16.out sizeDk rfl (pkC_one _ _ _ _ _ _ _ _ _ rfl) ?_))
      refine bodyPost_ret (results_ct rfl _ _ g (pkC xs xd xp xi o mo wq xt (.slice aD nb cD)) _ _ rfl (setRow_heap _ g _ _ _ _ HG16.out) Try.underlying30 sizeDk) rfl ⟨aD, cD, rfl, (HY16.out.keep (fun x hx hl => setRow_other W16 g x _ hx.2)).weak (fun x hx _ => hx.1), HC16.out, ?_⟩
      have hbw := (setRow_mods W16 g (pkC xs xd xp xi o mo wq xt (.slice aD nb cD))).to_below HB16.out HB16.out.size (fun x hx => by rw [hx, HG.out]; exact Nat.le_refl _)
      first | exact hbw | (rw [HG.out] at hbw; exact hbw)
end Go.Proofs.Ytgdajplloamjcaa
