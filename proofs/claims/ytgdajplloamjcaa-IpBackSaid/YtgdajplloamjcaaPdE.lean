/- IpBack, of a packet whose Off is 0. -/
import Derived.Test.YtgdajplloamjcaaPdE0
namespace Go.Proofs.Ytgdajplloamjcaa
open Go.RowKit Go.Maps
set_option linter.unusedVariables false
set_option maxRecDepth 100000 in
set_option maxHeartbeats 8000000 in
theorem IpBack_0 (w : World) (s d pr i  : Int) (m q : Bool) (t : Int) (a : Option Addr) (n c : Nat) (l : List Int) (am : Option Addr) (nm cm : Nat) (lm : List Int) (at_ bit : Int) (hs : IsU s) (hd : IsU d) (hpr : II pr) (hi : II i) (ht : II t) (hn : l.length = n) (hl : n ≤ 70000) (hb : Bytes w a l) (hnm : lm.length = nm) (hlm : nm ≤ 5000) (hbm : Bytes w am lm) (he : wrE pr i 0 m t n = 0) :
    Calls Try.prog 6 #[.agg (pkC s d pr i 0 m q t (.slice a n c)), .slice am nm cm, .int .i64 at_, .int .i64 bit] w fun e w' => e = .returned (.bool true) ∧ Below w.heap.size w w' := by
  obtain ⟨hok, hne, hle⟩ : wrOk pr i 0 t ∧ (m && !eights n) = false ∧ n ≤ 65515 := by
    unfold wrE at he
    by_cases k1 : wrOk pr i 0 t
    · rw [if_neg (not_not_intro k1)] at he
      by_cases k2 : (m && !eights n) = true
      · rw [if_pos k2] at he; omega
      · rw [if_neg k2] at he
        by_cases k3 : 65515 < n
        · rw [if_pos k3] at he; omega
        · exact ⟨k1, by simpa using k2, by omega⟩
    · rw [if_pos k1] at he; omega
  obtain ⟨W1, hW1, h1, b1⟩ := boxP w (pkC s d pr i 0 m q t (.slice a n c)) 25
  obtain ⟨g, hg⟩ : ∃ g, w.heap.size = g := ⟨_, rfl⟩
  rw [hg] at h1
  obtain ⟨L, hL⟩ : ∃ L, L = hdL n s d pr i 0 m t ++ l := ⟨_, rfl⟩
  obtain ⟨N, hN⟩ : ∃ N : Nat, N = 20 + n := ⟨_, rfl⟩
  have hLn : L.length = N := by rw [hL, List.length_append, hdL_len, hn, hN]
  have hWL : wrL s d pr i 0 m t l = L := by unfold wrL; rw [hn, if_pos he, hL]
  have hrd := hd_read n s d pr i 0 m t l lm hs hd hn hle hok
  rw [← hL] at hrd
  have HWR : Hid (∀ W, Below w.heap.size w W → Calls Try.prog 11 #[.agg (pkC s d pr i 0 m q t (.slice a n c))] W fun e w' => ∃ a2 c2, e = .returned (.tuple #[.slice a2 N c2, .int .i64 0]) ∧ By w' (New W) a2 L ∧ N ≤ c2 ∧ Below W.heap.size W w') := hid (fun W hW => by
    have := Write_any W s d pr i 0 m q t a n c l hs hd hpr hi II_zero ht hn hl (hb.later hW)
    rw [hWL, he, hLn] at this
    exact this)
  have HPA : Hid (∀ (W : World) (a2 : Option Addr) (c2 : Nat), N + nm ≤ c2 → Bytes W a2 (L ++ lm) → Calls Try.prog 8 #[.slice a2 (N + nm) c2] W fun e w' => ∃ ax cx, e = .returned (.tuple #[.agg (pkC s d pr i 0 m (!m) t (.slice ax n cx)), .int .i64 0]) ∧ By w' (New W) ax l ∧ n ≤ cx ∧ Below W.heap.size W w') := hid (fun W a2 c2 hc2 hW => by
    have := Parse_ok W a2 (N + nm) c2 (L ++ lm) (by rw [List.length_append, hLn, hnm]) (by omega) hc2 hW hrd.1
    have hbo : boN (L ++ lm) = l := congrArg Pk.body hrd.2
    rw [hrd.2, hbo, hn] at this
    have hq : (decide ((0 : Int) = 0) && !m) = (!m) := by simp
    rw [hq] at this
    exact this)
  have HPC : Hid (∀ (W : World) (a2 : Option Addr) (c2 : Nat) (k b : Nat) (y : Int), N ≤ c2 → 1 ≤ k ∧ k < 20 → b < 8 → IsB y → (y = L.getD k 0 + 2 ^ b ∨ y = L.getD k 0 - 2 ^ b) → Bytes W a2 (L.set k y) → ∃ E, (E != 0) = true ∧ Calls Try.prog 8 #[.slice a2 N c2] W fun e w' => e = .returned (.tuple #[.agg (pkC 0 0 0 0 0 false false 0 (.slice none 0 0)), .int .i64 E]) ∧ Below W.heap.size W w') := hid (fun W a2 c2 k b y hc2 hk hb8 hy hyx hW => by
    have ht := hd_turned n s d pr i 0 m t l k b y hk hb8 hy (by rw [← hL]; exact hyx)
    rw [← hL] at ht
    exact ⟨_, bne_iff_ne.2 ht, Parse_bad W a2 N c2 (L.set k y) (by rw [List.length_set, hLn]) (by omega) hc2 hW ht⟩)
  have HPK : Hid (∀ (W : World) (a2 : Option Addr) (c2 : Nat) (k : Nat), k ≤ c2 → k < N → Bytes W a2 (L.take k) → Calls Try.prog 8 #[.slice a2 k c2] W fun e w' => e = .returned (.tuple #[.agg (pkC 0 0 0 0 0 false false 0 (.slice none 0 0)), .int .i64 11]) ∧ Below W.heap.size W w') := hid (fun W a2 c2 k hc2 hk hW => by
    have ht := hd_cut n s d pr i 0 m t l k hn hle (by omega)
    rw [← hL] at ht
    have := Parse_bad W a2 k c2 (L.take k) (by rw [List.length_take, hLn]; omega) (by omega) hc2 hW (by rw [ht]; omega)
    rw [ht] at this
    exact this)
  have hi70 : ¬ ((70000 : Int) < n) := by omega
  have hi50 : ¬ ((5000 : Int) < nm) := by omega
  have H1 := hid h1
  have HB1 := hid b1
  have HG := hid hg
  have HN := hid hn
  have HBY := hid hb
  have HBM := hid hbm
  have HNM := hid hnm
  have HLN := hid hLn
  have HNN := hid hN
  have HLE := hid hle
  have HIB : Hid (∀ x ∈ L, IsB x) := hid (fun x hx => by
    rw [hL] at hx
    rcases List.mem_append.1 hx with h | h
    · exact hdL_isB _ _ _ _ _ _ _ _ x h
    · exact hb.isB x h)
  have HW := hW1.symm
  clear h1 b1 hW1 hn hb hbm hnm hLn hN hL hWL hrd he hok hne hle hs hd hpr hi ht
  go_enter Try.func6, Try.ntmps6
  go_upto_region 8 with (first
    | (go_at_call 7; refine (known_any _).mono ?_; rintro e w2 ⟨rfl, hb2⟩; have h2 := (hb2.block g (Array.getElem?_eq_some_iff.1 H1.out).1).trans H1.out; have c28 := cell_of h2 (i := 8) (v := .slice a n c) rfl; have H2 := hid h2; have HB2 := hid (HB1.out.trans (hb2.mono HB1.out.size)); clear hb2 h2)
    | (refine wpList_load_row rfl 25 _ rfl g rfl 25 _ (0, 0) _ H2.out Try.underlying25 rfl sizePk ?_)
    | (go_at_call 11; refine (HWR.out _ HB2.out).mono ?_; rintro e w3 ⟨ab, cb, rfl, hy3, hc3, hb3⟩; have H3 := hid ((hb3.block g (Array.getElem?_eq_some_iff.1 H2.out).1).trans H2.out); have HB3 := hid (HB2.out.trans (hb3.mono HB2.out.size)); have HY3 := hid hy3; have HC3 := hid hc3; clear hb3 hy3 hc3 HWR))
  clear c28
  obtain ⟨W4, hW4, a5, c5, w5, hap1, hg5, hb5⟩ := ownCopy w3 ab N cb L HLN.out (by have := HNN.out; omega) HY3.out.bytes
  obtain ⟨a6, c6, w6, hap2, hg6, hb6⟩ := hg5.push HLN.out hb5.size lm am nm cm HNM.out ((HBM.out.later HB3.out).later hb5) (by have := HNN.out; omega) 22
  have b36 := hb5.trans hb6
  obtain ⟨x6, y6, e6, hc6, hy6⟩ := hg6.by_ (S := New w3) (fun _ h => h)
  rw [List.length_append, HLN.out, HNM.out] at e6 hc6
  simp only [Value.slice.injEq, true_and] at e6
  obtain ⟨rfl, rfl⟩ := e6
  have HPA6 := hid (HPA.out w6 a6 c6 hc6 hy6.bytes)
  have HB6 := hid (HB3.out.trans (b36.mono HB3.out.size))
  have HB36 := hid b36
  have H6 := hid ((b36.block g (Array.getElem?_eq_some_iff.1 H3.out).1).trans H3.out)
  have HW4 := hW4.symm
  clear hW4 hg5 hb5 hg6 hb6 b36 hy6 hc6 HPA
  go_upto_region 11 with (first
    | (at_builtin; refine wpList_append_run rfl _ _ 22 rfl rfl rfl hap1 ?_)
    | (at_builtin; refine wpList_append_run rfl _ _ 22 rfl rfl rfl hap2 ?_)
    | (go_at_call 8; refine HPA6.out.mono ?_; rintro e w7 ⟨ax, cx, rfl, hyx, hcx, hb7⟩; obtain ⟨V5, hV5, kV5, V6, hV6, kV6, bV6⟩ := boxF w7 (pkC s d pr i 0 m (!m) t (.slice ax n cx)) rfl; obtain ⟨gx, hgx⟩ : ∃ g, w7.heap.size = g := ⟨_, rfl⟩; rw [hgx] at kV5 hV6 kV6; have h7 := (hb7.block g (Array.getElem?_eq_some_iff.1 H6.out).1).trans H6.out; have h7' := (bV6.block g (Array.getElem?_eq_some_iff.1 h7).1).trans h7; have HB7 := HB6.out.trans (hb7.mono HB6.out.size); have HBV := hid (HB7.trans (bV6.mono HB7.size)); have HB3V := hid (HB36.out.trans ((hb7.mono HB36.out.size).trans (bV6.mono (Nat.le_trans HB36.out.size hb7.size)))); have cva := conv0 (cap := cx) (hyx.later bV6).bytes HN.out; have cvb := conv0 (cap := c) (HBY.out.later HBV.out) HN.out; generalize strOfNums l = sl at *; have p0 := cell_of h7' (i := 0) (v := .int .u32 s) rfl; have p1 := cell_of h7' (i := 1) (v := .int .u32 d) rfl; have p2 := cell_of h7' (i := 2) (v := .int .i64 pr) rfl; have p3 := cell_of h7' (i := 3) (v := .int .i64 i) rfl; have p4 := cell_of h7' (i := 4) (v := .int .i64 0) rfl; have p5 := cell_of h7' (i := 5) (v := .bool m) rfl; have p7 := cell_of h7' (i := 7) (v := .int .i64 t) rfl; have p8 := cell_of h7' (i := 8) (v := .slice a n c) rfl; have r0 := cell_of kV6 (i := 0) (v := .int .u32 s) rfl; have r1 := cell_of kV6 (i := 1) (v := .int .u32 d) rfl; have r2 := cell_of kV6 (i := 2) (v := .int .i64 pr) rfl; have r3 := cell_of kV6 (i := 3) (v := .int .i64 i) rfl; have r4 := cell_of kV6 (i := 4) (v := .int .i64 0) rfl; have r5 := cell_of kV6 (i := 5) (v := .bool m) rfl; have r6 := cell_of kV6 (i := 6) (v := .bool (!m)) rfl; have r7 := cell_of kV6 (i := 7) (v := .int .i64 t) rfl; have r8 := cell_of kV6 (i := 8) (v := .slice ax n cx) rfl; have HK5 := hid kV5; have HV5 := hV5.symm; have HV6 := hV6.symm; clear hyx hcx hb7 hV5 hV6 kV5 kV6 bV6 h7 h7' HB7 HPA6)
    | (refine wpList_store_row rfl 25 _ _ rfl gx (pkC s d pr i 0 m (!m) t (.slice ax n cx)) rfl rfl 25 _ HK5.out sizePk rfl (pkC_one _ _ _ _ _ _ _ _ _ rfl) ?_; rw [HV6]))
  clear p0 p1 p2 p3 p4 p5 p7 p8 r0 r1 r2 r3 r4 r5 r6 r7 r8 cva cvb HV5 HV6 hap1 hap2 HW4 hgx
  obtain ⟨W8, hW8, a9, cc, w9, hap3, hg9, hb9⟩ := ownCopy V6 ab N cb L HLN.out (by have := HNN.out; omega) (HY3.out.later HB3V.out).bytes
  obtain ⟨gc, cur, rfl, hgB, hcu, hcc9, hcs, hbc⟩ := hg9.cells HLN.out (by have := HNN.out; omega)
  have hw19 := wi_bd at_ 19 (by omega)
  obtain ⟨k', hk'⟩ : ∃ k' : Nat, wi at_ 19 = (k' : Int) := ⟨(wi at_ 19).toNat, by omega⟩
  obtain ⟨k, hkd⟩ : ∃ k : Nat, k = 1 + k' := ⟨_, rfl⟩
  have hk20 : 1 ≤ k ∧ k < 20 := by omega
  have hw8 := wi_bd bit 8 (by omega)
  obtain ⟨tb, htb⟩ : ∃ k' : Nat, wi bit 8 = (k' : Int) := ⟨(wi bit 8).toNat, by omega⟩
  have htb8 : tb < 8 := by omega
  have hwN := wi_bd at_ N (by have := HNN.out; omega)
  obtain ⟨k2, hk2⟩ : ∃ k' : Nat, wi at_ N = (k' : Int) := ⟨(wi at_ N).toNat, by omega⟩
  have HK2 := hid (show k2 < N by omega)
  have HWI2 := hid hk2
  obtain ⟨a13, hct13, hcb13⟩ := cut_h ab N cb k2 (by omega) HC3.out
  have HCT := hid hct13
  have HC13 := hid hcb13
  obtain ⟨x, hx⟩ : ∃ x, x = L.getD k 0 := ⟨_, rfl⟩
  have hkL : k < L.length := by rw [HLN.out]; have := HNN.out; omega
  have hxB : IsB x := by rw [hx]; exact mem_getD L IsB HIB.out k hkL
  obtain ⟨y, hxor, hyB, hyx⟩ := xor_bit x tb hxB htb8
  have hck := hbc k hkL
  rw [← hx] at hck
  have hB9 := HBV.out.trans (hb9.mono HBV.out.size)
  have hgw : w.heap.size ≤ gc := Nat.le_trans HBV.out.size hgB
  obtain ⟨W11, hW11, h11, b11, k11, s11⟩ := setP (drawn w9 gc _ hcu) k (.int .u8 y) w.heap.size w hB9.drew hgw
  have hset := hbc.set k y hkL
  have hby11 : Bytes W11 (some ⟨gc, 0, none⟩) (L.set k y) := (hset.bytes (S := fun _ => True) h11 (isB_set HIB.out k hyB) trivial).bytes
  obtain ⟨E, hE, hPC⟩ := HPC.out W11 (some ⟨gc, 0, none⟩) cc k tb y hcc9 hk20 htb8 hyB (by rw [← hx]; exact hyx) hby11
  have HPC11 := hid hPC
  have HW11 := hid hW11
  have HCU := hid (drawn w9 gc _ hcu)
  have HCK := hid hck
  have HKS := hid (show k < cur.size by have := HNN.out; omega)
  have HTB := hid htb
  have HB11 := hid b11
  have h3v9 := HB3V.out.trans (hb9.mono HB3V.out.size)
  have HB3W : Hid (Below w3.heap.size w3 W11) := hid (by rw [hW11]; exact ((Mods.refl (fun b => b = gc) w9.drew).setCell gc k _ rfl).to_below h3v9.drew h3v9.drew.size (fun b hb => by rw [hb]; exact Nat.le_trans HB3V.out.size hgB))
  have HW8 := hW8.symm
  have hsh : IntKind.u8.wrap ((2 : Int) ^ tb) = 2 ^ tb := by
    rcases (show tb = 0 ∨ tb = 1 ∨ tb = 2 ∨ tb = 3 ∨ tb = 4 ∨ tb = 5 ∨ tb = 6 ∨ tb = 7 by omega) with rfl | rfl | rfl | rfl | rfl | rfl | rfl | rfl <;> decide
  have hxy : bits .xor .u8 x (2 ^ tb) = y := hxor
  have hkk : (1 : Int) + (k' : Int) = (k : Int) := by omega
  have hkw : IntKind.i64.wrap ((1 : Int) + (k' : Int)) = (k : Int) := by rw [hkk]; exact IntWalk.i64_in _ (by omega)
  have hkw2 : IntKind.i64.wrap (k : Int) = (k : Int) := IntWalk.i64_in _ (by omega)
  have hkN : (k : Int) < N := by have := HNN.out; omega
  have HWI := hid hk'
  clear hg9 hb9 hgB hcu hcs hbc hw19 hk' hkd hw8 htb hwN hk2 hct13 hcb13 hx hkL hxB hxor hyB hyx hck hB9 hgw hW11 h11 b11 k11 s11 hset hby11 hPC h3v9 hW8 hcc9
  go_upto_region 13 with (first
    | (at_builtin; refine wpList_append_run rfl _ _ 22 rfl rfl rfl hap3 ?_)
    | (go_at_call 20; refine (lwithin_any at_ 19 (by omega) (by omega) _).mono ?_; rintro e w10 ⟨rfl, hw10⟩; obtain rfl : w9 = w10 := hw10.symm; rw [HWI.out]))
  clear HW8 hap3 hkw
  try simp only [Act.put]
  refine wp_region_held_drew (S := fun _ => True) (by kernel_rfl) trivial (fun hS => ?_)
  refine nany_take 0 128 (.slice (some ⟨gc, 0, none⟩) N cc) rfl rfl (by kernel_rfl) (by kernel_rfl) (by kernel_rfl) (fun _ _ _ h => h) (Or.inl ⟨by rfl, ?_⟩) trivial ?_
  · rintro w' -
    go_simp
  simp only [List.setIfInBounds_toArray, List.set_cons_zero, List.set_cons_succ]
  refine nany_take 1 129 (.int .i64 k) rfl rfl (by kernel_rfl) (by kernel_rfl) (by kernel_rfl) (fun _ _ _ h => h) (Or.inl ⟨by rfl, ?_⟩) trivial ?_
  · rintro w' -
    go_simp
  simp only [List.setIfInBounds_toArray, List.set_cons_zero, List.set_cons_succ]
  refine nany_take 2 130 (.slice (some ⟨gc, 0, none⟩) N cc) rfl rfl (by kernel_rfl) (by kernel_rfl) (by kernel_rfl) (fun _ _ _ h => h) (Or.inl ⟨by rfl, ?_⟩) trivial ?_
  · rintro w' -
    go_simp
  simp only [List.setIfInBounds_toArray, List.set_cons_zero, List.set_cons_succ]
  refine nany_take 3 131 (.int .i64 k) rfl rfl (by kernel_rfl) (by kernel_rfl) (by kernel_rfl) (fun _ _ _ h => h) (Or.inl ⟨by rfl, ?_⟩) trivial ?_
  · rintro w' -
    go_simp
  simp only [List.setIfInBounds_toArray, List.set_cons_zero, List.set_cons_succ]
  refine nany_take 4 132 (.pointer (some ⟨gc, k, none⟩)) rfl rfl (by kernel_rfl) (by kernel_rfl) (by kernel_rfl) (fun _ _ _ h => h) (Or.inl ⟨by rfl, ?_⟩) trivial ?_
  · rintro w' -
    go_simp
  simp only [List.setIfInBounds_toArray, List.set_cons_zero, List.set_cons_succ]
  refine nany_take 6 134 (.int .i64 bit) rfl rfl (by kernel_rfl) (by kernel_rfl) (by kernel_rfl) (fun _ _ _ h => h) (Or.inl ⟨by rfl, ?_⟩) trivial ?_
  · rintro w' -
    go_simp
  simp only [List.setIfInBounds_toArray, List.set_cons_zero, List.set_cons_succ]
  refine nany_two 5 7 (by kernel_rfl) ?_ ?_
  · refine nop_value' 133 (v := .int .u8 x) (w' := w9.drew) rfl (by rfl) rfl (by have hcc := cell_of HCU.out HCK.out; have hcc' : w9.drew.cell? ⟨gc, k, none⟩ = some (.int .u8 x) := hcc; go_simp) ?_
    refine ⟨trivial, ?_⟩
    simp only [List.setIfInBounds_toArray, List.set_cons_zero, List.set_cons_succ]
    refine nany_one 7 (by kernel_rfl) ?_
    refine nop_callE 135 (f := 20) (args := #[.int .i64 bit, .int .i64 8]) (R := fun v w' => v = .int .i64 tb ∧ w' = w9.drew) rfl (by rfl) rfl (by go_simp) ((lwithin_any bit 8 (by omega) (by omega) w9.drew).mono (fun e w' h => ⟨_, h.1.trans (by rw [HTB.out]), rfl, h.2⟩)) ?_
    rintro v w10 ⟨rfl, hw10⟩
    subst hw10
    refine ⟨trivial, ?_⟩
    simp only [List.setIfInBounds_toArray, List.set_cons_zero, List.set_cons_succ]
    refine nany_take 8 136 (.int .u8 (2 ^ tb)) rfl rfl (by kernel_rfl) (by kernel_rfl) (by kernel_rfl) (fun _ _ _ h => h) (Or.inl ⟨by rfl, ?_⟩) trivial ?_
    · rintro w' -
      go_simp
    simp only [List.setIfInBounds_toArray, List.set_cons_zero, List.set_cons_succ]
    refine nany_take 9 137 (.int .u8 y) rfl rfl (by kernel_rfl) (by kernel_rfl) (by kernel_rfl) (fun _ _ _ h => h) (Or.inl ⟨by rfl, ?_⟩) trivial ?_
    · rintro w' -
      go_simp
    simp only [List.setIfInBounds_toArray, List.set_cons_zero, List.set_cons_succ]
    refine nany_take 10 138 (.pointer (some ⟨gc, k, none⟩)) rfl rfl (by kernel_rfl) (by kernel_rfl) (by kernel_rfl) (fun _ _ _ h => h) (Or.inl ⟨by rfl, ?_⟩) trivial ?_
    · rintro w' -
      go_simp
    simp only [List.setIfInBounds_toArray, List.set_cons_zero, List.set_cons_succ]
    refine nany_one 11 (by kernel_rfl) ?_
    refine nop_skip (w' := W11) rfl (by rfl) rfl (by rw [HW11.out]; exact ex_store5 _ _ rfl gc k y rfl rfl HCU.out HKS.out) ?_
    refine ⟨trivial, ?_⟩
    refine wpAnyH_done (by kernel_rfl) ?_ _
    clear hS
    clear hsh hxy hkk
    go_upto_region 15 with (first | (go_at_call 8; refine HPC11.out.mono ?_; rintro e w12 ⟨rfl, hb12⟩; obtain ⟨U5, hU5, kU5, U6, hU6, kU6, bU6⟩ := boxF w12 (pkC 0 0 0 0 0 false false 0 (.slice none 0 0)) rfl; obtain ⟨gu, hgu⟩ : ∃ g, w12.heap.size = g := ⟨_, rfl⟩; rw [hgu] at kU5 hU6 kU6; have h3u := HB3W.out.trans ((hb12.mono HB3W.out.size).trans (bU6.mono (Nat.le_trans HB3W.out.size hb12.size))); have HB3U := hid h3u; have h0u := HB11.out.trans (hb12.mono HB11.out.size); have HBU := hid (h0u.trans (bU6.mono h0u.size)); have HKU := hid kU5; have HU5 := hU5.symm; have HU6 := hU6.symm; clear hb12 hU5 hU6 kU5 kU6 bU6 h3u h0u HPC11) | (refine wpList_store_row rfl 25 _ _ rfl gu (pkC 0 0 0 0 0 false false 0 (.slice none 0 0)) rfl rfl 25 _ HKU.out sizePk rfl (pkC_one _ _ _ _ _ _ _ _ _ rfl) ?_; rw [HU6]))
    clear HU5 HU6 hgu
    have HPK15 := hid (HPK.out U6 a13 cb k2 (Nat.le_trans (Nat.le_of_lt HK2.out) HC3.out) HK2.out (HC13.out U6 L HLN.out ((HY3.out.later HB3U.out).bytes)))
    have hcut13' := HCT.out
    have hwi2 := HWI2.out
    go_wp2_with (first | (go_at_call 20; refine (lwithin_any at_ N (by have := HNN.out; omega) (by have := HNN.out; omega) _).mono ?_; rintro e w13 ⟨rfl, hw13⟩; obtain rfl : U6 = w13 := hw13.symm; rw [hwi2]) | (go_at_call 8; refine HPK15.out.mono ?_; rintro e w14 ⟨rfl, hb14⟩; obtain ⟨T5, hT5, kT5, T6, hT6, kT6, bT6⟩ := boxF w14 (pkC 0 0 0 0 0 false false 0 (.slice none 0 0)) rfl; obtain ⟨gt, hgt⟩ : ∃ g, w14.heap.size = g := ⟨_, rfl⟩; rw [hgt] at kT5 hT6 kT6; have h0t := HBU.out.trans (hb14.mono HBU.out.size); have HBT := hid (h0t.trans (bT6.mono h0t.size)); have HKT := hid kT5; have HT5 := hT5.symm; have HT6 := hT6.symm; clear hb14 hT5 hT6 kT5 kT6 bT6 h0t HPK15) | (refine wpList_store_row rfl 25 _ _ rfl gt (pkC 0 0 0 0 0 false false 0 (.slice none 0 0)) rfl rfl 25 _ HKT.out sizePk rfl (pkC_one _ _ _ _ _ _ _ _ _ rfl) ?_; rw [HT6]))
    go_ret
    have h2 := HBT.out
    first | exact ⟨rfl, h2⟩ | (rw [HG.out] at h2; exact ⟨rfl, h2⟩)
  · refine nop_callE 135 (f := 20) (args := #[.int .i64 bit, .int .i64 8]) (R := fun v w' => v = .int .i64 tb ∧ w' = w9.drew) rfl (by rfl) rfl (by go_simp) ((lwithin_any bit 8 (by omega) (by omega) w9.drew).mono (fun e w' h => ⟨_, h.1.trans (by rw [HTB.out]), rfl, h.2⟩)) ?_
    rintro v w10 ⟨rfl, hw10⟩
    subst hw10
    refine ⟨trivial, ?_⟩
    simp only [List.setIfInBounds_toArray, List.set_cons_zero, List.set_cons_succ]
    refine nany_take 8 136 (.int .u8 (2 ^ tb)) rfl rfl (by kernel_rfl) (by kernel_rfl) (by kernel_rfl) (fun _ _ _ h => h) (Or.inl ⟨by rfl, ?_⟩) trivial ?_
    · rintro w' -
      go_simp
    simp only [List.setIfInBounds_toArray, List.set_cons_zero, List.set_cons_succ]
    refine nany_one 5 (by kernel_rfl) ?_
    refine nop_value' 133 (v := .int .u8 x) (w' := w9.drew) rfl (by rfl) rfl (by have hcc := cell_of HCU.out HCK.out; have hcc' : w9.drew.cell? ⟨gc, k, none⟩ = some (.int .u8 x) := hcc; go_simp) ?_
    refine ⟨trivial, ?_⟩
    simp only [List.setIfInBounds_toArray, List.set_cons_zero, List.set_cons_succ]
    refine nany_take 9 137 (.int .u8 y) rfl rfl (by kernel_rfl) (by kernel_rfl) (by kernel_rfl) (fun _ _ _ h => h) (Or.inl ⟨by rfl, ?_⟩) trivial ?_
    · rintro w' -
      go_simp
    simp only [List.setIfInBounds_toArray, List.set_cons_zero, List.set_cons_succ]
    refine nany_take 10 138 (.pointer (some ⟨gc, k, none⟩)) rfl rfl (by kernel_rfl) (by kernel_rfl) (by kernel_rfl) (fun _ _ _ h => h) (Or.inl ⟨by rfl, ?_⟩) trivial ?_
    · rintro w' -
      go_simp
    simp only [List.setIfInBounds_toArray, List.set_cons_zero, List.set_cons_succ]
    refine nany_one 11 (by kernel_rfl) ?_
    refine nop_skip (w' := W11) rfl (by rfl) rfl (by rw [HW11.out]; exact ex_store5 _ _ rfl gc k y rfl rfl HCU.out HKS.out) ?_
    refine ⟨trivial, ?_⟩
    refine wpAnyH_done (by kernel_rfl) ?_ _
    clear hS
    clear hsh hxy hkk
    go_upto_region 15 with (first | (go_at_call 8; refine HPC11.out.mono ?_; rintro e w12 ⟨rfl, hb12⟩; obtain ⟨U5, hU5, kU5, U6, hU6, kU6, bU6⟩ := boxF w12 (pkC 0 0 0 0 0 false false 0 (.slice none 0 0)) rfl; obtain ⟨gu, hgu⟩ : ∃ g, w12.heap.size = g := ⟨_, rfl⟩; rw [hgu] at kU5 hU6 kU6; have h3u := HB3W.out.trans ((hb12.mono HB3W.out.size).trans (bU6.mono (Nat.le_trans HB3W.out.size hb12.size))); have HB3U := hid h3u; have h0u := HB11.out.trans (hb12.mono HB11.out.size); have HBU := hid (h0u.trans (bU6.mono h0u.size)); have HKU := hid kU5; have HU5 := hU5.symm; have HU6 := hU6.symm; clear hb12 hU5 hU6 kU5 kU6 bU6 h3u h0u HPC11) | (refine wpList_store_row rfl 25 _ _ rfl gu (pkC 0 0 0 0 0 false false 0 (.slice none 0 0)) rfl rfl 25 _ HKU.out sizePk rfl (pkC_one _ _ _ _ _ _ _ _ _ rfl) ?_; rw [HU6]))
    clear HU5 HU6 hgu
    have HPK15 := hid (HPK.out U6 a13 cb k2 (Nat.le_trans (Nat.le_of_lt HK2.out) HC3.out) HK2.out (HC13.out U6 L HLN.out ((HY3.out.later HB3U.out).bytes)))
    have hcut13' := HCT.out
    have hwi2 := HWI2.out
    go_wp2_with (first | (go_at_call 20; refine (lwithin_any at_ N (by have := HNN.out; omega) (by have := HNN.out; omega) _).mono ?_; rintro e w13 ⟨rfl, hw13⟩; obtain rfl : U6 = w13 := hw13.symm; rw [hwi2]) | (go_at_call 8; refine HPK15.out.mono ?_; rintro e w14 ⟨rfl, hb14⟩; obtain ⟨T5, hT5, kT5, T6, hT6, kT6, bT6⟩ := boxF w14 (pkC 0 0 0 0 0 false false 0 (.slice none 0 0)) rfl; obtain ⟨gt, hgt⟩ : ∃ g, w14.heap.size = g := ⟨_, rfl⟩; rw [hgt] at kT5 hT6 kT6; have h0t := HBU.out.trans (hb14.mono HBU.out.size); have HBT := hid (h0t.trans (bT6.mono h0t.size)); have HKT := hid kT5; have HT5 := hT5.symm; have HT6 := hT6.symm; clear hb14 hT5 hT6 kT5 kT6 bT6 h0t HPK15) | (refine wpList_store_row rfl 25 _ _ rfl gt (pkC 0 0 0 0 0 false false 0 (.slice none 0 0)) rfl rfl 25 _ HKT.out sizePk rfl (pkC_one _ _ _ _ _ _ _ _ _ rfl) ?_; rw [HT6]))
    go_ret
    have h2 := HBT.out
    first | exact ⟨rfl, h2⟩ | (rw [HG.out] at h2; exact ⟨rfl, h2⟩)
end Go.Proofs.Ytgdajplloamjcaa
