/- UdpBack: a datagram that may be written is read as it; by another sender, or with a bit turned, it is refused. -/
import Derived.Test.YtbhdbgippbopfaaUeA
namespace Go.Proofs.Ytbhdbgippbopfaa
open Go.RowKit Go.Maps
set_option linter.unusedVariables false
theorem empty0 (w : World) : GO (w.alloc (.cells #[] 5)) w.heap.size (.slice (some ⟨w.heap.size, 0, none⟩) 0 0) [] :=
  ⟨fun x hx => by simp at hx, rfl, .inr ⟨w.heap.size, 0, _, rfl, Nat.le_refl _, alloc_new w _, Nat.le_refl _, by unfold maxLen; omega, by simp, by simp [u8s]⟩⟩
/-- A copy of one's own. -/
theorem ownCopy (w : World) (a : Option Addr) (n c : Nat) (l : List Int) (hn : l.length = n) (hl : n ≤ 800000) (hb : Bytes w a l) : ∃ W1, W1 = w.alloc (.cells #[] 5) ∧ ∃ a2 c2 w2, (Builtin.append_ #[23, 23] 23 #[.slice (some ⟨w.heap.size, 0, none⟩) 0 0, .slice a n c]).run Try.prog W1 = .ok (.slice a2 n c2) w2 ∧ GO w2 w.heap.size (.slice a2 n c2) l ∧ Below w.heap.size w w2 := by
  obtain ⟨W1, hW1, b1⟩ := newW w (.cells #[] 5)
  have hz := empty0 w
  rw [← hW1] at hz
  obtain ⟨a2, c2, w2, hap, hg2, hb2⟩ := hz.push rfl b1.size l a n c hn (hb.later b1) (by omega) 23
  rw [Nat.zero_add, List.nil_append] at *
  exact ⟨W1, hW1, a2, c2, w2, hap, hg2, b1.trans hb2⟩
theorem xor_one (s : Int) (hs : IsU s) : ∃ s', bits .xor .u32 s 1 = s' ∧ IsU s' ∧ (s' = s + 1 ∧ s % 2 = 0 ∨ s' = s - 1 ∧ s % 2 = 1) := by
  unfold IsU at hs
  obtain ⟨k, rfl⟩ := Int.eq_ofNat_of_zero_le hs.1
  have h1 : (k ^^^ 1) / 2 = k / 2 := by rw [Nat.xor_div_two]; simp
  have h2 : (k ^^^ 1) % 2 = (k + 1) % 2 := by
    have h := @Nat.xor_mod_two_eq_one k 1
    rcases Nat.mod_two_eq_zero_or_one k with g1 | g1 <;> rcases Nat.mod_two_eq_zero_or_one (k ^^^ 1) with g2 | g2 <;> simp [g1, g2] at h <;> omega
  have e : bits .xor .u32 (k : Int) 1 = ((k ^^^ 1 : Nat) : Int) := by
    have h3 : (BitVec.ofInt 32 (k : Int) ^^^ BitVec.ofInt 32 1).toNat = k ^^^ 1 := by
      rw [BitVec.toNat_xor, BitVec.toNat_ofInt]
      have h4 : (BitVec.ofInt 32 1).toNat = 1 := by decide
      rw [h4]
      congr 1
      omega
    show IntKind.u32.wrap ((BitVec.ofInt 32 (k : Int) ^^^ BitVec.ofInt 32 1).toNat : Nat) = _
    rw [h3, IntKind.wrap_u32]
    omega
  refine ⟨_, e, by unfold IsU; omega, by omega⟩
theorem Parse_err (w : World) (s d : Int) (a : Option Addr) (n c : Nat) (l : List Int) (hs : IsU s) (hd : IsU d) (hn : l.length = n) (hl : n ≤ 70000) (hc : n ≤ c) (hb : Bytes w a l) (E : Int) (he : prE s d l = E) :
    Calls Try.prog 7 #[.int .u32 s, .int .u32 d, .slice a n c] w fun e w' => ∃ F T az m cz, e = .returned (.tuple #[.agg (dgC F T (.slice az m cz)), .int .i64 E]) ∧ Below w.heap.size w w' := by
  refine (Parse_any w s d a n c l hs hd hn hl hc hb).mono ?_
  rintro e w' ⟨a2, c2, rfl, _, h2⟩
  exact ⟨_, _, _, _, _, by rw [he], h2⟩
theorem dgL_isB' (s d f t : Int) (l : List Int) (h : ∀ x ∈ l, IsB x) : ∀ x ∈ dgL s d f t l, IsB x := fun x hx => by
  rcases List.mem_append.1 hx with h1 | h1
  · exact outBe_isB _ _ _ (h6L_isB _ _ _) x h1
  · exact h x h1
set_option maxRecDepth 100000 in
set_option maxHeartbeats 16000000 in
theorem UdpBack_ok (w : World) (s d f t : Int) (a : Option Addr) (n c : Nat) (l : List Int) (am : Option Addr) (nm cm : Nat) (lm : List Int) (at_ bit : Int) (hs : IsU s) (hd : IsU d) (hf : II f) (ht : II t) (hn : l.length = n) (hl : n ≤ 70000) (hb : Bytes w a l) (hnm : lm.length = nm) (hlm : nm ≤ 3000) (hbm : Bytes w am lm) (he : wrE f t n = 0) :
    Calls Try.prog 4 #[.int .u32 s, .int .u32 d, .agg (dgC f t (.slice a n c)), .slice am nm cm, .int .i64 at_, .int .i64 bit] w fun e w' => e = .returned (.bool true) ∧ Below w.heap.size w w' := by
  obtain ⟨hok, hle⟩ := wrE_ok he
  obtain ⟨W1, hW1, h1, b1⟩ := boxP w (dgC f t (.slice a n c)) 25
  obtain ⟨g, hg⟩ : ∃ g, w.heap.size = g := ⟨_, rfl⟩
  rw [hg] at h1
  obtain ⟨D, hD⟩ : ∃ L, L = dgL s d f t l := ⟨_, rfl⟩
  obtain ⟨N, hN⟩ : ∃ N : Nat, N = 8 + n := ⟨_, rfl⟩
  obtain ⟨s1, hs1, hsU, hsx⟩ := xor_one s hs
  have hDn : D.length = N := by rw [hD, dgL_len, hn, hN]
  have hWL : wrL s d f t l = D := by unfold wrL; rw [hn, if_pos he, hD]
  have hIB : ∀ x ∈ D, IsB x := by rw [hD]; exact dgL_isB' s d f t l hb.isB
  obtain ⟨q1, q2, q3, q4⟩ := dg_read s d f t l lm n hb.isB hn hle hok
  rw [← hD] at q1 q2 q3 q4
  have HWR : Hid (∀ W, Below w.heap.size w W → Calls Try.prog 9 #[.int .u32 s, .int .u32 d, .agg (dgC f t (.slice a n c))] W fun e w' => ∃ a2 c2, e = .returned (.tuple #[.slice a2 N c2, .int .i64 0]) ∧ GO w' W.heap.size (.slice a2 N c2) D ∧ Below W.heap.size W w') := hid (fun W hW => by
    have := Write_any W s d f t a n c l hs hd hf ht hn hl (hb.later hW)
    rw [hWL, he, hDn] at this
    exact this)
  have HPA : Hid (∀ (W : World) (a2 : Option Addr) (c2 : Nat), N + nm ≤ c2 → Bytes W a2 (D ++ lm) → Calls Try.prog 7 #[.int .u32 s, .int .u32 d, .slice a2 (N + nm) c2] W fun e w' => ∃ ax cx, e = .returned (.tuple #[.agg (dgC f t (.slice ax n cx)), .int .i64 0]) ∧ By w' (New W) ax l ∧ Below W.heap.size W w') := hid (fun W a2 c2 hc2 hW => by
    have := Parse_any W s d a2 (N + nm) c2 (D ++ lm) hs hd (by rw [List.length_append, hDn, hnm]) (by omega) hc2 hW
    rw [q1, q2, q3, q4, hn] at this
    exact this)
  have HPS : Hid (∀ (W : World) (a2 : Option Addr) (c2 : Nat), N ≤ c2 → Bytes W a2 D → Calls Try.prog 7 #[.int .u32 s1, .int .u32 d, .slice a2 N c2] W fun e w' => ∃ F T az m cz, e = .returned (.tuple #[.agg (dgC F T (.slice az m cz)), .int .i64 13]) ∧ Below W.heap.size W w') := hid (fun W a2 c2 hc2 hW =>
    Parse_err W s1 d a2 N c2 D hsU hd hDn (by omega) hc2 hW 13 (by rw [hD]; exact dg_other s d f t l n s1 hb.isB hn hle hs hsx))
  have HPC : Hid (∀ (W : World) (a2 : Option Addr) (c2 : Nat) (k b : Nat) (y : Int), N ≤ c2 → (k < 4 ∨ 8 ≤ k ∧ k < 8 + n) → b < 8 → IsB y → (y = D.getD k 0 + 2 ^ b ∨ y = D.getD k 0 - 2 ^ b) → Bytes W a2 (D.set k y) → Calls Try.prog 7 #[.int .u32 s, .int .u32 d, .slice a2 N c2] W fun e w' => ∃ F T az m cz, e = .returned (.tuple #[.agg (dgC F T (.slice az m cz)), .int .i64 13]) ∧ Below W.heap.size W w') := hid (fun W a2 c2 k b y hc2 hk hb8 hy hyx hW => by
    have h13 := dg_turned s d f t l n k b y hb.isB hn hle hk hb8 hy (by rw [← hD]; exact hyx)
    rw [← hD] at h13
    exact Parse_err W s d a2 N c2 (D.set k y) hs hd (by rw [List.length_set, hDn]) (by omega) hc2 hW 13 h13)
  have HPK : Hid (∀ (W : World) (a2 : Option Addr) (c2 : Nat) (k : Nat), k ≤ c2 → k < N → Bytes W a2 (D.take k) → Calls Try.prog 7 #[.int .u32 s, .int .u32 d, .slice a2 k c2] W fun e w' => ∃ F T az m cz, e = .returned (.tuple #[.agg (dgC F T (.slice az m cz)), .int .i64 11]) ∧ Below W.heap.size W w') := hid (fun W a2 c2 k hc2 hk hW => by
    have h11 := dg_cut s d f t l n k hn hle (by omega)
    rw [← hD] at h11
    exact Parse_err W s d a2 k c2 (D.take k) hs hd (by rw [List.length_take, hDn]; omega) (by omega) hc2 hW 11 h11)
  have hi70 : ¬ ((70000 : Int) < n) := by omega
  have hi30 : ¬ ((3000 : Int) < nm) := by omega
  have H1 := hid h1
  have HB1 := hid b1
  have HG := hid hg
  have HN := hid hn
  have HBY := hid hb
  have HBM := hid hbm
  have HNM := hid hnm
  have HLN := hid hDn
  have HNN := hid hN
  have HLE := hid hle
  have HIB := hid hIB
  have HW := hW1.symm
  clear h1 b1 hW1 hn hb hbm hnm hDn hN hD hWL he hok hle hs hd hf ht q1 q2 q3 q4 hsU hsx hIB
  go_enter Try.func4, Try.ntmps4
  go_upto_region 8 with (first
    | (go_at_call 6; refine (known_any _).mono ?_; rintro e w2 ⟨rfl, hb2⟩; have h2 := (hb2.block g (Array.getElem?_eq_some_iff.1 H1.out).1).trans H1.out; have c22 := cell_of h2 (i := 2) (v := .slice a n c) rfl; have H2 := hid h2; have HB2 := hid (HB1.out.trans (hb2.mono HB1.out.size)); clear hb2 h2)
    | (refine wpList_load_row rfl 25 _ rfl g rfl 25 _ (0, 0) _ H2.out Try.underlying25 rfl sizeDg ?_)
    | (go_at_call 9; refine (HWR.out _ HB2.out).mono ?_; rintro e w3 ⟨ab, cb, rfl, hg3, hb3⟩; have H3 := hid ((hb3.block g (Array.getElem?_eq_some_iff.1 H2.out).1).trans H2.out); have HB3 := hid (HB2.out.trans (hb3.mono HB2.out.size)); have HG3 := hid hg3; clear hb3 hg3 HWR))
  clear c22
  obtain ⟨x3, y3, e3, hc3, hy3⟩ := HG3.out.by_ (S := New w2) (fun _ h => h)
  rw [HLN.out] at e3 hc3
  simp only [Value.slice.injEq, true_and] at e3
  obtain ⟨rfl, rfl⟩ := e3
  have HC3 := hid hc3
  have HY3 := hid hy3
  clear hc3 hy3 HG3
  obtain ⟨W4, hW4, a5, c5, w5, hap1, hg5, hb5⟩ := ownCopy w3 ab N cb D HLN.out (by have := HNN.out; omega) HY3.out.bytes
  obtain ⟨a6, c6, w6, hap2, hg6, hb6⟩ := hg5.push HLN.out hb5.size lm am nm cm HNM.out ((HBM.out.later HB3.out).later hb5) (by have := HNN.out; omega) 23
  have b36 := hb5.trans hb6
  obtain ⟨x6, y6, e6, hc6, hy6⟩ := hg6.by_ (S := New w3) (fun _ h => h)
  rw [List.length_append, HLN.out, HNM.out] at e6 hc6
  simp only [Value.slice.injEq, true_and] at e6
  obtain ⟨rfl, rfl⟩ := e6
  have HPA6 := hid (HPA.out w6 a6 c6 hc6 hy6.bytes)
  have HB6 := hid (HB3.out.trans (b36.mono HB3.out.size))
  have HB36 := hid b36
  have H6 := hid ((b36.block g (Array.getElem?_eq_some_iff.1 H3.out).1).trans H3.out)
  have HW4 := hW4.symm
  clear hW4 hg5 hb5 hg6 hb6 b36 hy6 hc6 HPA
  go_upto_region 11 with (first
    | (at_builtin; refine wpList_append_run rfl _ _ 23 rfl rfl rfl hap1 ?_; clear hap1)
    | (at_builtin; refine wpList_append_run rfl _ _ 23 rfl rfl rfl hap2 ?_; clear hap2)
    | (go_at_call 7; refine HPA6.out.mono ?_; rintro e w7 ⟨ax, cx, rfl, hyx, hb7⟩; obtain ⟨V5, hV5, kV5, V6, hV6, kV6, bV6⟩ := boxF w7 (dgC f t (.slice ax n cx)) rfl; obtain ⟨gx, hgx⟩ : ∃ g, w7.heap.size = g := ⟨_, rfl⟩; rw [hgx] at kV5 hV6 kV6; have h7 := (hb7.block g (Array.getElem?_eq_some_iff.1 H6.out).1).trans H6.out; have h7' := (bV6.block g (Array.getElem?_eq_some_iff.1 h7).1).trans h7; have HB7 := HB6.out.trans (hb7.mono HB6.out.size); have HBV := hid (HB7.trans (bV6.mono HB7.size)); have HB3V := hid (HB36.out.trans ((hb7.mono HB36.out.size).trans (bV6.mono (Nat.le_trans HB36.out.size hb7.size)))); have cva := conv0 (cap := cx) (hyx.later bV6).bytes HN.out; have cvb := conv0 (cap := c) (HBY.out.later HBV.out) HN.out; generalize strOfNums l = sl at *; have p0 := cell_of h7' (i := 0) (v := .int .i64 f) rfl; have p1 := cell_of h7' (i := 1) (v := .int .i64 t) rfl; have p2 := cell_of h7' (i := 2) (v := .slice a n c) rfl; have r0 := cell_of kV6 (i := 0) (v := .int .i64 f) rfl; have r1 := cell_of kV6 (i := 1) (v := .int .i64 t) rfl; have r2 := cell_of kV6 (i := 2) (v := .slice ax n cx) rfl; have HK5 := hid kV5; have HV5 := hV5.symm; have HV6 := hV6.symm; clear hyx hb7 hV5 hV6 kV5 kV6 bV6 h7 h7' HB7 HPA6)
    | (refine wpList_store_row rfl 25 _ _ rfl gx (dgC f t (.slice ax n cx)) rfl rfl 25 _ HK5.out sizeDg rfl (dgC_one _ _ _ _ _) ?_; rw [HV6]))
  clear p0 p1 p2 r0 r1 r2 cva cvb HV5 HV6 HW4 hgx
  have HPS7 := hid (HPS.out V6 ab cb HC3.out (HY3.out.later HB3V.out).bytes)
  go_upto_region 12 with (first
    | (go_at_call 7; refine HPS7.out.mono ?_; rintro e ws ⟨F, T, az, m, cz, rfl, hbs⟩; clear HPS7; obtain ⟨U5s, hU5s, kU5s, U6s, hU6s, kU6s, bU6s⟩ := boxF ws (dgC F T (.slice az m cz)) rfl; obtain ⟨gus, hgus⟩ : ∃ g, ws.heap.size = g := ⟨_, rfl⟩; rw [hgus] at kU5s hU6s kU6s; have h3u := HB3V.out.trans ((hbs.mono HB3V.out.size).trans (bU6s.mono (Nat.le_trans HB3V.out.size hbs.size))); have HB3Us := hid h3u; have h0u := HBV.out.trans (hbs.mono HBV.out.size); have HBUs := hid (h0u.trans (bU6s.mono h0u.size)); have HKUs := hid kU5s; have HU5s := hU5s.symm; have HU6s := hU6s.symm; clear hbs hU5s hU6s kU5s kU6s bU6s h3u h0u)
    | (refine wpList_store_row rfl 25 _ _ rfl gus (dgC F T (.slice az m cz)) rfl rfl 25 _ HKUs.out sizeDg rfl (dgC_one _ _ _ _ _) ?_; rw [HU6s]))
  clear HU5s HU6s hgus hs1
  obtain ⟨W8, hW8, a9, cc, w9, hap3, hg9, hb9⟩ := ownCopy U6s ab N cb D HLN.out (by have := HNN.out; omega) (HY3.out.later HB3Us.out).bytes
  obtain ⟨gc, cur, rfl, hgB, hcu, hcc9, hcs, hbc⟩ := hg9.cells HLN.out (by have := HNN.out; omega)
  have hwN := wi_bd at_ N (by have := HNN.out; omega)
  obtain ⟨k, hk⟩ : ∃ k' : Nat, wi at_ N = (k' : Int) := ⟨(wi at_ N).toNat, by omega⟩
  have HKN := hid (show k < N by omega)
  have HWI := hid hk
  have hw8 := wi_bd bit 8 (by omega)
  obtain ⟨tb, htb⟩ : ∃ k' : Nat, wi bit 8 = (k' : Int) := ⟨(wi bit 8).toNat, by omega⟩
  have htb8 : tb < 8 := by omega
  obtain ⟨a13, hct13, hcb13⟩ := cut_h ab N cb k (by omega) HC3.out
  have HCT := hid hct13
  have HC13 := hid hcb13
  obtain ⟨x, hx⟩ : ∃ x, x = D.getD k 0 := ⟨_, rfl⟩
  have hkL : k < D.length := by rw [HLN.out]; exact HKN.out
  have hxB : IsB x := by rw [hx]; exact mem_getD D IsB HIB.out k hkL
  obtain ⟨y, hxor, hyB, hyx⟩ := xor_bit x tb hxB htb8
  have hck := hbc k hkL
  rw [← hx] at hck
  have hB9 := HBUs.out.trans (hb9.mono HBUs.out.size)
  have HB9 := hid hB9
  have hgw : w.heap.size ≤ gc := Nat.le_trans HBUs.out.size hgB
  obtain ⟨W11, hW11, h11, b11, k11, s11⟩ := setP (drawn w9 gc _ hcu) k (.int .u8 y) w.heap.size w hB9.drew hgw
  have hset := hbc.set k y hkL
  have hby11 : Bytes W11 (some ⟨gc, 0, none⟩) (D.set k y) := (hset.bytes (S := fun _ => True) h11 (isB_set HIB.out k hyB) trivial).bytes
  have HPC11' := hid (fun hk8 : k < 4 ∨ 8 ≤ k ∧ k < 8 + n => HPC.out W11 (some ⟨gc, 0, none⟩) cc k tb y hcc9 hk8 htb8 hyB (by rw [← hx]; exact hyx) hby11)
  have HW11 := hid hW11
  have HCU := hid (drawn w9 gc _ hcu)
  have HCK := hid hck
  have HKS := hid (show k < cur.size by omega)
  have HTB := hid htb
  have HB11 := hid b11
  have h3v9 := HB3Us.out.trans (hb9.mono HB3Us.out.size)
  have HB39 := hid h3v9
  have HB3W : Hid (Below w3.heap.size w3 W11) := hid (by rw [hW11]; exact ((Mods.refl (fun b => b = gc) w9.drew).setCell gc k _ rfl).to_below h3v9.drew h3v9.drew.size (fun b hb => by rw [hb]; exact Nat.le_trans HB3Us.out.size hgB))
  have HW8 := hW8.symm
  have hsh : IntKind.u8.wrap ((2 : Int) ^ tb) = 2 ^ tb := by
    rcases (show tb = 0 ∨ tb = 1 ∨ tb = 2 ∨ tb = 3 ∨ tb = 4 ∨ tb = 5 ∨ tb = 6 ∨ tb = 7 by omega) with rfl | rfl | rfl | rfl | rfl | rfl | rfl | rfl <;> decide
  have hxy : bits .xor .u8 x (2 ^ tb) = y := hxor
  have hkN : (k : Int) < N := by have := HKN.out; omega
  clear hg9 hb9 hgB hcu hcs hbc hk hw8 htb hwN hct13 hcb13 hx hkL hxB hxor hyB hyx hck hB9 hgw hW11 h11 b11 k11 s11 hset hby11 h3v9 hW8 hcc9 HPC
  go_upto_region 14 with (first
    | (at_builtin; refine wpList_append_run rfl _ _ 23 rfl rfl rfl hap3 ?_; clear hap3)
    | (go_at_call 12; refine (lwithin_any at_ N (by have := HNN.out; omega) (by have := HNN.out; omega) _).mono ?_; rintro e w10 ⟨rfl, hw10⟩; obtain rfl : w9 = w10 := hw10.symm; rw [HWI.out]))
  clear HW8
  by_cases c4 : k < 4
  · have c4i : (k : Int) < 4 := by omega
    have HPC11 := hid (HPC11'.out (.inl c4))
    clear HPC11' c4
    go_upto_region 15 with fail
    try simp only [Act.put]
    refine wp_region_held_drew (S := fun _ => True) (by kernel_rfl) trivial (fun hS => ?_)
    refine nany_take 0 105 (.slice (some ⟨gc, 0, none⟩) N cc) rfl rfl (by kernel_rfl) (by kernel_rfl) (by kernel_rfl) (fun _ _ _ h => h) (Or.inl ⟨by rfl, ?_⟩) trivial ?_
    · rintro w' -
      go_simp
    simp only [List.setIfInBounds_toArray, List.set_cons_zero, List.set_cons_succ]
    refine nany_take 1 106 (.int .i64 k) rfl rfl (by kernel_rfl) (by kernel_rfl) (by kernel_rfl) (fun _ _ _ h => h) (Or.inl ⟨by rfl, ?_⟩) trivial ?_
    · rintro w' -
      go_simp
    simp only [List.setIfInBounds_toArray, List.set_cons_zero, List.set_cons_succ]
    refine nany_take 2 107 (.slice (some ⟨gc, 0, none⟩) N cc) rfl rfl (by kernel_rfl) (by kernel_rfl) (by kernel_rfl) (fun _ _ _ h => h) (Or.inl ⟨by rfl, ?_⟩) trivial ?_
    · rintro w' -
      go_simp
    simp only [List.setIfInBounds_toArray, List.set_cons_zero, List.set_cons_succ]
    refine nany_take 3 108 (.int .i64 k) rfl rfl (by kernel_rfl) (by kernel_rfl) (by kernel_rfl) (fun _ _ _ h => h) (Or.inl ⟨by rfl, ?_⟩) trivial ?_
    · rintro w' -
      go_simp
    simp only [List.setIfInBounds_toArray, List.set_cons_zero, List.set_cons_succ]
    refine nany_take 4 109 (.pointer (some ⟨gc, k, none⟩)) rfl rfl (by kernel_rfl) (by kernel_rfl) (by kernel_rfl) (fun _ _ _ h => h) (Or.inl ⟨by rfl, ?_⟩) trivial ?_
    · rintro w' -
      go_simp
    simp only [List.setIfInBounds_toArray, List.set_cons_zero, List.set_cons_succ]
    refine nany_take 6 111 (.int .i64 bit) rfl rfl (by kernel_rfl) (by kernel_rfl) (by kernel_rfl) (fun _ _ _ h => h) (Or.inl ⟨by rfl, ?_⟩) trivial ?_
    · rintro w' -
      go_simp
    simp only [List.setIfInBounds_toArray, List.set_cons_zero, List.set_cons_succ]
    refine nany_two 5 7 (by kernel_rfl) ?_ ?_
    · refine nop_value' 110 (v := .int .u8 x) (w' := w9.drew) rfl (by rfl) rfl (by have hcc := cell_of HCU.out HCK.out; have hcc' : w9.drew.cell? ⟨gc, k, none⟩ = some (.int .u8 x) := hcc; go_simp) ?_
      refine ⟨trivial, ?_⟩
      simp only [List.setIfInBounds_toArray, List.set_cons_zero, List.set_cons_succ]
      refine nany_one 7 (by kernel_rfl) ?_
      refine nop_callE 112 (f := 12) (args := #[.int .i64 bit, .int .i64 8]) (R := fun v w' => v = .int .i64 tb ∧ w' = w9.drew) rfl (by rfl) rfl (by go_simp) ((lwithin_any bit 8 (by omega) (by omega) w9.drew).mono (fun e w' h => ⟨_, h.1.trans (by rw [HTB.out]), rfl, h.2⟩)) ?_
      rintro v w10 ⟨rfl, hw10⟩
      subst hw10
      refine ⟨trivial, ?_⟩
      simp only [List.setIfInBounds_toArray, List.set_cons_zero, List.set_cons_succ]
      refine nany_take 8 113 (.int .u8 (2 ^ tb)) rfl rfl (by kernel_rfl) (by kernel_rfl) (by kernel_rfl) (fun _ _ _ h => h) (Or.inl ⟨by rfl, ?_⟩) trivial ?_
      · rintro w' -
        go_simp
      simp only [List.setIfInBounds_toArray, List.set_cons_zero, List.set_cons_succ]
      refine nany_take 9 114 (.int .u8 y) rfl rfl (by kernel_rfl) (by kernel_rfl) (by kernel_rfl) (fun _ _ _ h => h) (Or.inl ⟨by rfl, ?_⟩) trivial ?_
      · rintro w' -
        go_simp
      simp only [List.setIfInBounds_toArray, List.set_cons_zero, List.set_cons_succ]
      refine nany_take 10 115 (.pointer (some ⟨gc, k, none⟩)) rfl rfl (by kernel_rfl) (by kernel_rfl) (by kernel_rfl) (fun _ _ _ h => h) (Or.inl ⟨by rfl, ?_⟩) trivial ?_
      · rintro w' -
        go_simp
      simp only [List.setIfInBounds_toArray, List.set_cons_zero, List.set_cons_succ]
      refine nany_one 11 (by kernel_rfl) ?_
      refine nop_skip (w' := W11) rfl (by rfl) rfl (by rw [HW11.out]; exact ex_store5 _ _ rfl gc k y rfl rfl HCU.out HKS.out) ?_
      refine ⟨trivial, ?_⟩
      refine wpAnyH_done (by kernel_rfl) ?_ _
      clear hS
      clear hsh hxy
      go_upto_region 19 with (first | (go_at_call 7; refine HPC11.out.mono ?_; rintro e wu ⟨F, T, az, m, cz, rfl, hbu⟩; clear HPC11; obtain ⟨U5u, hU5u, kU5u, U6u, hU6u, kU6u, bU6u⟩ := boxF wu (dgC F T (.slice az m cz)) rfl; obtain ⟨guu, hguu⟩ : ∃ g, wu.heap.size = g := ⟨_, rfl⟩; rw [hguu] at kU5u hU6u kU6u; have h3u := HB3W.out.trans ((hbu.mono HB3W.out.size).trans (bU6u.mono (Nat.le_trans HB3W.out.size hbu.size))); have HB3Uu := hid h3u; have h0u := HB11.out.trans (hbu.mono HB11.out.size); have HBUu := hid (h0u.trans (bU6u.mono h0u.size)); have HKUu := hid kU5u; have HU5u := hU5u.symm; have HU6u := hU6u.symm; clear hbu hU5u hU6u kU5u kU6u bU6u h3u h0u) | (refine wpList_store_row rfl 25 _ _ rfl guu (dgC F T (.slice az m cz)) rfl rfl 25 _ HKUu.out sizeDg rfl (dgC_one _ _ _ _ _) ?_; rw [HU6u]))
      clear HU5u HU6u hguu
      have HPK15 := hid (HPK.out U6u a13 cb k (Nat.le_trans (Nat.le_of_lt HKN.out) HC3.out) HKN.out (HC13.out U6u D HLN.out ((HY3.out.later HB3Uu.out).bytes)))
      have hcut13' := HCT.out
      go_wp2_with (first | (go_at_call 7; refine HPK15.out.mono ?_; rintro e wz ⟨F, T, az, m, cz, rfl, hbz⟩; clear HPK15; obtain ⟨U5z, hU5z, kU5z, U6z, hU6z, kU6z, bU6z⟩ := boxF wz (dgC F T (.slice az m cz)) rfl; obtain ⟨guz, hguz⟩ : ∃ g, wz.heap.size = g := ⟨_, rfl⟩; rw [hguz] at kU5z hU6z kU6z; have h3u := HB3Uu.out.trans ((hbz.mono HB3Uu.out.size).trans (bU6z.mono (Nat.le_trans HB3Uu.out.size hbz.size))); have HB3Uz := hid h3u; have h0u := HBUu.out.trans (hbz.mono HBUu.out.size); have HBUz := hid (h0u.trans (bU6z.mono h0u.size)); have HKUz := hid kU5z; have HU5z := hU5z.symm; have HU6z := hU6z.symm; clear hbz hU5z hU6z kU5z kU6z bU6z h3u h0u) | (refine wpList_store_row rfl 25 _ _ rfl guz (dgC F T (.slice az m cz)) rfl rfl 25 _ HKUz.out sizeDg rfl (dgC_one _ _ _ _ _) ?_; rw [HU6z]))
      go_ret
      have h2 := HBUz.out
      first | exact ⟨rfl, h2⟩ | (rw [HG.out] at h2; exact ⟨rfl, h2⟩)
    · refine nop_callE 112 (f := 12) (args := #[.int .i64 bit, .int .i64 8]) (R := fun v w' => v = .int .i64 tb ∧ w' = w9.drew) rfl (by rfl) rfl (by go_simp) ((lwithin_any bit 8 (by omega) (by omega) w9.drew).mono (fun e w' h => ⟨_, h.1.trans (by rw [HTB.out]), rfl, h.2⟩)) ?_
      rintro v w10 ⟨rfl, hw10⟩
      subst hw10
      refine ⟨trivial, ?_⟩
      simp only [List.setIfInBounds_toArray, List.set_cons_zero, List.set_cons_succ]
      refine nany_take 8 113 (.int .u8 (2 ^ tb)) rfl rfl (by kernel_rfl) (by kernel_rfl) (by kernel_rfl) (fun _ _ _ h => h) (Or.inl ⟨by rfl, ?_⟩) trivial ?_
      · rintro w' -
        go_simp
      simp only [List.setIfInBounds_toArray, List.set_cons_zero, List.set_cons_succ]
      refine nany_one 5 (by kernel_rfl) ?_
      refine nop_value' 110 (v := .int .u8 x) (w' := w9.drew) rfl (by rfl) rfl (by have hcc := cell_of HCU.out HCK.out; have hcc' : w9.drew.cell? ⟨gc, k, none⟩ = some (.int .u8 x) := hcc; go_simp) ?_
      refine ⟨trivial, ?_⟩
      simp only [List.setIfInBounds_toArray, List.set_cons_zero, List.set_cons_succ]
      refine nany_take 9 114 (.int .u8 y) rfl rfl (by kernel_rfl) (by kernel_rfl) (by kernel_rfl) (fun _ _ _ h => h) (Or.inl ⟨by rfl, ?_⟩) trivial ?_
      · rintro w' -
        go_simp
      simp only [List.setIfInBounds_toArray, List.set_cons_zero, List.set_cons_succ]
      refine nany_take 10 115 (.pointer (some ⟨gc, k, none⟩)) rfl rfl (by kernel_rfl) (by kernel_rfl) (by kernel_rfl) (fun _ _ _ h => h) (Or.inl ⟨by rfl, ?_⟩) trivial ?_
      · rintro w' -
        go_simp
      simp only [List.setIfInBounds_toArray, List.set_cons_zero, List.set_cons_succ]
      refine nany_one 11 (by kernel_rfl) ?_
      refine nop_skip (w' := W11) rfl (by rfl) rfl (by rw [HW11.out]; exact ex_store5 _ _ rfl gc k y rfl rfl HCU.out HKS.out) ?_
      refine ⟨trivial, ?_⟩
      refine wpAnyH_done (by kernel_rfl) ?_ _
      clear hS
      clear hsh hxy
      go_upto_region 19 with (first | (go_at_call 7; refine HPC11.out.mono ?_; rintro e wu ⟨F, T, az, m, cz, rfl, hbu⟩; clear HPC11; obtain ⟨U5u, hU5u, kU5u, U6u, hU6u, kU6u, bU6u⟩ := boxF wu (dgC F T (.slice az m cz)) rfl; obtain ⟨guu, hguu⟩ : ∃ g, wu.heap.size = g := ⟨_, rfl⟩; rw [hguu] at kU5u hU6u kU6u; have h3u := HB3W.out.trans ((hbu.mono HB3W.out.size).trans (bU6u.mono (Nat.le_trans HB3W.out.size hbu.size))); have HB3Uu := hid h3u; have h0u := HB11.out.trans (hbu.mono HB11.out.size); have HBUu := hid (h0u.trans (bU6u.mono h0u.size)); have HKUu := hid kU5u; have HU5u := hU5u.symm; have HU6u := hU6u.symm; clear hbu hU5u hU6u kU5u kU6u bU6u h3u h0u) | (refine wpList_store_row rfl 25 _ _ rfl guu (dgC F T (.slice az m cz)) rfl rfl 25 _ HKUu.out sizeDg rfl (dgC_one _ _ _ _ _) ?_; rw [HU6u]))
      clear HU5u HU6u hguu
      have HPK15 := hid (HPK.out U6u a13 cb k (Nat.le_trans (Nat.le_of_lt HKN.out) HC3.out) HKN.out (HC13.out U6u D HLN.out ((HY3.out.later HB3Uu.out).bytes)))
      have hcut13' := HCT.out
      go_wp2_with (first | (go_at_call 7; refine HPK15.out.mono ?_; rintro e wz ⟨F, T, az, m, cz, rfl, hbz⟩; clear HPK15; obtain ⟨U5z, hU5z, kU5z, U6z, hU6z, kU6z, bU6z⟩ := boxF wz (dgC F T (.slice az m cz)) rfl; obtain ⟨guz, hguz⟩ : ∃ g, wz.heap.size = g := ⟨_, rfl⟩; rw [hguz] at kU5z hU6z kU6z; have h3u := HB3Uu.out.trans ((hbz.mono HB3Uu.out.size).trans (bU6z.mono (Nat.le_trans HB3Uu.out.size hbz.size))); have HB3Uz := hid h3u; have h0u := HBUu.out.trans (hbz.mono HBUu.out.size); have HBUz := hid (h0u.trans (bU6z.mono h0u.size)); have HKUz := hid kU5z; have HU5z := hU5z.symm; have HU6z := hU6z.symm; clear hbz hU5z hU6z kU5z kU6z bU6z h3u h0u) | (refine wpList_store_row rfl 25 _ _ rfl guz (dgC F T (.slice az m cz)) rfl rfl 25 _ HKUz.out sizeDg rfl (dgC_one _ _ _ _ _) ?_; rw [HU6z]))
      go_ret
      have h2 := HBUz.out
      first | exact ⟨rfl, h2⟩ | (rw [HG.out] at h2; exact ⟨rfl, h2⟩)
  · have c4i : ¬ ((k : Int) < 4) := by omega
    by_cases c8 : 8 ≤ k
    · have c8i : (8 : Int) ≤ k := by omega
      have HPC11 := hid (HPC11'.out (.inr ⟨c8, by have := HKN.out; have := HNN.out; omega⟩))
      clear HPC11' c4 c8
      go_upto_region 15 with fail
      try simp only [Act.put]
      refine wp_region_held_drew (S := fun _ => True) (by kernel_rfl) trivial (fun hS => ?_)
      refine nany_take 0 105 (.slice (some ⟨gc, 0, none⟩) N cc) rfl rfl (by kernel_rfl) (by kernel_rfl) (by kernel_rfl) (fun _ _ _ h => h) (Or.inl ⟨by rfl, ?_⟩) trivial ?_
      · rintro w' -
        go_simp
      simp only [List.setIfInBounds_toArray, List.set_cons_zero, List.set_cons_succ]
      refine nany_take 1 106 (.int .i64 k) rfl rfl (by kernel_rfl) (by kernel_rfl) (by kernel_rfl) (fun _ _ _ h => h) (Or.inl ⟨by rfl, ?_⟩) trivial ?_
      · rintro w' -
        go_simp
      simp only [List.setIfInBounds_toArray, List.set_cons_zero, List.set_cons_succ]
      refine nany_take 2 107 (.slice (some ⟨gc, 0, none⟩) N cc) rfl rfl (by kernel_rfl) (by kernel_rfl) (by kernel_rfl) (fun _ _ _ h => h) (Or.inl ⟨by rfl, ?_⟩) trivial ?_
      · rintro w' -
        go_simp
      simp only [List.setIfInBounds_toArray, List.set_cons_zero, List.set_cons_succ]
      refine nany_take 3 108 (.int .i64 k) rfl rfl (by kernel_rfl) (by kernel_rfl) (by kernel_rfl) (fun _ _ _ h => h) (Or.inl ⟨by rfl, ?_⟩) trivial ?_
      · rintro w' -
        go_simp
      simp only [List.setIfInBounds_toArray, List.set_cons_zero, List.set_cons_succ]
      refine nany_take 4 109 (.pointer (some ⟨gc, k, none⟩)) rfl rfl (by kernel_rfl) (by kernel_rfl) (by kernel_rfl) (fun _ _ _ h => h) (Or.inl ⟨by rfl, ?_⟩) trivial ?_
      · rintro w' -
        go_simp
      simp only [List.setIfInBounds_toArray, List.set_cons_zero, List.set_cons_succ]
      refine nany_take 6 111 (.int .i64 bit) rfl rfl (by kernel_rfl) (by kernel_rfl) (by kernel_rfl) (fun _ _ _ h => h) (Or.inl ⟨by rfl, ?_⟩) trivial ?_
      · rintro w' -
        go_simp
      simp only [List.setIfInBounds_toArray, List.set_cons_zero, List.set_cons_succ]
      refine nany_two 5 7 (by kernel_rfl) ?_ ?_
      · refine nop_value' 110 (v := .int .u8 x) (w' := w9.drew) rfl (by rfl) rfl (by have hcc := cell_of HCU.out HCK.out; have hcc' : w9.drew.cell? ⟨gc, k, none⟩ = some (.int .u8 x) := hcc; go_simp) ?_
        refine ⟨trivial, ?_⟩
        simp only [List.setIfInBounds_toArray, List.set_cons_zero, List.set_cons_succ]
        refine nany_one 7 (by kernel_rfl) ?_
        refine nop_callE 112 (f := 12) (args := #[.int .i64 bit, .int .i64 8]) (R := fun v w' => v = .int .i64 tb ∧ w' = w9.drew) rfl (by rfl) rfl (by go_simp) ((lwithin_any bit 8 (by omega) (by omega) w9.drew).mono (fun e w' h => ⟨_, h.1.trans (by rw [HTB.out]), rfl, h.2⟩)) ?_
        rintro v w10 ⟨rfl, hw10⟩
        subst hw10
        refine ⟨trivial, ?_⟩
        simp only [List.setIfInBounds_toArray, List.set_cons_zero, List.set_cons_succ]
        refine nany_take 8 113 (.int .u8 (2 ^ tb)) rfl rfl (by kernel_rfl) (by kernel_rfl) (by kernel_rfl) (fun _ _ _ h => h) (Or.inl ⟨by rfl, ?_⟩) trivial ?_
        · rintro w' -
          go_simp
        simp only [List.setIfInBounds_toArray, List.set_cons_zero, List.set_cons_succ]
        refine nany_take 9 114 (.int .u8 y) rfl rfl (by kernel_rfl) (by kernel_rfl) (by kernel_rfl) (fun _ _ _ h => h) (Or.inl ⟨by rfl, ?_⟩) trivial ?_
        · rintro w' -
          go_simp
        simp only [List.setIfInBounds_toArray, List.set_cons_zero, List.set_cons_succ]
        refine nany_take 10 115 (.pointer (some ⟨gc, k, none⟩)) rfl rfl (by kernel_rfl) (by kernel_rfl) (by kernel_rfl) (fun _ _ _ h => h) (Or.inl ⟨by rfl, ?_⟩) trivial ?_
        · rintro w' -
          go_simp
        simp only [List.setIfInBounds_toArray, List.set_cons_zero, List.set_cons_succ]
        refine nany_one 11 (by kernel_rfl) ?_
        refine nop_skip (w' := W11) rfl (by rfl) rfl (by rw [HW11.out]; exact ex_store5 _ _ rfl gc k y rfl rfl HCU.out HKS.out) ?_
        refine ⟨trivial, ?_⟩
        refine wpAnyH_done (by kernel_rfl) ?_ _
        clear hS
        clear hsh hxy
        go_upto_region 19 with (first | (go_at_call 7; refine HPC11.out.mono ?_; rintro e wu ⟨F, T, az, m, cz, rfl, hbu⟩; clear HPC11; obtain ⟨U5u, hU5u, kU5u, U6u, hU6u, kU6u, bU6u⟩ := boxF wu (dgC F T (.slice az m cz)) rfl; obtain ⟨guu, hguu⟩ : ∃ g, wu.heap.size = g := ⟨_, rfl⟩; rw [hguu] at kU5u hU6u kU6u; have h3u := HB3W.out.trans ((hbu.mono HB3W.out.size).trans (bU6u.mono (Nat.le_trans HB3W.out.size hbu.size))); have HB3Uu := hid h3u; have h0u := HB11.out.trans (hbu.mono HB11.out.size); have HBUu := hid (h0u.trans (bU6u.mono h0u.size)); have HKUu := hid kU5u; have HU5u := hU5u.symm; have HU6u := hU6u.symm; clear hbu hU5u hU6u kU5u kU6u bU6u h3u h0u) | (refine wpList_store_row rfl 25 _ _ rfl guu (dgC F T (.slice az m cz)) rfl rfl 25 _ HKUu.out sizeDg rfl (dgC_one _ _ _ _ _) ?_; rw [HU6u]))
        clear HU5u HU6u hguu
        have HPK15 := hid (HPK.out U6u a13 cb k (Nat.le_trans (Nat.le_of_lt HKN.out) HC3.out) HKN.out (HC13.out U6u D HLN.out ((HY3.out.later HB3Uu.out).bytes)))
        have hcut13' := HCT.out
        go_wp2_with (first | (go_at_call 7; refine HPK15.out.mono ?_; rintro e wz ⟨F, T, az, m, cz, rfl, hbz⟩; clear HPK15; obtain ⟨U5z, hU5z, kU5z, U6z, hU6z, kU6z, bU6z⟩ := boxF wz (dgC F T (.slice az m cz)) rfl; obtain ⟨guz, hguz⟩ : ∃ g, wz.heap.size = g := ⟨_, rfl⟩; rw [hguz] at kU5z hU6z kU6z; have h3u := HB3Uu.out.trans ((hbz.mono HB3Uu.out.size).trans (bU6z.mono (Nat.le_trans HB3Uu.out.size hbz.size))); have HB3Uz := hid h3u; have h0u := HBUu.out.trans (hbz.mono HBUu.out.size); have HBUz := hid (h0u.trans (bU6z.mono h0u.size)); have HKUz := hid kU5z; have HU5z := hU5z.symm; have HU6z := hU6z.symm; clear hbz hU5z hU6z kU5z kU6z bU6z h3u h0u) | (refine wpList_store_row rfl 25 _ _ rfl guz (dgC F T (.slice az m cz)) rfl rfl 25 _ HKUz.out sizeDg rfl (dgC_one _ _ _ _ _) ?_; rw [HU6z]))
        go_ret
        have h2 := HBUz.out
        first | exact ⟨rfl, h2⟩ | (rw [HG.out] at h2; exact ⟨rfl, h2⟩)
      · refine nop_callE 112 (f := 12) (args := #[.int .i64 bit, .int .i64 8]) (R := fun v w' => v = .int .i64 tb ∧ w' = w9.drew) rfl (by rfl) rfl (by go_simp) ((lwithin_any bit 8 (by omega) (by omega) w9.drew).mono (fun e w' h => ⟨_, h.1.trans (by rw [HTB.out]), rfl, h.2⟩)) ?_
        rintro v w10 ⟨rfl, hw10⟩
        subst hw10
        refine ⟨trivial, ?_⟩
        simp only [List.setIfInBounds_toArray, List.set_cons_zero, List.set_cons_succ]
        refine nany_take 8 113 (.int .u8 (2 ^ tb)) rfl rfl (by kernel_rfl) (by kernel_rfl) (by kernel_rfl) (fun _ _ _ h => h) (Or.inl ⟨by rfl, ?_⟩) trivial ?_
        · rintro w' -
          go_simp
        simp only [List.setIfInBounds_toArray, List.set_cons_zero, List.set_cons_succ]
        refine nany_one 5 (by kernel_rfl) ?_
        refine nop_value' 110 (v := .int .u8 x) (w' := w9.drew) rfl (by rfl) rfl (by have hcc := cell_of HCU.out HCK.out; have hcc' : w9.drew.cell? ⟨gc, k, none⟩ = some (.int .u8 x) := hcc; go_simp) ?_
        refine ⟨trivial, ?_⟩
        simp only [List.setIfInBounds_toArray, List.set_cons_zero, List.set_cons_succ]
        refine nany_take 9 114 (.int .u8 y) rfl rfl (by kernel_rfl) (by kernel_rfl) (by kernel_rfl) (fun _ _ _ h => h) (Or.inl ⟨by rfl, ?_⟩) trivial ?_
        · rintro w' -
          go_simp
        simp only [List.setIfInBounds_toArray, List.set_cons_zero, List.set_cons_succ]
        refine nany_take 10 115 (.pointer (some ⟨gc, k, none⟩)) rfl rfl (by kernel_rfl) (by kernel_rfl) (by kernel_rfl) (fun _ _ _ h => h) (Or.inl ⟨by rfl, ?_⟩) trivial ?_
        · rintro w' -
          go_simp
        simp only [List.setIfInBounds_toArray, List.set_cons_zero, List.set_cons_succ]
        refine nany_one 11 (by kernel_rfl) ?_
        refine nop_skip (w' := W11) rfl (by rfl) rfl (by rw [HW11.out]; exact ex_store5 _ _ rfl gc k y rfl rfl HCU.out HKS.out) ?_
        refine ⟨trivial, ?_⟩
        refine wpAnyH_done (by kernel_rfl) ?_ _
        clear hS
        clear hsh hxy
        go_upto_region 19 with (first | (go_at_call 7; refine HPC11.out.mono ?_; rintro e wu ⟨F, T, az, m, cz, rfl, hbu⟩; clear HPC11; obtain ⟨U5u, hU5u, kU5u, U6u, hU6u, kU6u, bU6u⟩ := boxF wu (dgC F T (.slice az m cz)) rfl; obtain ⟨guu, hguu⟩ : ∃ g, wu.heap.size = g := ⟨_, rfl⟩; rw [hguu] at kU5u hU6u kU6u; have h3u := HB3W.out.trans ((hbu.mono HB3W.out.size).trans (bU6u.mono (Nat.le_trans HB3W.out.size hbu.size))); have HB3Uu := hid h3u; have h0u := HB11.out.trans (hbu.mono HB11.out.size); have HBUu := hid (h0u.trans (bU6u.mono h0u.size)); have HKUu := hid kU5u; have HU5u := hU5u.symm; have HU6u := hU6u.symm; clear hbu hU5u hU6u kU5u kU6u bU6u h3u h0u) | (refine wpList_store_row rfl 25 _ _ rfl guu (dgC F T (.slice az m cz)) rfl rfl 25 _ HKUu.out sizeDg rfl (dgC_one _ _ _ _ _) ?_; rw [HU6u]))
        clear HU5u HU6u hguu
        have HPK15 := hid (HPK.out U6u a13 cb k (Nat.le_trans (Nat.le_of_lt HKN.out) HC3.out) HKN.out (HC13.out U6u D HLN.out ((HY3.out.later HB3Uu.out).bytes)))
        have hcut13' := HCT.out
        go_wp2_with (first | (go_at_call 7; refine HPK15.out.mono ?_; rintro e wz ⟨F, T, az, m, cz, rfl, hbz⟩; clear HPK15; obtain ⟨U5z, hU5z, kU5z, U6z, hU6z, kU6z, bU6z⟩ := boxF wz (dgC F T (.slice az m cz)) rfl; obtain ⟨guz, hguz⟩ : ∃ g, wz.heap.size = g := ⟨_, rfl⟩; rw [hguz] at kU5z hU6z kU6z; have h3u := HB3Uu.out.trans ((hbz.mono HB3Uu.out.size).trans (bU6z.mono (Nat.le_trans HB3Uu.out.size hbz.size))); have HB3Uz := hid h3u; have h0u := HBUu.out.trans (hbz.mono HBUu.out.size); have HBUz := hid (h0u.trans (bU6z.mono h0u.size)); have HKUz := hid kU5z; have HU5z := hU5z.symm; have HU6z := hU6z.symm; clear hbz hU5z hU6z kU5z kU6z bU6z h3u h0u) | (refine wpList_store_row rfl 25 _ _ rfl guz (dgC F T (.slice az m cz)) rfl rfl 25 _ HKUz.out sizeDg rfl (dgC_one _ _ _ _ _) ?_; rw [HU6z]))
        go_ret
        have h2 := HBUz.out
        first | exact ⟨rfl, h2⟩ | (rw [HG.out] at h2; exact ⟨rfl, h2⟩)
    · have c8i : ¬ ((8 : Int) ≤ k) := by omega
      clear HPC11' c4 c8 hsh hxy
      have HPK15 := hid (HPK.out w9 a13 cb k (Nat.le_trans (Nat.le_of_lt HKN.out) HC3.out) HKN.out (HC13.out w9 D HLN.out ((HY3.out.later HB39.out).bytes)))
      have hcut13' := HCT.out
      go_wp2_with (first | (go_at_call 7; refine HPK15.out.mono ?_; rintro e wz ⟨F, T, az, m, cz, rfl, hbz⟩; clear HPK15; obtain ⟨U5z, hU5z, kU5z, U6z, hU6z, kU6z, bU6z⟩ := boxF wz (dgC F T (.slice az m cz)) rfl; obtain ⟨guz, hguz⟩ : ∃ g, wz.heap.size = g := ⟨_, rfl⟩; rw [hguz] at kU5z hU6z kU6z; have h3u := HB39.out.trans ((hbz.mono HB39.out.size).trans (bU6z.mono (Nat.le_trans HB39.out.size hbz.size))); have HB3Uz := hid h3u; have h0u := HB9.out.trans (hbz.mono HB9.out.size); have HBUz := hid (h0u.trans (bU6z.mono h0u.size)); have HKUz := hid kU5z; have HU5z := hU5z.symm; have HU6z := hU6z.symm; clear hbz hU5z hU6z kU5z kU6z bU6z h3u h0u) | (refine wpList_store_row rfl 25 _ _ rfl guz (dgC F T (.slice az m cz)) rfl rfl 25 _ HKUz.out sizeDg rfl (dgC_one _ _ _ _ _) ?_; rw [HU6z]))
      go_ret
      have h2 := HBUz.out
      first | exact ⟨rfl, h2⟩ | (rw [HG.out] at h2; exact ⟨rfl, h2⟩)
set_option maxRecDepth 100000 in
set_option maxHeartbeats 4000000 in
theorem UdpBack_bad (w : World) (s d f t : Int) (a : Option Addr) (n c : Nat) (l : List Int) (am : Option Addr) (nm cm : Nat) (at_ bit : Int) (hs : IsU s) (hd : IsU d) (hf : II f) (ht : II t) (hn : l.length = n) (hl : n ≤ 70000) (hb : Bytes w a l) (hlm : nm ≤ 3000) (he : ¬ wrE f t n = 0) :
    Calls Try.prog 4 #[.int .u32 s, .int .u32 d, .agg (dgC f t (.slice a n c)), .slice am nm cm, .int .i64 at_, .int .i64 bit] w fun e w' => e = .returned (.bool true) ∧ Below w.heap.size w w' := by
  obtain ⟨W1, hW1, h1, b1⟩ := boxP w (dgC f t (.slice a n c)) 25
  obtain ⟨g, hg⟩ : ∃ g, w.heap.size = g := ⟨_, rfl⟩
  rw [hg] at h1
  have hWL : wrL s d f t l = [] := by unfold wrL; rw [hn, if_neg he]
  have hE : (wrE f t n != 0) = true := bne_iff_ne.2 he
  have HWR : Hid (∀ W, Below w.heap.size w W → Calls Try.prog 9 #[.int .u32 s, .int .u32 d, .agg (dgC f t (.slice a n c))] W fun e w' => ∃ a2 c2, e = .returned (.tuple #[.slice a2 0 c2, .int .i64 (wrE f t n)]) ∧ True ∧ Below W.heap.size W w') := hid (fun W hW => by
    have := Write_any W s d f t a n c l hs hd hf ht hn hl (hb.later hW)
    rw [hWL] at this
    refine this.mono ?_
    rintro e w' ⟨a2, c2, rfl, _, hb'⟩
    exact ⟨a2, c2, rfl, trivial, hb'⟩)
  generalize wrE f t n = E at *
  have hi70 : ¬ ((70000 : Int) < n) := by omega
  have hi30 : ¬ ((3000 : Int) < nm) := by omega
  have H1 := hid h1
  have HB1 := hid b1
  have HG := hid hg
  have HW := hW1.symm
  clear h1 b1 hW1 hn hb hWL he hs hd hf ht
  go_enter Try.func4, Try.ntmps4
  go_wp2_with (first
    | (go_at_call 6; refine (known_any _).mono ?_; rintro e w2 ⟨rfl, hb2⟩; have h2 := (hb2.block g (Array.getElem?_eq_some_iff.1 H1.out).1).trans H1.out; have c22 := cell_of h2 (i := 2) (v := .slice a n c) rfl; have H2 := hid h2; have HB2 := hid (HB1.out.trans (hb2.mono HB1.out.size)); clear hb2 h2)
    | (refine wpList_load_row rfl 25 _ rfl g rfl 25 _ (0, 0) _ H2.out Try.underlying25 rfl sizeDg ?_)
    | (go_at_call 9; refine (HWR.out _ HB2.out).mono ?_; rintro e w3 ⟨ab, cb, rfl, hg3, hb3⟩; have H3 := hid ((hb3.block g (Array.getElem?_eq_some_iff.1 H2.out).1).trans H2.out); have HB3 := hid (HB2.out.trans (hb3.mono HB2.out.size)); have HG3 := hid hg3; clear hb3 hg3 HWR))
  go_ret
  have h2 := HB3.out
  first | exact ⟨rfl, h2⟩ | (rw [HG.out] at h2; exact ⟨rfl, h2⟩)
set_option maxRecDepth 100000 in
set_option maxHeartbeats 4000000 in
theorem UdpBack_big (w : World) (s d f t : Int) (a : Option Addr) (n c : Nat) (am : Option Addr) (nm cm : Nat) (at_ bit : Int) (hbig : 70000 < n ∨ 3000 < nm) (hn : n ≤ maxLen) (hnm : nm ≤ maxLen) :
    Calls Try.prog 4 #[.int .u32 s, .int .u32 d, .agg (dgC f t (.slice a n c)), .slice am nm cm, .int .i64 at_, .int .i64 bit] w fun e w' => e = .returned (.bool true) ∧ Below w.heap.size w w' := by
  obtain ⟨W1, hW1, h1, b1⟩ := boxP w (dgC f t (.slice a n c)) 25
  obtain ⟨g, hg⟩ : ∃ g, w.heap.size = g := ⟨_, rfl⟩
  rw [hg] at h1
  unfold maxLen at hn hnm
  have H1 := hid h1
  have HB1 := hid b1
  have HG := hid hg
  have HW := hW1.symm
  clear h1 b1 hW1
  by_cases k1 : 70000 < n
  · have hi70 : (70000 : Int) < n := by omega
    clear hbig
    go_enter Try.func4, Try.ntmps4
    go_wp2_with (go_at_call 6; refine (known_any _).mono ?_; rintro e w2 ⟨rfl, hb2⟩; have h2 := (hb2.block g (Array.getElem?_eq_some_iff.1 H1.out).1).trans H1.out; have c22 := cell_of h2 (i := 2) (v := .slice a n c) rfl; have H2 := hid h2; have HB2 := hid (HB1.out.trans (hb2.mono HB1.out.size)); clear hb2 h2)
    go_ret
    have h2 := HB2.out
    first | exact ⟨rfl, h2⟩ | (rw [HG.out] at h2; exact ⟨rfl, h2⟩)
  · have hi70 : ¬ ((70000 : Int) < n) := by omega
    have hi30 : (3000 : Int) < nm := by omega
    clear hbig
    go_enter Try.func4, Try.ntmps4
    go_wp2_with (go_at_call 6; refine (known_any _).mono ?_; rintro e w2 ⟨rfl, hb2⟩; have h2 := (hb2.block g (Array.getElem?_eq_some_iff.1 H1.out).1).trans H1.out; have c22 := cell_of h2 (i := 2) (v := .slice a n c) rfl; have H2 := hid h2; have HB2 := hid (HB1.out.trans (hb2.mono HB1.out.size)); clear hb2 h2)
    go_ret
    have h2 := HB2.out
    first | exact ⟨rfl, h2⟩ | (rw [HG.out] at h2; exact ⟨rfl, h2⟩)
theorem UdpBack_walk (w : World) (s d f t : Int) (a : Option Addr) (n c : Nat) (l : List Int) (am : Option Addr) (nm cm : Nat) (lm : List Int) (at_ bit : Int) (hs : IsU s) (hd : IsU d) (hft : II f ∧ II t) (hn : l.length = n) (hml : n ≤ maxLen) (hb : Bytes w a l) (hnm : lm.length = nm) (hmm : nm ≤ maxLen) (hbm : Bytes w am lm) :
    Calls Try.prog 4 #[.int .u32 s, .int .u32 d, .agg (dgC f t (.slice a n c)), .slice am nm cm, .int .i64 at_, .int .i64 bit] w fun e w' => e = .returned (.bool true) ∧ Below w.heap.size w w' := by
  by_cases h1 : 70000 < n ∨ 3000 < nm
  · exact UdpBack_big w s d f t a n c am nm cm at_ bit h1 hml hmm
  · by_cases he : wrE f t n = 0
    · exact UdpBack_ok w s d f t a n c l am nm cm lm at_ bit hs hd hft.1 hft.2 hn (by omega) hb hnm (by omega) hbm he
    · exact UdpBack_bad w s d f t a n c l am nm cm at_ bit hs hd hft.1 hft.2 hn (by omega) hb (by omega) he
end Go.Proofs.Ytbhdbgippbopfaa
