/- IpPackets: any bytes are read as a packet, any packet written, as the document says. -/
import Derived.Test.YtgdajplloamjcaaPcI
import Derived.Test.YtgdajplloamjcaaPcG
import Derived.Test.YtgdajplloamjcaaPdE0
namespace Go.Proofs.Ytgdajplloamjcaa
open Go.RowKit Go.Maps
set_option linter.unusedVariables false
theorem boxD (w : World) (M : Array Value) (hs : M.size = 9) : ∃ W5, W5 = w.alloc (.cells (pkC 0 0 0 0 0 false false 0 (.slice none 0 0)) 30) ∧ W5.heap[w.heap.size]? = some (.cells (pkC 0 0 0 0 0 false false 0 (.slice none 0 0)) 30 (0, 0)) ∧ ∃ W6, W6 = W5.setRow w.heap.size M ∧ W6.heap[w.heap.size]? = some (.cells M 30 (0, 0)) ∧ Below w.heap.size w W6 := by
  obtain ⟨W5, h5, k5, b5⟩ := boxP w (pkC 0 0 0 0 0 false false 0 (.slice none 0 0)) 30
  refine ⟨W5, h5, k5, _, rfl, setRow_heap _ _ _ _ _ _ k5, (setRow_mods _ _ _).to_below b5 b5.size (fun x hx => by omega)⟩
theorem Parse_any (w : World) (a : Option Addr) (n c : Nat) (l : List Int) (hn : l.length = n) (hl : n ≤ 800000) (hc : n ≤ c) (hb : Bytes w a l) :
    Calls Try.prog 8 #[.slice a n c] w fun e w' => ∃ a2 c2, e = .returned (.tuple #[.agg (pkV (prP l) (.slice a2 (prP l).body.length c2)), .int .i64 (exE l)]) ∧ By w' (New w) a2 (prP l).body ∧ Below w.heap.size w w' := by
  by_cases he : exE l = 0
  · have hp : prP l = prO l := by unfold prP; rw [if_pos he]
    rw [hp, he]
    refine (Parse_ok w a n c l hn hl hc hb he).mono ?_
    rintro e w' ⟨a2, c2, rfl, h1, h2, h3⟩
    exact ⟨a2, c2, rfl, h1, h3⟩
  · have hp : prP l = pk0 := by unfold prP; rw [if_neg he]
    rw [hp]
    refine (Parse_bad w a n c l hn hl hc hb he).mono ?_
    rintro e w' ⟨rfl, h3⟩
    exact ⟨none, 0, rfl, By.nil _ _ _, h3⟩
theorem rParse_any (w : World) (a : Option Addr) (n c : Nat) (l : List Int) (hn : l.length = n) (hl : n ≤ 800000) (hc : n ≤ c) (hb : Bytes w a l) :
    Calls Try.prog 9 #[.slice a n c] w fun e w' => ∃ a2 c2, e = .returned (.tuple #[.agg (pkV (prP l) (.slice a2 (prP l).body.length c2)), .int .i64 (exE l)]) ∧ By w' (New w) a2 (prP l).body ∧ Below w.heap.size w w' := by
  by_cases he : exE l = 0
  · have hp : prP l = prO l := by unfold prP; rw [if_pos he]
    rw [hp, he]
    refine (rParse_ok w a n c l hn hl hc hb he).mono ?_
    rintro e w' ⟨a2, c2, rfl, h1, h2, h3⟩
    exact ⟨a2, c2, rfl, h1, h3⟩
  · have hp : prP l = pk0 := by unfold prP; rw [if_neg he]
    rw [hp]
    refine (rParse_bad w a n c l hn hl hc hb he).mono ?_
    rintro e w' ⟨rfl, h3⟩
    exact ⟨none, 0, rfl, By.nil _ _ _, h3⟩
set_option maxRecDepth 100000 in
set_option maxHeartbeats 16000000 in
theorem IpPackets_walk (w : World) (al : Option Addr) (nl cl : Nat) (l : List Int) (s d pr i o : Int) (m q : Bool) (t : Int) (a : Option Addr) (n c : Nat) (l2 : List Int) (hll : l.length = nl) (hml : nl ≤ maxLen) (hcl : nl ≤ cl) (hbl : Bytes w al l) (hok : IsU s ∧ IsU d ∧ II pr ∧ II i ∧ II o ∧ II t) (hn : l2.length = n) (hmn : n ≤ maxLen) (hc : n ≤ c) (hb : Bytes w a l2) :
    Calls Try.prog 3 #[.slice al nl cl, .agg (pkC s d pr i o m q t (.slice a n c))] w fun e w' => e = .returned (.bool true) ∧ Below w.heap.size w w' := by
  unfold maxLen at hml hmn
  obtain ⟨W1, hW1, h1, b1⟩ := boxP w (pkC s d pr i o m q t (.slice a n c)) 25
  obtain ⟨g, hg⟩ : ∃ g, w.heap.size = g := ⟨_, rfl⟩
  rw [hg] at h1
  have H1 := hid h1
  have HB1 := hid b1
  have HG := hid hg
  have HN := hid hn
  have HLL := hid hll
  have HBL := hid hbl
  have HBP := hid hb
  have HW := hW1.symm
  clear h1 b1 hW1 hn hll hbl hb
  by_cases k1 : 32768 < nl
  · have k1i : (32768 : Int) < nl := by omega
    clear hok
    go_enter Try.func3, Try.ntmps3
    go_wp2_with (go_at_call 7; refine (known_any _).mono ?_; rintro e w2 ⟨rfl, hb2⟩; have h2 := (hb2.block g (Array.getElem?_eq_some_iff.1 H1.out).1).trans H1.out; have c28 := cell_of h2 (i := 8) (v := .slice a n c) rfl; have H2 := hid h2; have HB2 := hid (HB1.out.trans (hb2.mono HB1.out.size)); clear hb2 h2)
    go_ret
    have h2 := HB2.out
    first | exact ⟨rfl, h2⟩ | (rw [HG.out] at h2; exact ⟨rfl, h2⟩)
  · have k1i : ¬ ((32768 : Int) < nl) := by omega
    by_cases k2 : 70000 < n
    · have k2i : (70000 : Int) < n := by omega
      clear hok
      go_enter Try.func3, Try.ntmps3
      go_wp2_with (go_at_call 7; refine (known_any _).mono ?_; rintro e w2 ⟨rfl, hb2⟩; have h2 := (hb2.block g (Array.getElem?_eq_some_iff.1 H1.out).1).trans H1.out; have c28 := cell_of h2 (i := 8) (v := .slice a n c) rfl; have H2 := hid h2; have HB2 := hid (HB1.out.trans (hb2.mono HB1.out.size)); clear hb2 h2)
      go_ret
      have h2 := HB2.out
      first | exact ⟨rfl, h2⟩ | (rw [HG.out] at h2; exact ⟨rfl, h2⟩)
    · have k2i : ¬ ((70000 : Int) < n) := by omega
      obtain ⟨P, hP⟩ : ∃ P, prP l = P := ⟨_, rfl⟩
      obtain ⟨nP, hnP⟩ : ∃ k : Nat, P.body.length = k := ⟨_, rfl⟩
      obtain ⟨E, hE⟩ : ∃ E, exE l = E := ⟨_, rfl⟩
      obtain ⟨LW, hLW⟩ : ∃ L, wrL s d pr i o m t l2 = L := ⟨_, rfl⟩
      obtain ⟨nW, hnW⟩ : ∃ k : Nat, LW.length = k := ⟨_, rfl⟩
      obtain ⟨G, hG⟩ : ∃ E, wrE pr i o m t n = E := ⟨_, rfl⟩
      have HPA := hid (fun (W : World) (a2 : Option Addr) (c2 : Nat) (h1 : nl ≤ c2) (h2 : Bytes W a2 l) => Parse_any W a2 nl c2 l HLL.out (by omega) h1 h2)
      have HRA := hid (fun (W : World) (a2 : Option Addr) (c2 : Nat) (h1 : nl ≤ c2) (h2 : Bytes W a2 l) => rParse_any W a2 nl c2 l HLL.out (by omega) h1 h2)
      have HWA := hid (fun (W : World) (a2 : Option Addr) (c2 : Nat) (h2 : Bytes W a2 l2) => Write_any W s d pr i o m q t a2 n c2 l2 hok.1 hok.2.1 hok.2.2.1 hok.2.2.2.1 hok.2.2.2.2.1 hok.2.2.2.2.2 HN.out (by omega) h2)
      have HVA := hid (fun (W : World) (a2 : Option Addr) (c2 : Nat) (h2 : Bytes W a2 l2) => rWrite_any W s d pr i o m q t a2 n c2 l2 hok.1 hok.2.1 hok.2.2.1 hok.2.2.2.1 hok.2.2.2.2.1 hok.2.2.2.2.2 HN.out (by omega) h2)
      rw [hP, hnP, hE] at HPA HRA
      rw [hLW, hnW, hG] at HWA HVA
      have HPL := hid hnP
      have HWL := hid hnW
      obtain ⟨sW, hsW⟩ : ∃ x, strOfNums LW = x := ⟨_, rfl⟩
      have HSW := hid hsW
      obtain ⟨sl, hsl⟩ : ∃ x, strOfNums l = x := ⟨_, rfl⟩
      have HSL := hid hsl
      clear hP hnP hE hLW hnW hG hsW hsl hok
      go_enter Try.func3, Try.ntmps3
      go_upto_region 5 with (go_at_call 7; refine (known_any _).mono ?_; rintro e w2 ⟨rfl, hb2⟩; have h2 := (hb2.block g (Array.getElem?_eq_some_iff.1 H1.out).1).trans H1.out; have c28 := cell_of h2 (i := 8) (v := .slice a n c) rfl; have H2 := hid h2; have HB2 := hid (HB1.out.trans (hb2.mono HB1.out.size)); clear hb2 h2)
      obtain ⟨W3, hW3, am, cm, w3, hap, hg3, hb3⟩ := ownCopy w2 al nl cl l HLL.out (by omega) (HBL.out.later HB2.out)
      obtain ⟨x3, y3, e3, hcm, hym⟩ := hg3.by_ (S := fun _ => True) (fun _ _ => trivial)
      rw [HLL.out] at e3 hcm
      simp only [Value.slice.injEq, true_and] at e3
      obtain ⟨rfl, rfl⟩ := e3
      have HB3 := hid (HB2.out.trans (hb3.mono HB2.out.size))
      have H3a := hid ((hb3.block g (Array.getElem?_eq_some_iff.1 H2.out).1).trans H2.out)
      have HYM3 := hid hym.bytes
      have HCM := hid hcm
      have HW3 := hW3.symm
      clear hW3 hg3 hb3 hym hcm c28
      go_upto_region 7 with (first
        | (at_builtin; refine wpList_append_run rfl _ _ 22 rfl rfl rfl hap ?_)
        | (go_at_call 8; refine (HPA.out _ _ _ HCM.out HYM3.out).mono ?_; rintro e w4 ⟨ax, cx, rfl, hyx, hb4⟩; obtain ⟨V5, hV5, kV5, V6, hV6, kV6, bV6⟩ := boxF w4 (pkV P (.slice ax nP cx)) rfl; obtain ⟨g6, hg6⟩ : ∃ g, w4.heap.size = g := ⟨_, rfl⟩; rw [hg6] at kV5 hV6 kV6; have b36 := hb4.trans (bV6.mono hb4.size); have HB36 := hid b36; have HB6 := hid (HB3.out.trans (b36.mono HB3.out.size)); have H6 := hid kV6; have HK5 := hid kV5; have HYX6 := hid (hyx.later bV6).bytes; have H3b := hid ((b36.block g (Array.getElem?_eq_some_iff.1 H3a.out).1).trans H3a.out); have HV5 := hV5.symm; have HV6 := hV6.symm; clear hyx hb4 hV5 kV5 hV6 kV6 bV6 b36 HPA)
        | (refine wpList_store_row rfl 25 _ _ rfl g6 (pkV P (.slice ax nP cx)) rfl rfl 25 _ HK5.out sizePk rfl (pkC_one _ _ _ _ _ _ _ _ _ rfl) ?_; rw [HV6]))
      clear hap HW3 HV5 HV6 hg6
      go_upto_region 8 with (first
        | (go_at_call 9; refine (HRA.out _ _ _ hcl (HBL.out.later HB6.out)).mono ?_; rintro e w7 ⟨ay, cy, rfl, hyy, hb7⟩; obtain ⟨V7, hV7, kV7, V8, hV8, kV8, bV8⟩ := boxD w7 (pkV P (.slice ay nP cy)) rfl; obtain ⟨g8, hg8⟩ : ∃ g, w7.heap.size = g := ⟨_, rfl⟩; rw [hg8] at kV7 hV8 kV8; have b68 := hb7.trans (bV8.mono hb7.size); have HB68 := hid b68; have HB8 := hid (HB6.out.trans (b68.mono HB6.out.size)); have H8 := hid kV8; have HK7 := hid kV7; have HYY8 := hid (hyy.later bV8).bytes; have H3c := hid ((b68.block g (Array.getElem?_eq_some_iff.1 H3b.out).1).trans H3b.out); have HV7 := hV7.symm; have HV8 := hV8.symm; clear hyy hb7 hV7 kV7 hV8 kV8 bV8 b68 HRA)
        | (refine wpList_store_row rfl 30 _ _ rfl g8 (pkV P (.slice ay nP cy)) rfl rfl 30 _ HK7.out sizeDk rfl (pkC_one _ _ _ _ _ _ _ _ _ rfl) ?_; rw [HV8]))
      clear HV7 HV8 hg8
      go_upto_region 9 with (first
        | (refine wpList_load_row rfl 25 _ rfl g rfl 25 _ (0, 0) _ H3c.out Try.underlying25 rfl sizePk ?_)
        | (go_at_call 10; refine (ltwin_any _ s d pr i o m q t a n c l2 HN.out (by omega) (HBP.out.later HB8.out)).mono ?_; rintro e w9 ⟨aq, cq, rfl, hyq, hcq, hb9⟩; obtain ⟨U5, hU5, kU5, U6, hU6, kU6, bU6⟩ := boxF w9 (pkC s d pr i o m q t (.slice aq n cq)) rfl; obtain ⟨g10, hg10⟩ : ∃ g, w9.heap.size = g := ⟨_, rfl⟩; rw [hg10] at kU5 hU6 kU6; have b89 := hb9.trans (bU6.mono hb9.size); have HB89 := hid b89; have HBU := hid (HB8.out.trans (b89.mono HB8.out.size)); have H10a := hid kU6; have HKU := hid kU5; have HYQ9 := hid (hyq.later bU6).bytes; have H3d := hid ((b89.block g (Array.getElem?_eq_some_iff.1 H3c.out).1).trans H3c.out); have HU5 := hU5.symm; have HU6 := hU6.symm; clear hyq hcq hb9 hU5 kU5 hU6 kU6 bU6 b89)
        | (refine wpList_store_row rfl 25 _ _ rfl g10 (pkC s d pr i o m q t (.slice aq n cq)) rfl rfl 25 _ HKU.out sizePk rfl (pkC_one _ _ _ _ _ _ _ _ _ rfl) ?_; rw [HU6]))
      clear HU5 HU6 hg10
      go_upto_region 10 with (first
        | (refine wpList_load_row rfl 25 _ rfl g10 rfl 25 _ (0, 0) _ H10a.out Try.underlying25 rfl sizePk ?_)
        | (go_at_call 11; refine (HWA.out _ _ _ HYQ9.out).mono ?_; rintro e x1 ⟨aw, cw, rfl, hyw, hcw, hbx1⟩; have HBx1 := hid (HBU.out.trans (hbx1.mono HBU.out.size)); have HUx1 := hid hbx1; have HYWa := hid hyw.bytes; have H3e := hid ((hbx1.block g (Array.getElem?_eq_some_iff.1 H3d.out).1).trans H3d.out); clear hyw hcw hbx1 HWA))
      go_upto_region 11 with (first
        | (refine wpList_load_row rfl 25 _ rfl g rfl 25 _ (0, 0) _ H3e.out Try.underlying25 rfl sizePk ?_)
        | (go_at_call 13; refine (theirs_any _ s d pr i o m q t a n c).mono ?_; rintro e x2 ⟨rfl, hbx2⟩; have HBx2 := hid (HBx1.out.trans (hbx2.mono HBx1.out.size)); have HUx2 := hid (HUx1.out.trans (hbx2.mono HUx1.out.size)); have HYWb := hid (HYWa.out.later hbx2); clear hbx2)
        | (go_at_call 12; refine (HVA.out _ _ _ (HBP.out.later HBx2.out)).mono ?_; rintro e w10 ⟨av, cv, rfl, hyv, hcv, hbx3⟩; have HB10 := hid (HBx2.out.trans (hbx3.mono HBx2.out.size)); have HU10 := hid (HUx2.out.trans (hbx3.mono HUx2.out.size)); have HYW := hid (HYWb.out.later hbx3); have HYV := hid hyv.bytes; clear hyv hcv hbx3 HVA))
      have b8U := HB89.out.trans (HU10.out.mono HB89.out.size)
      have b6U := HB68.out.trans (b8U.mono HB68.out.size)
      have b3U := HB36.out.trans (b6U.mono HB36.out.size)
      have H10 := hid ((HU10.out.block g10 (Array.getElem?_eq_some_iff.1 H10a.out).1).trans H10a.out)
      have H3 := hid ((HU10.out.block g (Array.getElem?_eq_some_iff.1 H3d.out).1).trans H3d.out)
      have H8 := hid ((b8U.block g8 (Array.getElem?_eq_some_iff.1 H8.out).1).trans H8.out)
      have H6 := hid ((b6U.block g6 (Array.getElem?_eq_some_iff.1 H6.out).1).trans H6.out)
      have HYX := hid (HYX6.out.later b6U)
      have HYY := hid (HYY8.out.later b8U)
      have HYQ := hid (HYQ9.out.later HU10.out)
      have HYM := hid (HYM3.out.later b3U)
      have HYL := hid (HBL.out.later HB10.out)
      have HYP := hid (HBP.out.later HB10.out)
      clear b8U b6U b3U
      try simp only [Act.put]
      refine wp_region_held_drew (S := fun W => Below w10.heap.size w10 W) (by kernel_rfl) ((Below.refl _ _).drew) (fun hS => ?_)
      refine nany_take 0 52 (.agg (pkV P (.slice ax nP cx))) rfl rfl (by kernel_rfl) (by kernel_rfl) (by kernel_rfl) (fun _ _ _ h => h) (Or.inl ⟨by rfl, ?_⟩) hS ?_
      · rintro w' hS'
        exact ex_load 25 _ rfl g6 rfl 25 _ (0, 0) _ ((hS'.block g6 (Array.getElem?_eq_some_iff.1 H6.out).1).trans H6.out) Try.underlying25 sizePk
      simp only [List.setIfInBounds_toArray, List.set_cons_zero, List.set_cons_succ]
      refine nany_take 1 53 (.agg (pkV P (.slice ay nP cy))) rfl rfl (by kernel_rfl) (by kernel_rfl) (by kernel_rfl) (fun _ _ _ h => h) (Or.inl ⟨by rfl, ?_⟩) hS ?_
      · rintro w' hS'
        exact ex_load 30 _ rfl g8 rfl 30 _ (0, 0) _ ((hS'.block g8 (Array.getElem?_eq_some_iff.1 H8.out).1).trans H8.out) Try.underlying30 sizeDk
      simp only [List.setIfInBounds_toArray, List.set_cons_zero, List.set_cons_succ]
      refine nany_one 2 (by kernel_rfl) ?_
      refine nop_callE 54 (f := 14) (args := #[.agg (pkV P (.slice ax nP cx)), .agg (pkV P (.slice ay nP cy))]) (R := fun v w' => v = .bool true ∧ Below w10.heap.size w10 w') rfl (by rfl) rfl (by go_simp) ((same_eq w10.drew P.src P.dst P.proto P.id P.off P.more P.whole P.ttl ax ay nP cx cy P.body HPL.out (HYX.out.later hS) (HYY.out.later hS)).mono (fun e w' h => ⟨_, h.1, rfl, hS.trans (h.2.mono hS.size)⟩)) ?_
      rintro v w11 ⟨rfl, hb11⟩
      refine ⟨hb11, ?_⟩
      simp only [List.setIfInBounds_toArray, List.set_cons_zero, List.set_cons_succ]
      refine nany_take 3 55 (.bool true) rfl rfl (by kernel_rfl) (by kernel_rfl) (by kernel_rfl) (fun _ _ _ h => h) (Or.inl ⟨by rfl, ?_⟩) hb11 ?_
      · rintro w' hS'
        go_simp
      simp only [List.setIfInBounds_toArray, List.set_cons_zero, List.set_cons_succ]
      refine nany_take 4 56 (.int .i64 E) rfl rfl (by kernel_rfl) (by kernel_rfl) (by kernel_rfl) (fun _ _ _ h => h) (Or.inl ⟨by rfl, ?_⟩) hb11 ?_
      · rintro w' hS'
        go_simp
      simp only [List.setIfInBounds_toArray, List.set_cons_zero, List.set_cons_succ]
      refine nany_take 5 57 (.int .i64 E) rfl rfl (by kernel_rfl) (by kernel_rfl) (by kernel_rfl) (fun _ _ _ h => h) (Or.inl ⟨by rfl, ?_⟩) hb11 ?_
      · rintro w' hS'
        go_simp
      simp only [List.setIfInBounds_toArray, List.set_cons_zero, List.set_cons_succ]
      refine nany_take 6 58 (.bool true) rfl rfl (by kernel_rfl) (by kernel_rfl) (by kernel_rfl) (fun _ _ _ h => h) (Or.inl ⟨by rfl, ?_⟩) hb11 ?_
      · rintro w' hS'
        go_simp
      simp only [List.setIfInBounds_toArray, List.set_cons_zero, List.set_cons_succ]
      refine nany_take 7 59 (.bool true) rfl rfl (by kernel_rfl) (by kernel_rfl) (by kernel_rfl) (fun _ _ _ h => h) (Or.inl ⟨by rfl, ?_⟩) hb11 ?_
      · rintro w' hS'
        go_simp
      simp only [List.setIfInBounds_toArray, List.set_cons_zero, List.set_cons_succ]
      refine nany_take 8 60 (.bool true) rfl rfl (by kernel_rfl) (by kernel_rfl) (by kernel_rfl) (fun _ _ _ h => h) (Or.inl ⟨by rfl, ?_⟩) hb11 ?_
      · rintro w' hS'
        go_simp
      simp only [List.setIfInBounds_toArray, List.set_cons_zero, List.set_cons_succ]
      refine nany_take 9 61 (.slice aw nW cw) rfl rfl (by kernel_rfl) (by kernel_rfl) (by kernel_rfl) (fun _ _ _ h => h) (Or.inl ⟨by rfl, ?_⟩) hb11 ?_
      · rintro w' hS'
        go_simp
      simp only [List.setIfInBounds_toArray, List.set_cons_zero, List.set_cons_succ]
      refine nany_take 10 62 (.string sW) rfl rfl (by kernel_rfl) (by kernel_rfl) (by kernel_rfl) (fun _ _ _ h => h) (Or.inl ⟨by rfl, ?_⟩) hb11 ?_
      · rintro w' hS'
        have hq := conv0 (cap := cw) (HYW.out.later hS') HWL.out; rw [HSW.out] at hq; go_simp
      simp only [List.setIfInBounds_toArray, List.set_cons_zero, List.set_cons_succ]
      refine nany_take 11 63 (.slice av nW cv) rfl rfl (by kernel_rfl) (by kernel_rfl) (by kernel_rfl) (fun _ _ _ h => h) (Or.inl ⟨by rfl, ?_⟩) hb11 ?_
      · rintro w' hS'
        go_simp
      simp only [List.setIfInBounds_toArray, List.set_cons_zero, List.set_cons_succ]
      refine nany_take 12 64 (.string sW) rfl rfl (by kernel_rfl) (by kernel_rfl) (by kernel_rfl) (fun _ _ _ h => h) (Or.inl ⟨by rfl, ?_⟩) hb11 ?_
      · rintro w' hS'
        have hq := conv0 (cap := cv) (HYV.out.later hS') HWL.out; rw [HSW.out] at hq; go_simp
      simp only [List.setIfInBounds_toArray, List.set_cons_zero, List.set_cons_succ]
      refine nany_take 13 65 (.bool true) rfl rfl (by kernel_rfl) (by kernel_rfl) (by kernel_rfl) (fun _ _ _ h => h) (Or.inl ⟨by rfl, ?_⟩) hb11 ?_
      · rintro w' hS'
        go_simp
      simp only [List.setIfInBounds_toArray, List.set_cons_zero, List.set_cons_succ]
      refine nany_take 14 66 (.bool true) rfl rfl (by kernel_rfl) (by kernel_rfl) (by kernel_rfl) (fun _ _ _ h => h) (Or.inl ⟨by rfl, ?_⟩) hb11 ?_
      · rintro w' hS'
        go_simp
      simp only [List.setIfInBounds_toArray, List.set_cons_zero, List.set_cons_succ]
      refine nany_take 15 67 (.bool true) rfl rfl (by kernel_rfl) (by kernel_rfl) (by kernel_rfl) (fun _ _ _ h => h) (Or.inl ⟨by rfl, ?_⟩) hb11 ?_
      · rintro w' hS'
        go_simp
      simp only [List.setIfInBounds_toArray, List.set_cons_zero, List.set_cons_succ]
      refine nany_take 16 68 (.int .i64 G) rfl rfl (by kernel_rfl) (by kernel_rfl) (by kernel_rfl) (fun _ _ _ h => h) (Or.inl ⟨by rfl, ?_⟩) hb11 ?_
      · rintro w' hS'
        go_simp
      simp only [List.setIfInBounds_toArray, List.set_cons_zero, List.set_cons_succ]
      refine nany_take 17 69 (.int .i64 G) rfl rfl (by kernel_rfl) (by kernel_rfl) (by kernel_rfl) (fun _ _ _ h => h) (Or.inl ⟨by rfl, ?_⟩) hb11 ?_
      · rintro w' hS'
        go_simp
      simp only [List.setIfInBounds_toArray, List.set_cons_zero, List.set_cons_succ]
      refine nany_take 18 70 (.bool true) rfl rfl (by kernel_rfl) (by kernel_rfl) (by kernel_rfl) (fun _ _ _ h => h) (Or.inl ⟨by rfl, ?_⟩) hb11 ?_
      · rintro w' hS'
        go_simp
      simp only [List.setIfInBounds_toArray, List.set_cons_zero, List.set_cons_succ]
      refine nany_take 19 71 (.bool true) rfl rfl (by kernel_rfl) (by kernel_rfl) (by kernel_rfl) (fun _ _ _ h => h) (Or.inl ⟨by rfl, ?_⟩) hb11 ?_
      · rintro w' hS'
        go_simp
      simp only [List.setIfInBounds_toArray, List.set_cons_zero, List.set_cons_succ]
      refine nany_take 20 72 (.bool true) rfl rfl (by kernel_rfl) (by kernel_rfl) (by kernel_rfl) (fun _ _ _ h => h) (Or.inl ⟨by rfl, ?_⟩) hb11 ?_
      · rintro w' hS'
        go_simp
      simp only [List.setIfInBounds_toArray, List.set_cons_zero, List.set_cons_succ]
      refine nany_take 21 73 (.slice am nl cm) rfl rfl (by kernel_rfl) (by kernel_rfl) (by kernel_rfl) (fun _ _ _ h => h) (Or.inl ⟨by rfl, ?_⟩) hb11 ?_
      · rintro w' hS'
        go_simp
      simp only [List.setIfInBounds_toArray, List.set_cons_zero, List.set_cons_succ]
      refine nany_take 22 74 (.string sl) rfl rfl (by kernel_rfl) (by kernel_rfl) (by kernel_rfl) (fun _ _ _ h => h) (Or.inl ⟨by rfl, ?_⟩) hb11 ?_
      · rintro w' hS'
        have hq := conv0 (cap := cm) (HYM.out.later hS') HLL.out; rw [HSL.out] at hq; go_simp
      simp only [List.setIfInBounds_toArray, List.set_cons_zero, List.set_cons_succ]
      refine nany_take 23 75 (.slice al nl cl) rfl rfl (by kernel_rfl) (by kernel_rfl) (by kernel_rfl) (fun _ _ _ h => h) (Or.inl ⟨by rfl, ?_⟩) hb11 ?_
      · rintro w' hS'
        go_simp
      simp only [List.setIfInBounds_toArray, List.set_cons_zero, List.set_cons_succ]
      refine nany_take 24 76 (.string sl) rfl rfl (by kernel_rfl) (by kernel_rfl) (by kernel_rfl) (fun _ _ _ h => h) (Or.inl ⟨by rfl, ?_⟩) hb11 ?_
      · rintro w' hS'
        have hq := conv0 (cap := cl) (HYL.out.later hS') HLL.out; rw [HSL.out] at hq; go_simp
      simp only [List.setIfInBounds_toArray, List.set_cons_zero, List.set_cons_succ]
      refine nany_take 25 77 (.bool true) rfl rfl (by kernel_rfl) (by kernel_rfl) (by kernel_rfl) (fun _ _ _ h => h) (Or.inl ⟨by rfl, ?_⟩) hb11 ?_
      · rintro w' hS'
        go_simp
      simp only [List.setIfInBounds_toArray, List.set_cons_zero, List.set_cons_succ]
      refine nany_take 26 78 (.bool true) rfl rfl (by kernel_rfl) (by kernel_rfl) (by kernel_rfl) (fun _ _ _ h => h) (Or.inl ⟨by rfl, ?_⟩) hb11 ?_
      · rintro w' hS'
        go_simp
      simp only [List.setIfInBounds_toArray, List.set_cons_zero, List.set_cons_succ]
      refine nany_take 27 79 (.bool true) rfl rfl (by kernel_rfl) (by kernel_rfl) (by kernel_rfl) (fun _ _ _ h => h) (Or.inl ⟨by rfl, ?_⟩) hb11 ?_
      · rintro w' hS'
        go_simp
      simp only [List.setIfInBounds_toArray, List.set_cons_zero, List.set_cons_succ]
      refine nany_take 28 80 (.agg (pkC s d pr i o m q t (.slice aq n cq))) rfl rfl (by kernel_rfl) (by kernel_rfl) (by kernel_rfl) (fun _ _ _ h => h) (Or.inl ⟨by rfl, ?_⟩) hb11 ?_
      · rintro w' hS'
        exact ex_load 25 _ rfl g10 rfl 25 _ (0, 0) _ ((hS'.block g10 (Array.getElem?_eq_some_iff.1 H10.out).1).trans H10.out) Try.underlying25 sizePk
      simp only [List.setIfInBounds_toArray, List.set_cons_zero, List.set_cons_succ]
      refine nany_take 29 81 (.agg (pkC s d pr i o m q t (.slice a n c))) rfl rfl (by kernel_rfl) (by kernel_rfl) (by kernel_rfl) (fun _ _ _ h => h) (Or.inl ⟨by rfl, ?_⟩) hb11 ?_
      · rintro w' hS'
        exact ex_load 25 _ rfl g rfl 25 _ (0, 0) _ ((hS'.block g (Array.getElem?_eq_some_iff.1 H3.out).1).trans H3.out) Try.underlying25 sizePk
      simp only [List.setIfInBounds_toArray, List.set_cons_zero, List.set_cons_succ]
      refine nany_one 30 (by kernel_rfl) ?_
      refine nop_callE 82 (f := 13) (args := #[.agg (pkC s d pr i o m q t (.slice a n c))]) (R := fun v w' => v = .agg (pkC s d pr i o m q t (.slice a n c)) ∧ Below w10.heap.size w10 w') rfl (by rfl) rfl (by go_simp) ((theirs_any w11 s d pr i o m q t a n c).mono (fun e w' h => ⟨_, h.1, rfl, hb11.trans (h.2.mono hb11.size)⟩)) ?_
      rintro v w12 ⟨rfl, hb12⟩
      refine ⟨hb12, ?_⟩
      simp only [List.setIfInBounds_toArray, List.set_cons_zero, List.set_cons_succ]
      refine nany_one 31 (by kernel_rfl) ?_
      refine nop_callE 83 (f := 14) (args := #[.agg (pkC s d pr i o m q t (.slice aq n cq)), .agg (pkC s d pr i o m q t (.slice a n c))]) (R := fun v w' => v = .bool true ∧ Below w10.heap.size w10 w') rfl (by rfl) rfl (by go_simp) ((same_eq w12 s d pr i o m q t aq a n cq c l2 HN.out (HYQ.out.later hb12) (HYP.out.later hb12)).mono (fun e w' h => ⟨_, h.1, rfl, hb12.trans (h.2.mono hb12.size)⟩)) ?_
      rintro v w13 ⟨rfl, hb13⟩
      refine ⟨hb13, ?_⟩
      simp only [List.setIfInBounds_toArray, List.set_cons_zero, List.set_cons_succ]
      refine nany_take 32 84 (.bool true) rfl rfl (by kernel_rfl) (by kernel_rfl) (by kernel_rfl) (fun _ _ _ h => h) (Or.inl ⟨by rfl, ?_⟩) hb13 ?_
      · rintro w' hS'
        go_simp
      simp only [List.setIfInBounds_toArray, List.set_cons_zero, List.set_cons_succ]
      refine nany_take 33 4 (.bool true) rfl rfl (by kernel_rfl) (by kernel_rfl) (by kernel_rfl) (fun _ _ _ h => h) (Or.inl ⟨by rfl, ?_⟩) hb13 ?_
      · rintro w' hS'
        go_simp
      simp only [List.setIfInBounds_toArray, List.set_cons_zero, List.set_cons_succ]
      refine wpAnyH_done (by kernel_rfl) ?_ _
      have HB13 := hid hb13
      clear hb11 hb12 hb13 hS
      go_wp2
      go_ret
      have h2 := HB10.out.trans (HB13.out.mono HB10.out.size)
      first | exact ⟨rfl, h2⟩ | (rw [HG.out] at h2; exact ⟨rfl, h2⟩)
end Go.Proofs.Ytgdajplloamjcaa
