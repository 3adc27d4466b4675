/- IpCuts: any packet is taken to parts as the document says. -/
import Derived.Test.YtgdajplloamjcaaPcC
namespace Go.Proofs.Ytgdajplloamjcaa
open Go.RowKit Go.Maps
set_option linter.unusedVariables false
theorem Bytes.drew {w : World} {a : Option Addr} {l : List Int} (h : Bytes w a l) : Bytes w.drew a l := h.later ((Below.refl _ _).drew)
theorem rangeAt_later {w w' : World} {b o : Nat} {cs : List Value} (h : Below w.heap.size w w') (hr : w.rangeAt b o cs) : w'.rangeAt b o cs := fun j v hj => cell_later h (hr j v hj)
theorem PL.rng {w : World} {t B : Nat} {v : Value} {L : List Px} (h : PL w t B v L) {i : Nat} (hi : i < L.length) : ∃ b off cap, v = .slice (some ⟨b, off, none⟩) L.length cap ∧ w.rangeAt b (off + i * 9) (pxV (L.getD i default)) ∧ By w (fun x => B ≤ x) (L.getD i default).a (L.getD i default).p.body := by
  obtain ⟨h2, h3⟩ := h.2.2 _ (getD_memX hi)
  rcases h.1.2 with ⟨rfl, h0⟩ | ⟨b, off, cap, cur, rfl, hh, _, _, _, hc⟩
  · omega
  · refine ⟨b, off, cap, rfl, Go.Proofs.Ytgdajplloamjcaa.rng hh _ _ (fun j hj => ?_), h2.weak (fun b hb _ => hb.1)⟩
    rw [pxV_len] at hj
    rw [Nat.add_assoc, hc _ (by omega), cellsPx, flat_at pxV 9 pxV_len L default i j hi hj]
theorem PL.lenle {w : World} {t B : Nat} {v : Value} {L : List Px} (h : PL w t B v L) : L.length ≤ 9223372036854775807 := by
  rcases h.1.2 with ⟨_, h0⟩ | ⟨b, off, cap, cur, _, _, h1, h2, _⟩
  · omega
  · unfold maxLen at h2; omega
set_option maxRecDepth 100000 in
set_option maxHeartbeats 4000000 in
theorem IpCuts_walk (w : World) (s d pr i o : Int) (m q : Bool) (t : Int) (a : Option Addr) (nb c : Nat) (l : List Int) (mtu : Int) (hmt : II mtu) (hn : l.length = nb) (hc : nb ≤ c) (hml : nb ≤ maxLen) (hb : Bytes w a l) :
    Calls Try.prog 4 #[.agg (pkC s d pr i o m q t (.slice a nb c)), .int .i64 mtu] w fun e w' => e = .returned (.bool true) ∧ Below w.heap.size w w' := by
  obtain ⟨W1, hW1, h1, b1⟩ := boxP w (pkC s d pr i o m q t (.slice a nb c)) 25
  obtain ⟨g, hg⟩ : ∃ g, w.heap.size = g := ⟨_, rfl⟩
  rw [hg] at h1
  unfold maxLen at hml
  have H1 := hid h1
  have HB1 := hid b1
  have HG := hid hg
  have HN := hid hn
  have HBY := hid hb
  have HW := hW1.symm
  clear h1 b1 hW1 hn hb
  by_cases hbig : 16384 < nb
  · have hbi : (16384 : Int) < nb := by omega
    go_enter Try.func4, Try.ntmps4
    go_wp2_with (go_at_call 7; refine (known_any _).mono ?_; rintro e w2 ⟨rfl, hb2⟩; have h2 := (hb2.block g (Array.getElem?_eq_some_iff.1 H1.out).1).trans H1.out; have c28 := cell_of h2 (i := 8) (v := .slice a nb c) rfl; have HB2 := hid (HB1.out.trans (hb2.mono HB1.out.size)); clear hb2 h2)
    go_ret
    have h2 := HB2.out
    first | exact ⟨rfl, h2⟩ | (rw [HG.out] at h2; exact ⟨rfl, h2⟩)
  · have hbi : ¬ ((16384 : Int) < nb) := by omega
    have HLE := hid (show nb ≤ 16384 by omega)
    go_enter Try.func4, Try.ntmps4
    go_wp2_with (first
      | (go_at_call 7; refine (known_any _).mono ?_; rintro e w2 ⟨rfl, hb2⟩; have h2 := (hb2.block g (Array.getElem?_eq_some_iff.1 H1.out).1).trans H1.out; have c28 := cell_of h2 (i := 8) (v := .slice a nb c) rfl; have H2 := hid h2; have HB2 := hid (HB1.out.trans (hb2.mono HB1.out.size)); clear hb2 h2)
      | (refine wpList_load_row rfl 25 _ rfl g rfl 25 _ (0, 0) _ H2.out Try.underlying25 rfl sizePk ?_)
      | (go_at_call 10; refine (ltwin_any _ s d pr i o m q t a nb c l HN.out (by omega) (HBY.out.later HB2.out)).mono ?_; rintro e w3 ⟨a3, c3, rfl, hy3, hc3, hb3⟩; have h3 := (hb3.block g (Array.getElem?_eq_some_iff.1 H2.out).1).trans H2.out; have H3 := hid h3; have HB3 := hid (HB2.out.trans (hb3.mono HB2.out.size)); have HY3 := hid hy3; have HC3 := hid hc3; clear hb3 h3 hy3 hc3)
      | (go_at_call 15; refine (Cut_any _ s d pr i o m q t a3 nb c3 l mtu hmt HN.out HLE.out HC3.out HY3.out.bytes).mono ?_; rintro e w4 ⟨v4, rfl, L4, hp4, hl4, hb4⟩; have h4 := (hb4.block g (Array.getElem?_eq_some_iff.1 H3.out).1).trans H3.out; have H4 := hid h4; have HB4 := hid (HB3.out.trans (hb4.mono HB3.out.size)); have HP4 := hid hp4; have HL4 := hid hl4; obtain ⟨x4, y4, e4⟩ := hp4.slice; subst e4; clear hb4 h4 hp4 hl4)
      | (refine wpList_load_row rfl 25 _ rfl g rfl 25 _ (0, 0) _ H4.out Try.underlying25 rfl sizePk ?_)
      | (go_at_call 13; refine (theirs_any _ s d pr i o m q t a nb c).mono ?_; rintro e w5 ⟨rfl, hb5⟩; have HB5 := hid (HB4.out.trans (hb5.mono HB4.out.size)); have HP5 := hid (HP4.out.later hb5); clear hb5)
      | (go_at_call 16; refine (rCut_any _ s d pr i o m q t a nb c l mtu hmt HN.out HLE.out hc (HBY.out.later HB5.out)).mono ?_; rintro e w6 ⟨v6, rfl, L6, hp6, hl6, hb6⟩; have HB6 := hid (HB5.out.trans (hb6.mono HB5.out.size)); have HP6 := hid (HP5.out.later hb6); have HQ6 := hid hp6; have HL6 := hid hl6; have hlen : L6.length = L4.length := (by rw [← List.length_map (f := Px.p), hl6, ← HL4.out, List.length_map]); obtain ⟨x6, y6, e6⟩ := hp6.slice; subst e6; rw [hlen]; have HLEN := hid hlen; clear hb6 hp6 hl6 hlen; generalize hn4 : L4.length = n; have HN4 := hid hn4; clear hn4))
    have hnl : n ≤ 9223372036854775807 := by rw [← HN4.out]; exact HP6.out.lenle
    go_loopw [9] (fun x wr => ∃ k : Nat, k ≤ n ∧ x = .int .i64 k ∧ Below w6.heap.size w6 wr) (fun x _ => n - (RowKit.intOf x).toNat)
    case atStart => exact ⟨0, Nat.zero_le _, rfl, Below.refl _ _⟩
    case round =>
      obtain ⟨k, hk, rfl, hbr⟩ := hrel
      by_cases hlt : k < n
      · have hki : (k : Int) < n := by omega
        obtain ⟨b1, o1, k1, e1, hr1, hy1⟩ := HP6.out.rng (i := k) (by rw [HN4.out]; exact hlt)
        obtain ⟨b2, o2, k2, e2, hr2, hy2⟩ := HQ6.out.rng (i := k) (by rw [HLEN.out, HN4.out]; exact hlt)
        rw [HN4.out] at e1
        rw [HLEN.out, HN4.out] at e2
        simp only [Value.slice.injEq, true_and] at e1 e2
        obtain ⟨rfl, rfl⟩ := e1
        obtain ⟨rfl, rfl⟩ := e2
        have hpp : (L6.getD k default).p = (L4.getD k default).p := by
          rw [get_map HL6.out k (by rw [HLEN.out, HN4.out]; exact hlt) default, get_map HL4.out k (by rw [HN4.out]; exact hlt) default]
        obtain ⟨⟨p, ax, cx⟩, hx⟩ : ∃ x, L4.getD k default = x := ⟨_, rfl⟩
        obtain ⟨⟨p', ay, cy⟩, hy⟩ : ∃ x, L6.getD k default = x := ⟨_, rfl⟩
        rw [hx] at hr1 hy1 hpp
        rw [hy] at hr2 hy2 hpp
        obtain rfl : p = p' := hpp.symm
        have HRG := hid (And.intro (rangeAt_later hbr hr1) (rangeAt_later hbr hr2))
        have HBX := hid (hy1.bytes.later hbr)
        have HBY2 := hid (hy2.bytes.later hbr)
        have HBR := hid hbr
        clear hr1 hr2 hy1 hy2 hx hy hbr
        go_upto_region 12 with fail
        try simp only [Act.put]
        refine wp_region_held_drew (S := fun W => W.rangeAt b1 (o1 + k * 9) (pxV ⟨p, ax, cx⟩) ∧ W.rangeAt b2 (o2 + k * 9) (pxV ⟨p, ay, cy⟩)) (by kernel_rfl) HRG.out (fun hS => ?_)
        refine nany_take 0 46 (.slice (some ⟨b1, o1, none⟩) n y4) rfl rfl (by kernel_rfl) (by kernel_rfl) (by kernel_rfl) (fun _ _ _ h => h) (Or.inl ⟨by rfl, ?_⟩) hS ?_
        · rintro w' hS'
          go_simp
        simp only [List.setIfInBounds_toArray, List.set_cons_zero, List.set_cons_succ]
        refine nany_take 1 47 (.int .i64 k) rfl rfl (by kernel_rfl) (by kernel_rfl) (by kernel_rfl) (fun _ _ _ h => h) (Or.inl ⟨by rfl, ?_⟩) hS ?_
        · rintro w' hS'
          go_simp
        simp only [List.setIfInBounds_toArray, List.set_cons_zero, List.set_cons_succ]
        refine nany_take 2 48 (.pointer (some ⟨b1, o1 + k * 9, none⟩)) rfl rfl (by kernel_rfl) (by kernel_rfl) (by kernel_rfl) (fun _ _ _ h => h) (Or.inl ⟨by rfl, ?_⟩) hS ?_
        · rintro w' hS'
          go_simp
        simp only [List.setIfInBounds_toArray, List.set_cons_zero, List.set_cons_succ]
        refine nany_take 3 49 (.agg (pkC p.src p.dst p.proto p.id p.off p.more p.whole p.ttl (.slice ax p.body.length cx))) rfl rfl (by kernel_rfl) (by kernel_rfl) (by kernel_rfl) (fun _ _ _ h => h) (Or.inl ⟨by rfl, ?_⟩) hS ?_
        · rintro w' hS'
          exact ex_mid 25 _ rfl b1 (o1 + k * 9) rfl (pxV ⟨p, ax, cx⟩) hS'.1 _ Try.underlying25 rfl sizePk
        simp only [List.setIfInBounds_toArray, List.set_cons_zero, List.set_cons_succ]
        refine nany_take 4 50 (.slice (some ⟨b2, o2, none⟩) n y6) rfl rfl (by kernel_rfl) (by kernel_rfl) (by kernel_rfl) (fun _ _ _ h => h) (Or.inl ⟨by rfl, ?_⟩) hS ?_
        · rintro w' hS'
          go_simp
        simp only [List.setIfInBounds_toArray, List.set_cons_zero, List.set_cons_succ]
        refine nany_take 5 51 (.int .i64 k) rfl rfl (by kernel_rfl) (by kernel_rfl) (by kernel_rfl) (fun _ _ _ h => h) (Or.inl ⟨by rfl, ?_⟩) hS ?_
        · rintro w' hS'
          go_simp
        simp only [List.setIfInBounds_toArray, List.set_cons_zero, List.set_cons_succ]
        refine nany_take 6 52 (.pointer (some ⟨b2, o2 + k * 9, none⟩)) rfl rfl (by kernel_rfl) (by kernel_rfl) (by kernel_rfl) (fun _ _ _ h => h) (Or.inl ⟨by rfl, ?_⟩) hS ?_
        · rintro w' hS'
          go_simp
        simp only [List.setIfInBounds_toArray, List.set_cons_zero, List.set_cons_succ]
        refine nany_take 7 53 (.agg (pkC p.src p.dst p.proto p.id p.off p.more p.whole p.ttl (.slice ay p.body.length cy))) rfl rfl (by kernel_rfl) (by kernel_rfl) (by kernel_rfl) (fun _ _ _ h => h) (Or.inl ⟨by rfl, ?_⟩) hS ?_
        · rintro w' hS'
          exact ex_mid 30 _ rfl b2 (o2 + k * 9) rfl (pxV ⟨p, ay, cy⟩) hS'.2 _ Try.underlying30 rfl sizeDk
        simp only [List.setIfInBounds_toArray, List.set_cons_zero, List.set_cons_succ]
        refine nany_one 8 (by kernel_rfl) ?_
        refine nop_callE 54 (f := 14) (args := #[.agg (pkC p.src p.dst p.proto p.id p.off p.more p.whole p.ttl (.slice ax p.body.length cx)), .agg (pkC p.src p.dst p.proto p.id p.off p.more p.whole p.ttl (.slice ay p.body.length cy))]) (R := fun v w' => v = .bool true ∧ Below wr.heap.size wr w') rfl (by rfl) rfl (by go_simp) ((same_eq wr.drew p.src p.dst p.proto p.id p.off p.more p.whole p.ttl ax ay p.body.length cx cy p.body rfl HBX.out.drew HBY2.out.drew).mono (fun e w' h => ⟨_, h.1, rfl, below_undrew h.2⟩)) ?_
        rintro v w7 ⟨rfl, hb7⟩
        have hS7 := And.intro (rangeAt_later hb7 HRG.out.1) (rangeAt_later hb7 HRG.out.2)
        refine ⟨hS7, ?_⟩
        simp only [List.setIfInBounds_toArray, List.set_cons_zero, List.set_cons_succ]
        refine nany_take 9 55 (.bool false) rfl rfl (by kernel_rfl) (by kernel_rfl) (by kernel_rfl) (fun _ _ _ h => h) (Or.inl ⟨by rfl, ?_⟩) hS7 ?_
        · rintro w' hS'
          go_simp
        simp only [List.setIfInBounds_toArray, List.set_cons_zero, List.set_cons_succ]
        refine wpAnyH_done (by kernel_rfl) ?_ _
        have HB7 := hid hb7
        clear hb7 hS7 hS
        go_wp2
        go_roundw
        case rel => exact ⟨k + 1, hlt, by go_num, HBR.out.trans (HB7.out.mono HBR.out.size)⟩
        case measure => simp [RowKit.intOf]; omega
      · obtain rfl : k = n := by omega
        have HBR := hid hbr
        clear hbr
        go_wp2
        go_ret
        have h2 := HB6.out.trans (HBR.out.mono HB6.out.size)
        first | exact ⟨rfl, h2⟩ | (rw [HG.out] at h2; exact ⟨rfl, h2⟩)
end Go.Proofs.Ytgdajplloamjcaa
