/- Package ip's parts: a packet in parts of n bytes. -/
import Derived.Test.YtgdajplloamjcaaPaD
namespace Go.Proofs.Ytgdajplloamjcaa
open Go.RowKit Go.Maps
set_option linter.unusedVariables false
/-- The part that begins at k times n. -/
def partAt (p : Pk) (n k : Nat) : Pk := { p with off := ((k * n : Nat) : Int), more := decide ((k + 1) * n < p.body.length), whole := false, body := (p.body.drop (k * n)).take n }
def partsL (p : Pk) (n K : Nat) : List Pk := (List.range K).map (partAt p n)
theorem partsL_snoc (p : Pk) (n K : Nat) : partsL p n (K + 1) = partsL p n K ++ [partAt p n K] := by simp [partsL, List.range_succ]
theorem partsL_len (p : Pk) (n K : Nat) : (partsL p n K).length = K := by simp [partsL]
def numP (len n : Nat) : Nat := (len + n - 1) / n
theorem numP_eq (len n k : Nat) (hn : 0 < n) (h1 : len ≤ k * n) (h2 : k = 0 ∨ (k - 1) * n < len) : numP len n = k := by
  unfold numP
  rcases h2 with rfl | h2
  · have : len = 0 := by simpa using h1
    subst this
    rw [Nat.zero_add]
    exact Nat.div_eq_of_lt (by omega)
  · by_cases hk : k = 0
    · subst hk; have : len = 0 := by simpa using h1
      omega
    · have e : k * n = (k - 1) * n + n := by
        have : k = (k - 1) + 1 := by omega
        rw [this, Nat.add_mul, Nat.one_mul]; simp
      refine Nat.div_eq_of_lt_le ?_ ?_
      · omega
      · rw [Nat.add_mul, Nat.one_mul]; omega
theorem step_mul (k n : Nat) : (k + 1) * n = k * n + n := by rw [Nat.add_mul, Nat.one_mul]
theorem le_mul_self (k n : Nat) (hn : 0 < n) : k ≤ k * n := Nat.le_mul_of_pos_right k hn
theorem drawn (w : World) (g : Nat) (o : Obj) (h : w.heap[g]? = some o) : w.drew.heap[g]? = some o := h
set_option maxRecDepth 100000 in
set_option maxHeartbeats 2000000 in
theorem parts_any (w : World) (s d pr i o : Int) (m q : Bool) (t : Int) (a : Option Addr) (n c : Nat) (l : List Int) (hn : l.length = n) (hl : n ≤ 70000) (hc : n ≤ c) (hb : Bytes w a l) (z : Nat) (hz : 0 < z) (hz2 : z ≤ 9223372036854000000) :
    Calls Try.prog 32 #[.agg (pkC s d pr i o m q t (.slice a n c)), .int .i64 z] w fun e w' => ∃ v L, e = .returned v ∧ PL w' 25 w.heap.size v L ∧ L.map Px.p = partsL ⟨s, d, pr, i, o, m, q, t, l⟩ z (numP n z) ∧ Below w.heap.size w w' := by
  obtain ⟨W1, hW1, h1, b1⟩ := boxP w (pkC s d pr i o m q t (.slice a n c)) 25
  obtain ⟨g, hg⟩ : ∃ g, w.heap.size = g := ⟨_, rfl⟩
  rw [hg] at h1
  obtain ⟨P, hP⟩ : ∃ P : Pk, P = ⟨s, d, pr, i, o, m, q, t, l⟩ := ⟨_, rfl⟩
  rw [← hP]
  have HP := hid hP
  have HN := hid hn
  have HBY := hid hb
  have HG := hid hg
  have H1 := hid h1
  have HB1 := hid b1
  clear hP hn hb h1 b1
  have HW := hW1.symm
  clear hW1
  go_enter Try.func32, Try.ntmps32
  go_wp2
  go_loopw [5, 6] (fun v x wr => ∃ (k : Nat) (L : List Px), x = .int .i64 ((k * z : Nat) : Int) ∧ (k = 0 ∨ (k - 1) * z < n) ∧ L.map Px.p = partsL P z k ∧ PL wr 25 (g + 1) v L ∧ wr.heap[g]? = some (.cells (pkC s d pr i o m q t (.slice a n c)) 25 (0, 0)) ∧ Below w.heap.size w wr) (fun _ x _ => n - (RowKit.intOf x).toNat)
  case atStart => exact ⟨0, [], by simp, .inl rfl, rfl, PL.nil _ _ _, H1.out, HB1.out⟩
  case round =>
    obtain ⟨k, L, rfl, hk, hL, hpl, hbx, hbl⟩ := hrel
    have hlen : L.length = k := by rw [← List.length_map (f := Px.p), hL, partsL_len]
    have hkn : k * z ≤ n + z := by
      rcases hk with rfl | hk
      · simp
      · by_cases h0 : k = 0
        · subst h0; simp
        · have := step_mul (k - 1) z; rw [show k - 1 + 1 = k by omega] at this; omega
    obtain ⟨av, cv, rfl⟩ := hpl.slice
    rw [hlen]
    have c8 := cell_of hbx (i := 8) (v := .slice a n c) rfl
    have hge := hbl.size
    by_cases hlt : k * z < n
    · have hkk : k ≤ n := Nat.le_trans (le_mul_self k z hz) (Nat.le_of_lt hlt)
      obtain ⟨at_, hat⟩ : ∃ x : Int, x = ((k * z : Nat) : Int) := ⟨_, rfl⟩
      obtain ⟨ee, hee⟩ : ∃ e : Nat, e = min (k * z + z) n := ⟨_, rfl⟩
      obtain ⟨en, hen⟩ : ∃ x : Int, x = (ee : Int) := ⟨_, rfl⟩
      obtain ⟨mo, hmo⟩ : ∃ b : Bool, b = decide ((k + 1) * z < n) := ⟨_, rfl⟩
      have hatn : at_ < (n : Int) := by omega
      have hwa : IntKind.i64.wrap (at_ + z) = at_ + z := IntWalk.i64_in _ (by omega)
      have hmin : min (at_ + z) (n : Int) = en := by omega
      have hbody : (l.drop (k * z)).take (ee - k * z) = (l.drop (k * z)).take z := by
        have := HN.out
        by_cases hm : k * z + z ≤ n
        · rw [show ee - k * z = z by omega]
        · rw [List.take_of_length_le (by simp; omega), List.take_of_length_le (by simp; omega)]
      have hbl2 : ((l.drop (k * z)).take z).length = ee - k * z := by rw [← hbody]; have := HN.out; simp; omega
      have hlss : (decide (en < (n : Int))) = mo := by rw [hmo, step_mul]; congr 1; apply propext; omega
      obtain ⟨a2, hcut, hcb⟩ := cut_lh a n c (k * z) ee (by omega) (by omega) hc
      have hcut' : ∀ W : World, (Instr.slice 22 (.slice a n c) (some (.int .i64 at_)) (some (.int .i64 en)) none).run Try.prog W = .ok (.slice a2 (ee - k * z) (c - k * z)) W := fun W => by rw [hat, hen]; exact hcut W
      obtain ⟨W2, hW2, h2, b2⟩ := boxP wr (pkC 0 0 0 0 0 false false 0 (.slice none 0 0)) 25
      obtain ⟨gp, hgp⟩ : ∃ g, wr.heap.size = g := ⟨_, rfl⟩
      rw [hgp] at h2
      have hltg := (Array.getElem?_eq_some_iff.1 hbx).1
      have hgne : g ≠ gp := by omega
      have h2g := (b2.block g hltg).trans hbx
      obtain ⟨W3, hW3⟩ : ∃ W, W = W2.setRow gp (pkC s d pr i o m q t (.slice a n c)) := ⟨_, rfl⟩
      have h3 : W3.heap[gp]? = some (.cells (pkC s d pr i o m q t (.slice a n c)) 25 (0, 0)) := by rw [hW3]; exact setRow_heap _ _ _ _ _ _ h2
      have h3g : W3.heap[g]? = some (.cells (pkC s d pr i o m q t (.slice a n c)) 25 (0, 0)) := by rw [hW3, setRow_other _ _ _ _ hgne]; exact h2g
      have b3 : Below wr.heap.size wr W3 := by rw [hW3]; exact (setRow_mods _ _ _).to_below b2 b2.size (fun x hx => by omega)
      obtain ⟨D4, hD4, k4, b4, o4, s4⟩ := setP (drawn W3 gp _ h3) 4 (.int .i64 at_) wr.heap.size wr b3.drew (by omega)
      obtain ⟨D5, hD5, k5, b5, o5, s5⟩ := setP k4 5 (.bool mo) wr.heap.size wr b4 (by omega)
      obtain ⟨D6, hD6, k6, b6, o6, s6⟩ := setP k5 6 (.bool false) wr.heap.size wr b5 (by omega)
      have K4 : D4.heap[g]? = some (.cells (pkC s d pr i o m q t (.slice a n c)) 25 (0, 0)) := (o4 g hgne).trans h3g
      have K5 : D5.heap[g]? = some (.cells (pkC s d pr i o m q t (.slice a n c)) 25 (0, 0)) := (o5 g hgne).trans K4
      have K6 : D6.heap[g]? = some (.cells (pkC s d pr i o m q t (.slice a n c)) 25 (0, 0)) := (o6 g hgne).trans K5
      have c68 := cell_of K6 (i := 8) (v := .slice a n c) rfl
      have HCL := hid (Clone_all D6 a2 (ee - k * z) (c - k * z) ((l.drop (k * z)).take (ee - k * z)) (by have := HN.out; simp; omega) (by omega) (hcb D6 l HN.out ((HBY.out.later hbl).later b6)))
      have HBX := hid hbx
      have HBL0 := hid hbl
      have H3g := hid h3g
      have HPL := hid hpl
      have HBL := hid (hbl.trans (b6.mono hbl.size))
      have H2 := hid h2
      have H6 := hid k6
      have HB6 := hid b6
      have HLT := hid hltg
      have HGP := hid hgp
      have HNE := hid hgne
      have HL := hid hL
      have HLEN := hid hlen
      have HEE := hid hee
      have HAT := hid hat
      have HEN := hid hen
      have HMO := hid hmo
      have HBODY := hid hbody
      have HBL2 := hid hbl2
      have HD := hid hlt
      have HKK := hid hkk
      have HK6 := hid K6
      have KK3 := hid (drawn W3 gp _ h3)
      have KK4 := hid k4
      have KK5 := hid k5
      have hW2' := hW2.symm
      have hW3' := hW3.symm
      rw [← hat]
      clear h2 h3 h3g b2 b3 k4 k5 k6 b4 b5 b6 o4 o5 o6 s4 s5 s6 hpl hbl hbx hL hee hen hmo hgne hltg h2g hW2 hW3 hcb hcut hk hkn hge hlt hkk hat K6 hbody hbl2 hlen
      go_upto_region 7 with (first
        | (refine wpList_load_row rfl 25 _ rfl g rfl 25 _ (0, 0) _ HBX.out Try.underlying25 rfl sizePk ?_)
        | (refine wpList_store_row rfl 25 _ _ rfl gp (pkC s d pr i o m q t (.slice a n c)) rfl rfl 25 _ H2.out sizePk rfl (pkC_one _ _ _ _ _ _ _ _ _ rfl) ?_; rw [hW3']))
      simp only [Act.put]
      refine wp_region_held_drew (S := fun W => W.heap[g]? = some (.cells (pkC s d pr i o m q t (.slice a n c)) 25 (0, 0))) (by kernel_rfl) H3g.out (fun hS => ?_)
      refine nany_take 0 25 (.int .i64 at_) rfl rfl (by kernel_rfl) (by kernel_rfl) (by kernel_rfl) (fun _ _ _ h => h) (Or.inl ⟨by rfl, ?_⟩) hS ?_
      · rintro w' hS'
        go_simp
      simp only [List.setIfInBounds_toArray, List.set_cons_zero, List.set_cons_succ]
      refine nany_take 1 26 (.int .i64 en) rfl rfl (by kernel_rfl) (by kernel_rfl) (by kernel_rfl) (fun _ _ _ h => h) (Or.inl ⟨by rfl, ?_⟩) hS ?_
      · rintro w' hS'
        go_simp
      simp only [List.setIfInBounds_toArray, List.set_cons_zero, List.set_cons_succ]
      refine nany_take 2 27 (.pointer (some ⟨g, 8, none⟩)) rfl rfl (by kernel_rfl) (by kernel_rfl) (by kernel_rfl) (fun _ _ _ h => h) (Or.inl ⟨by rfl, ?_⟩) hS ?_
      · rintro w' hS'
        go_simp
      simp only [List.setIfInBounds_toArray, List.set_cons_zero, List.set_cons_succ]
      refine nany_take 3 28 (.slice a n c) rfl rfl (by kernel_rfl) (by kernel_rfl) (by kernel_rfl) (fun _ _ _ h => h) (Or.inl ⟨by rfl, ?_⟩) hS ?_
      · rintro w' hS'
        have hc8 := cell_of hS' (i := 8) (v := .slice a n c) rfl; go_simp
      simp only [List.setIfInBounds_toArray, List.set_cons_zero, List.set_cons_succ]
      refine nany_take 4 29 (.int .i64 n) rfl rfl (by kernel_rfl) (by kernel_rfl) (by kernel_rfl) (fun _ _ _ h => h) (Or.inl ⟨by rfl, ?_⟩) hS ?_
      · rintro w' hS'
        go_simp
      simp only [List.setIfInBounds_toArray, List.set_cons_zero, List.set_cons_succ]
      refine nany_take 5 30 (.bool mo) rfl rfl (by kernel_rfl) (by kernel_rfl) (by kernel_rfl) (fun _ _ _ h => h) (Or.inl ⟨by rfl, ?_⟩) hS ?_
      · rintro w' hS'
        go_simp
      simp only [List.setIfInBounds_toArray, List.set_cons_zero, List.set_cons_succ]
      refine nany_take 6 31 (.pointer (some ⟨gp, 4, none⟩)) rfl rfl (by kernel_rfl) (by kernel_rfl) (by kernel_rfl) (fun _ _ _ h => h) (Or.inl ⟨by rfl, ?_⟩) hS ?_
      · rintro w' hS'
        go_simp
      simp only [List.setIfInBounds_toArray, List.set_cons_zero, List.set_cons_succ]
      refine nany_one 7 (by kernel_rfl) ?_
      refine nop_skip (w' := D4) rfl (by rfl) rfl (by rw [hD4]; exact ex_store3 _ _ rfl gp 4 at_ rfl rfl KK3.out (by simp)) ?_
      refine ⟨K4, ?_⟩
      refine nany_take 8 32 (.pointer (some ⟨gp, 5, none⟩)) rfl rfl (by kernel_rfl) (by kernel_rfl) (by kernel_rfl) (fun _ _ _ h => h) (Or.inl ⟨by rfl, ?_⟩) K4 ?_
      · rintro w' hS'
        go_simp
      simp only [List.setIfInBounds_toArray, List.set_cons_zero, List.set_cons_succ]
      refine nany_one 9 (by kernel_rfl) ?_
      refine nop_skip (w' := D5) rfl (by rfl) rfl (by rw [hD5]; exact ex_store4 _ _ rfl gp 5 mo rfl rfl KK4.out (by simp)) ?_
      refine ⟨K5, ?_⟩
      refine nany_take 10 33 (.pointer (some ⟨gp, 6, none⟩)) rfl rfl (by kernel_rfl) (by kernel_rfl) (by kernel_rfl) (fun _ _ _ h => h) (Or.inl ⟨by rfl, ?_⟩) K5 ?_
      · rintro w' hS'
        go_simp
      simp only [List.setIfInBounds_toArray, List.set_cons_zero, List.set_cons_succ]
      refine nany_one 11 (by kernel_rfl) ?_
      refine nop_skip (w' := D6) rfl (by rfl) rfl (by rw [hD6]; exact ex_store4 _ _ rfl gp 6 false rfl rfl KK5.out (by simp)) ?_
      refine ⟨HK6.out, ?_⟩
      refine wpAnyH_done (by kernel_rfl) ?_ _
      clear K4 K5 hD4 hD5 hD6 hS KK3 KK4 KK5
      go_wp2_with (first
        | (go_at_call 23; refine HCL.out.mono ?_; rintro e w7 ⟨a7, c7, rfl, hy7, hc7, hb7⟩; have h76 := (hb7.block gp (Array.getElem?_eq_some_iff.1 H6.out).1).trans H6.out; have b7 := HB6.out.trans (hb7.mono HB6.out.size); obtain ⟨W8, hW8, h8, b8, k8, s8⟩ := setP h76 8 (.slice a7 (ee - k * z) c7) wr.heap.size wr b7 (by rw [HGP.out]; exact Nat.le_refl _); have c78 := cell_of h76 (i := 8) (v := .slice a n c) rfl; have f78 := froz_of h76 8; have HY8 := hid (hy7.keep (w' := W8) (fun b hb hl => k8 b (fun e => by have := (Array.getElem?_eq_some_iff.1 H6.out).1; rw [e] at hb; exact absurd this (Nat.not_lt.2 hb)))); have HK8 := hid k8; have H8 := hid h8; have HB8 := hid b8; have HC7 := hid hc7; have HHH := hid hb7; clear h76 b7 h8 b8 k8 s8 hy7 hc7 hb7; have HW8 := hW8.symm; clear hW8; obtain ⟨W9, hW9⟩ : ∃ W, W = W8.alloc (.cells #[.int .u32 s, .int .u32 d, .int .i64 pr, .int .i64 i, .int .i64 at_, .bool mo, .bool false, .int .i64 t, .slice a7 (ee - k * z) c7] 25) := ⟨_, rfl⟩; have h9 : W9.heap[W8.heap.size]? = some (.cells (pkC s d pr i at_ mo false t (.slice a7 (ee - k * z) c7)) 25 (0, 0)) := (by rw [hW9]; exact alloc_new W8 _); have b9 : Below W8.heap.size W8 W9 := (by rw [hW9]; exact below_alloc (Below.refl _ _) (Nat.le_refl _) _); have hpx : pxV ⟨partAt P z k, a7, c7⟩ = (pkC s d pr i at_ mo false t (.slice a7 (ee - k * z) c7)).toList := (by rw [HP.out, HAT.out, HMO.out, ← HBL2.out]; simp only [pxV, partAt, HN.out]); obtain ⟨a10, c10, w10, hap, hpl10, hm10⟩ := PL.push W9 41 41 25 (g + 1) Try.underlying41 infoIP (by decide) (.slice av L.length cv) L ((HPL.out.later HB8.out).later b9) ⟨partAt P z k, a7, c7⟩ (by have := HB8.out.size; have := b9.size; have := HLT.out; omega) (by have e : (partAt P z k).body = (l.drop (k * z)).take z := (by rw [HP.out]; rfl); show By W9 _ a7 (partAt P z k).body; rw [e, ← HBODY.out]; exact (HY8.out.weak (fun b hb _ => by have := HB6.out.size; have := HLT.out; show g + 1 ≤ b; exact Nat.le_trans (by omega) hb)).later b9) (by show (partAt P z k).body.length ≤ c7; have e : (partAt P z k).body = (l.drop (k * z)).take z := (by rw [HP.out]; rfl); rw [e, HBL2.out]; exact HC7.out) (by have := HLEN.out; have := HKK.out; omega) ⟨W8.heap.size, 0, none⟩ 1 (fun j u hj => by rw [hpx] at hj; rw [add_addr, Nat.zero_add]; exact cell_of h9 (by rw [← Array.getElem?_toList]; exact hj)); rw [HLEN.out] at hap; have HPL10 := hid hpl10; have HM10 := hid hm10; have HB9 := hid b9; clear h9 b9 hpx hpl10 hm10; have HW9 := hW9.symm; clear hW9)
        | (refine wpList_load_row rfl 25 _ rfl gp rfl 25 _ (0, 0) _ H8.out Try.underlying25 rfl sizePk ?_)
        | (at_builtin; refine wpList_append_run rfl _ _ 41 rfl rfl rfl hap ?_))
      go_roundw
      case rel =>
        have hge2 := HBL.out.size
        have hlt2 := HLT.out
        have hs8 := HB8.out.size
        refine ⟨k + 1, L ++ [⟨partAt P z k, a7, c7⟩], ?_, .inr (by simpa using HD.out), ?_, ?_, ?_, ?_⟩
        · rw [HAT.out, step_mul]; go_num
        · rw [List.map_append, HL.out, partsL_snoc]; rfl
        · have := HPL10.out; rw [HLEN.out] at this; exact this
        · have hnb : ¬ (blkV (.slice av L.length cv) = some g) := fun e => by have := HPL.out.2.1 g e; omega
          have h6g := HK6.out
          have h7g := (HHH.out.block g (Array.getElem?_eq_some_iff.1 h6g).1).trans h6g
          have h8g := (HK8.out g HNE.out).trans h7g
          have h9g := (HB9.out.block g (Array.getElem?_eq_some_iff.1 h8g).1).trans h8g
          exact (HM10.out.block g (Array.getElem?_eq_some_iff.1 h9g).1 hnb).trans h9g
        · have b8 := HBL0.out.trans (HB8.out.mono HBL0.out.size)
          have b9 := b8.trans (HB9.out.mono b8.size)
          exact HM10.out.to_below b9 b9.size (fun b hb => by have := HPL.out.2.1 b hb; have := HG.out; omega)
      case measure =>
        have := HAT.out
        have := HD.out
        simp [RowKit.intOf]; omega
    · have hnum := numP_eq n z k hz (by omega) hk
      have hge3 : ¬ (((k * z : Nat) : Int) < (n : Int)) := by omega
      have HNUM := hid hnum
      have HPL := hid hpl
      have HL := hid hL
      have HBL := hid hbl
      have HLEN := hid hlen
      clear hnum hpl hL hbl hbx hlen hk hkn hge hlt
      go_wp2
      go_ret
      have h1 := HPL.out
      rw [HLEN.out] at h1
      have h2 := HBL.out
      rw [HG.out] at h2
      exact ⟨_, rfl, L, h1.mono (Nat.le_succ g), by rw [HL.out, HNUM.out], h2⟩
end Go.Proofs.Ytgdajplloamjcaa
