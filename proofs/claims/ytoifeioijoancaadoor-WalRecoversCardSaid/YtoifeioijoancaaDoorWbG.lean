/- Recover. -/
import Derived.Test.YtoifeioijoancaaDoorWbF
import Derived.Deep.RegionHeld3
namespace Go.Proofs.YtoifeioijoancaaDoor
open Go.RowKit Go.Maps
set_option linter.unusedVariables false

def recN (l : List Int) : Nat := (rdN (l.take 512) 16 4).toNat
def recSeq (l : List Int) : Int := rdN (l.take 512) 8 8
def recAt (l : List Int) (i : Nat) : Pt := ⟨rdN (l.take 512) (20 + 4 * i) 4, (l.drop (512 * (i + 1))).take 512⟩
def recOut (l : List Int) (n : Nat) : List Pt := (List.range n).map (recAt l)
theorem recOut_snoc (l : List Int) (k : Nat) : recOut l (k + 1) = recOut l k ++ [recAt l k] := by simp [recOut, List.range_succ]
theorem recOut_len (l : List Int) (k : Nat) : (recOut l k).length = k := by simp [recOut]
/-- Does a whole group stand in a log? -/
structure RecOk (l : List Int) : Prop where
  head : HeadOk (l.take 512)
  foot : ((l.drop (512 * (recN l + 1))).take 512).take 20 = endB (recSeq l) (crcL (l.take (512 * (recN l + 1))))
theorem flat1 (l : List Int) : [l].flatten = l := by simp
set_option maxRecDepth 100000 in
set_option maxHeartbeats 1000000 in
theorem Recover_size (w : World) (a : Option Addr) (n cap : Nat) (hn : n ≠ 33792) :
    Calls Tryd.prog 15 #[.slice a n cap] w fun e w' => e = .returned (.tuple #[.int .u64 0, .slice none 0 0, .int .i64 14]) ∧ w' = w := by
  have h1 : ((n : Int) != 33792) = true := by simp; omega
  go_enter Tryd.func15, Tryd.ntmps15
  go_wp2
  exact bodyPost_ret (results_tmp3 rfl _ _ _) rfl ⟨rfl, rfl⟩
set_option maxRecDepth 100000 in
set_option maxHeartbeats 4000000 in
theorem Recover_any (w : World) (S : Nat → Prop) (a : Option Addr) (cap : Nat) (l : List Int) (hl : l.length = 33792) (hc : 33792 ≤ cap) (h : By w S a l) (hT : Tab w) :
    Calls Tryd.prog 15 #[.slice a 33792 cap] w fun e w' => ((RecOk l ∧ ∃ v M, e = .returned (.tuple #[.int .u64 (recSeq l), v, .int .i64 0]) ∧ PO w' (New w) v M ∧ M.map Pw.pt = recOut l (recN l)) ∨ (¬ RecOk l ∧ e = .returned (.tuple #[.int .u64 0, .slice none 0 0, .int .i64 2]))) ∧ Below w.heap.size w w' := by
  have hI := h.isB
  have HH := hid h
  have HI := hid hI
  have HT := hid hT
  have HL := hid hl
  have HC1 := hid (blockOf_any w S a 33792 cap 0 0 l rfl hl hc (by omega) (by omega) h)
  have E1 : Hid ((l.drop (512 * 0)).take 512 = l.take 512) := hid (by simp)
  rw [E1.out] at HC1
  have HL512 : Hid ((l.take 512).length = 512) := hid (by rw [List.length_take, hl]; rfl)
  clear h hI hT hl
  go_enter Tryd.func15, Tryd.ntmps15
  go_wp2_with fail
  refine HC1.out.mono ?_
  rintro e w1 ⟨a1, c1, rfl, hy1, hc1, hw1⟩
  rw [hw1]
  clear hw1 HC1
  have HC2 := hid (readHead_any w a1 c1 (l.take 512) HL512.out hc1 hy1.bytes HT.out)
  clear hy1
  go_wp2_with fail
  refine HC2.out.mono ?_
  rintro e w2 ⟨hor, hb2⟩
  have HB2 := hid hb2
  clear HC2
  rcases hor with ⟨hok, v, rfl, hrow⟩ | ⟨hno, rfl⟩
  · have HOK := hid hok
    obtain ⟨n, hn⟩ : ∃ n, n = recN l := ⟨_, rfl⟩
    have hn1 : 1 ≤ n := by have := hok.few; unfold recN at hn; omega
    have hn64 : n ≤ 64 := by have := hok.many; unfold recN at hn; omega
    have hrow' : w2.ownsRow w.heap.size 3 1 v n (ints (placesL (l.take 512) n)) := by rw [hn]; exact hrow
    have HN := hid hn
    have HROW := hid hrow'
    obtain ⟨a6, c6, e6⟩ := owns_slice hrow'
    subst e6
    have hsq := rdN_bd (l.take 512) 8 8 (fun x hx => HI.out x (List.mem_of_mem_take hx)) (by omega)
    obtain ⟨sq, hsq0⟩ : ∃ sq, sq = rdN (l.take 512) 8 8 := ⟨_, rfl⟩
    rw [← hsq0] at hsq ⊢
    have HSQ : Hid (sq = recSeq l) := hid hsq0
    have hs0 := hsq.1
    have hs1 : sq < 18446744073709551616 := by have := hsq.2; omega
    clear hok hrow hrow' hn hsq hsq0
    have HC3 := fun W (hb : Below w.heap.size w W) => blockOf_any W S a 33792 cap (n + 1) ((n : Int) + 1) l (by omega) HL.out hc (by omega) (by omega) (HH.out.later hb)
    replace HC3 := hid HC3
    obtain ⟨N5, hN5⟩ : ∃ N5, N5 = 512 * (n + 1) := ⟨_, rfl⟩
    have HN5 := hid hN5
    have q1 : IntKind.i64.wrap (((n : Int) + 1) * 512) = ((n : Int) + 1) * 512 := IntWalk.i64_in _ (by omega)
    have q2 : (0 : Int) ≤ ((n : Int) + 1) * 512 := by omega
    have q3 : ((n : Int) + 1) * 512 ≤ (cap : Int) := by omega
    have q4 : (((n : Int) + 1) * 512).toNat = N5 := by omega
    have q5 : IntKind.i64.wrap ((n : Int) + 1) = (n : Int) + 1 := IntWalk.i64_in _ (by omega)
    clear hN5
    have hb3 : Below w.heap.size w (w2.alloc (.cells #[.slice a N5 cap] 27)).drew := (hb2.alloc hb2.size _).drew
    have hN5l : (l.take N5).length = N5 := by rw [List.length_take, HL.out, HN5.out]; omega
    have hcrc : Calls Tryd.prog 43 #[.slice (some ⟨w2.heap.size, 0, none⟩) 1 1] (w2.alloc (.cells #[.slice a N5 cap] 27)).drew fun e w' => e = .returned (.int .u32 (crcL (l.take N5))) ∧ w' = (w2.alloc (.cells #[.slice a N5 cap] 27)).drew := by
      have hr : RowsOf (w2.alloc (.cells #[.slice a N5 cap] 27)).drew (some ⟨w2.heap.size, 0, none⟩) [l.take N5] := rows_new w2 (l.take N5) a cap N5 hN5l.symm ((HH.out.bytes.later hb2).take N5)
      have := crc_any (some ⟨w2.heap.size, 0, none⟩) 1 [l.take N5] (w2.alloc (.cells #[.slice a N5 cap] 27)).drew (by simp) (by rw [flat1, hN5l, HN5.out]; omega) hr (HT.out.later hb3)
      rw [flat1] at this
      exact this
    have hcb := crcL_bd (l.take N5) (fun x hx => HI.out x (List.mem_of_mem_take hx))
    obtain ⟨C, hC⟩ : ∃ C, C = crcL (l.take N5) := ⟨_, rfl⟩
    rw [← hC] at hcb hcrc
    have HCC := hid hC
    have hcb0 := hcb.1
    have hcb1 := hcb.2
    have HCR := hid hcrc
    have HB3 := hid hb3
    have HB2d : Hid (Below w.heap.size w w2.drew) := hid hb2.drew
    have HLT : Hid (∀ a3, Bytes w2.drew a3 ((l.drop (512 * (n + 1))).take 512) → Bytes (w2.alloc (.cells #[.slice a N5 cap] 27)).drew a3 ((l.drop (512 * (n + 1))).take 512)) := hid (fun a3 h3 => Bytes.later (w := w2) h3 ((Below.refl _ w2).alloc (Nat.le_refl _) _).drew)
    have HL3 : Hid (((l.drop (512 * (n + 1))).take 512).length = 512) := hid (by rw [List.length_take, List.length_drop, HL.out]; omega)
    obtain ⟨t, ht⟩ : ∃ t, t = (l.drop (512 * (n + 1))).take 512 := ⟨_, rfl⟩
    rw [← ht] at HC3 HL3 HLT
    have HTT := hid ht
    have HIE := fun a3 c3 hc3 hy3 => isEnd_any (w2.alloc (.cells #[.slice a N5 cap] 27)).drew a3 c3 t sq C hs0 hs1 hcb0 hcb1 HL3.out hc3 hy3
    replace HIE := hid HIE
    obtain ⟨D, hD⟩ : ∃ D, D = decide (t.take 20 = endB sq C) := ⟨_, rfl⟩
    rw [← hD] at HIE
    have HD := hid hD
    clear hcb hC hcrc hb3 hb2 hN5l ht hD
    go_wp2_with fail
    go_region_held3 (fun _ => True) (trivial)
      ((first
        | (go_at_call 49; refine (HC3.out _ (by first | exact HB2d.out | exact HB3.out)).mono ?_; rintro e w3 ⟨a3, c3, rfl, hy3, hc3, hw3⟩; rw [hw3]; clear hw3; have HY3 : Hid (Bytes (w2.alloc (.cells #[.slice a N5 cap] 27)).drew a3 t) := hid (by first | exact HLT.out _ hy3.bytes | exact hy3.bytes); have HCP3 := hid hc3; clear hy3 hc3)
        | (go_at_call 43; refine HCR.out.mono ?_; rintro e w4 ⟨rfl, hw4⟩; rw [hw4]; clear hw4)
        | (go_at_call 50; refine (HIE.out _ _ HCP3.out HY3.out).mono ?_; rintro e w5 ⟨rfl, hb5⟩; have HB5 : Hid (Below w.heap.size w w5) := hid (HB3.out.trans (hb5.mono HB3.out.size)); have HB25 : Hid (Below w2.heap.size w2 w5) := hid ((((Below.refl _ w2).alloc (Nat.le_refl _) _).drew).trans (hb5.mono (by simp))); clear hb5)))
    all_goals
      have HROW5 : Hid (w5.ownsRow w.heap.size 3 1 (.slice a6 n c6) n (ints (placesL (l.take 512) n))) := hid (owns_keep HROW.out (fun g hg => HB25.out.block g (owns_lt HROW.out hg).1))
      cases hDb : D with
      | false =>
        have HDF : Hid (¬ t.take 20 = endB sq C) := hid (by have := HD.out; rw [hDb] at this; simpa using this.symm)
        clear HD
        subst hDb
        go_wp2
        refine bodyPost_ret (results_tmp3 rfl _ _ _) rfl ⟨.inr ⟨fun hk => HDF.out ?_, rfl⟩, HB5.out⟩
        have := hk.foot
        rw [← HN.out, ← HTT.out, ← HN5.out, ← HCC.out, ← HSQ.out] at this
        exact this
      | true =>
        have HDF : Hid (t.take 20 = endB sq C) := hid (by have := HD.out; rw [hDb] at this; simpa using this.symm)
        clear HD
        subst hDb
        have HFOOT : Hid (RecOk l) := hid ⟨HOK.out, by rw [← HN.out, ← HTT.out, ← HN5.out, ← HCC.out, ← HSQ.out]; exact HDF.out⟩
        clear HDF HTT HCC HOK HIE HCR HLT HC3
        simp only [Bool.not_true]
        go_wp2
        go_loopw [9, 41] (fun v z wr => ∃ (k : Nat) (M : List Pw), k ≤ n ∧ z = .int .i64 k ∧ PO wr (New w) v M ∧ M.map Pw.pt = recOut l k ∧ M.length = k ∧ Below w.heap.size w wr ∧ wr.ownsRow w.heap.size 3 1 (.slice a6 n c6) n (ints (placesL (l.take 512) n))) (fun _ z _ => n - (RowKit.intOf z).toNat)
        case atStart => exact ⟨0, [], Nat.zero_le _, rfl, PO.nil _ _, rfl, rfl, HB5.out, HROW5.out⟩
        case round =>
          obtain ⟨k, M, hk, rfl, hpo, hM, hMl, hb, hrow⟩ := hrel
          have HPO := hid hpo
          have HM := hid hM
          have HML := hid hMl
          have HB := hid hb
          have HRW := hid hrow
          obtain ⟨a9, c9, e9, _, _⟩ := hpo.ps
          rw [hMl] at e9
          subst e9
          clear hpo hM hMl HB5 HROW5 HB25 HB3 HB2d HB2 HROW
          by_cases hlt : k < n
          · have hki : (k : Int) < n := by omega
            have HPLN := hid (placesL_len (l.take 512) n)
            obtain ⟨g6, c6', e6, hc6, _, _⟩ := owns_int (l := placesL (l.take 512) n) (by rw [HPLN.out]; exact hrow) (j := k) (by rw [HPLN.out]; exact hlt)
            simp only [Value.slice.injEq] at e6
            obtain ⟨e6a, e6b, e6c⟩ := e6
            clear e6b e6c
            subst e6a
            have hgd : (placesL (l.take 512) n).getD k 0 = (recAt l k).blk := by simp [placesL, recAt, List.getD, hlt]
            rw [hgd] at hc6
            have hrd : (recAt l k).dat = (l.drop (512 * (k + 1))).take 512 := rfl
            have HRS := hid (recOut_snoc l k)
            have hC1 := blockOf_any wr S a 33792 cap (k + 1) ((k : Int) + 1) l (by omega) HL.out hc (by omega) (by omega) (HH.out.later hb)
            rw [← hrd] at hC1
            have HRL : Hid ((recAt l k).dat.length = 512) := hid (by rw [hrd, List.length_take, List.length_drop, HL.out]; omega)
            generalize recAt l k = P at *
            have HC1 := hid hC1
            clear hgd hrd hC1 hrow hb
            have q6 : IntKind.i64.wrap ((k : Int) + 1) = (k : Int) + 1 := IntWalk.i64_in _ (by omega)
            go_wp2_with fail
            refine HC1.out.mono ?_
            rintro e w6 ⟨a7, c7, rfl, hy7, hc7, hw6⟩
            rw [hw6]
            clear hw6
            have HC2 := hid (Clone_any wr S a7 512 c7 P.dat HRL.out (by omega) (by omega) hy7)
            clear hy7 HC1
            go_wp2_with fail
            refine HC2.out.mono ?_
            rintro e w8 ⟨a8, c8, rfl, hc8, hy8, hb8, _⟩
            obtain ⟨W9, hW9⟩ : ∃ W9, W9 = w8.alloc (.cells #[.int .i64 P.blk, .slice a8 512 c8] 29) := ⟨_, rfl⟩
            have hb9 : Below w8.heap.size w8 W9 := by rw [hW9]; exact (Below.refl _ _).alloc (Nat.le_refl _) _
            have hh9 : W9.heap[w8.heap.size]? = some (.cells #[.int .i64 P.blk, .slice a8 512 c8] 29 (0, 0)) := by rw [hW9]; exact alloc_new w8 _
            have hb09 : Below wr.heap.size wr W9 := hb8.trans (hb9.mono hb8.size)
            have hbw9 : Below w.heap.size w W9 := HB.out.trans (hb09.mono HB.out.size)
            have hy9 : By W9 (New w) a8 P.dat := (hy8.later hb9).weak (fun b hb _ => Nat.le_trans HB.out.size hb)
            obtain ⟨a10, n10, c10, w10, hap, hn10, hpo10, hm10, _⟩ := PO.push (HPO.out.later hb09) ⟨P.blk, a8, c8, P.dat⟩ hy9 (by simp only; rw [HRL.out]; exact hc8) w8.heap.size 0 (cell_of hh9 rfl) (by simp only; rw [HRL.out]; exact cell_of hh9 rfl) 1 (by rw [HML.out]; omega) 25
            have HN10 := hid hn10
            have hoth := owns_other (t := 3) (HPO.out.later hb09).1 (by decide)
            have hown : ∀ b, (Value.slice a9 k c9).ownBlock = some b → w.heap.size ≤ b := fun b hb => HPO.out.2.1 b hb
            have HB10 : Hid (Below w.heap.size w w10) := hid (hm10.to_below hbw9 hbw9.size hown)
            have HRW10 : Hid (w10.ownsRow w.heap.size 3 1 (.slice (some ⟨g6, 0, none⟩) n c6) n (ints (placesL (l.take 512) n))) := hid (by
              have r9 : W9.ownsRow w.heap.size 3 1 (.slice (some ⟨g6, 0, none⟩) n c6) n (ints (placesL (l.take 512) n)) := owns_keep HRW.out (fun g hg => hb09.block g (owns_lt HRW.out hg).1)
              exact owns_keep r9 (fun g hg => by
                obtain ⟨cur, hcur⟩ := owns_kind r9 hg
                exact hm10.block g (owns_lt r9 hg).1 (fun e => hoth g cur _ e hcur)))
            have HPO10 : Hid (PO w10 (New w) (.slice a10 n10 c10) (M ++ [⟨P.blk, a8, c8, P.dat⟩])) := hid (hpo10.weak (fun b hb _ => by rcases hb with h1 | h1; exact h1; unfold New; have := hbw9.size; omega))
            clear hc8 hy8 hb8 hb9 hh9 hb09 hbw9 hy9 hpo10 hm10 hn10 hoth hown HC2
            go_wp2_with (first | rw [← hW9] | (at_builtin; refine wpList_append_run rfl _ _ 25 rfl rfl rfl hap ?_))
            go_roundw
            case rel => exact ⟨k + 1, _, by omega, by go_num, HPO10.out, by rw [List.map_append, HM.out, HRS.out]; rfl, by simp [HML.out], HB10.out, HRW10.out⟩
            case measure => simp [RowKit.intOf]; omega
          · have hki : ¬ ((k : Int) < n) := by omega
            obtain rfl : k = n := by omega
            clear hb hrow
            go_wp2
            exact bodyPost_ret (results_tmp3 rfl _ _ _) rfl ⟨.inl ⟨HFOOT.out, _, by rw [← HSQ.out]; rfl, M, HPO.out, by rw [← HN.out]; exact HM.out⟩, HB.out⟩
  · go_wp2
    exact bodyPost_ret (results_tmp3 rfl _ _ _) rfl ⟨.inr ⟨fun hk => hno hk.head, rfl⟩, HB2.out⟩
end Go.Proofs.YtoifeioijoancaaDoor
