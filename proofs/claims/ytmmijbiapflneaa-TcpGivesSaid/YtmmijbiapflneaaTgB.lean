/- takeAnswer, where the connection opens or is open. -/
import Derived.Test.YtmmijbiapflneaaTgA
namespace Go.Proofs.Ytmmijbiapflneaa
open Go.RowKit Go.Maps
set_option linter.unusedVariables false
set_option maxRecDepth 100000 in
set_option maxHeartbeats 32000000 in
theorem takeAnswer_open {w : World} {p : Nat} {S : Nat → Prop} {c : Cn} {vc vm vw : Value} (h : CnX w p S c vc vm vw) (s : Sg) (hst : (c.st = 1 ∧ s.ack = c.N) ∨ c.st = 2) (hcl : c.came.length ≤ 16384) (hrb : 0 ≤ roomC c ∧ roomC c ≤ 16384 - c.came.length) (hlv : c.lv = true) (hR : IsU c.R) (hE : ∀ x y, c.E x = some y → IsB y) (a : Option Addr) (n cp : Nat) (hseq : IsU s.seq) (hn : s.dat.length = n) (hl : n ≤ 300000) (hc : n ≤ cp) (hb : ∀ W, Kp S w S W → Bytes W a s.dat) (hec : c.ec ≤ 300000) (hwl : c.waits.length ≤ 900000) :
    Calls Try.prog 26 #[.pointer (some ⟨p, 0, none⟩), .agg (sgC s.fr s.to_ s.seq s.ack s.fl s.win s.mss (.slice a n cp))] w fun e w' => e = .returned undef ∧ ∃ S', CnAt w' p S' (ansOpS { c with st := 2 } s) ∧ Kp S w S' w' := by
  obtain ⟨W1, hW1, h1, b1⟩ := boxS w (sgC s.fr s.to_ s.seq s.ack s.fl s.win s.mss (.slice a n cp)) 30
  obtain ⟨g, hg⟩ : ∃ g, w.heap.size = g := ⟨_, rfl⟩
  have HgS : Hid (¬ S g) := hid (fun e => by have := h.slt g e; omega)
  have HBY : Hid (∀ W, Kp S w S W → Bytes W a s.dat) := hid hb
  have HTK : Hid (∀ W, CnX W p S { c with st := 2 } vc vm vw → Bytes W a s.dat → Calls Try.prog 41 #[.pointer (some ⟨p, 0, none⟩), .agg (sgC s.fr s.to_ s.seq s.ack s.fl s.win s.mss (.slice a n cp))] W fun e w' => e = .returned (.bool (takeInS { c with st := 2 } s).2) ∧ ∃ S' vc' vm', CnX w' p S' (takeInS { c with st := 2 } s).1 vc' vm' vw ∧ Kp S W S' w') := hid (fun W hx hbW => takeIn_any hx hcl hrb hlv hR hE s a n cp hseq hn hl hc hbW hec)
  obtain ⟨cm, R, E, ec, lv, en, en0, hti⟩ := takeInS_is { c with st := 2 } s
  obtain ⟨TC, hTC⟩ : ∃ x, (takeInS { c with st := 2 } s).1 = x := ⟨_, rfl⟩
  have hTS : TC.st = 2 := by rw [← hTC, hti]
  have hTW : TC.waits.length ≤ 900000 := by rw [← hTC, hti]; exact hwl
  have hans : ansOpS { c with st := 2 } s = oweS (hearS (if (takeInS { c with st := 2 } s).2 then { TC with st := 3 } else TC) s.ack s.win) s := by unfold ansOpS takeOpS; rw [hTC]
  rw [hTC] at HTK
  rw [hg] at h1
  have HST := hst
  have HX1 := hid (h.later b1)
  have H1 := hid h1
  have HB1 := hid b1
  have HTS := hid hTS
  have hST2 : ∀ C : Cn, (hearS C s.ack s.win).st = C.st := fun C => by obtain ⟨_, _, _, _, _, _, e⟩ := hearS_is C s.ack s.win; rw [e]
  obtain ⟨f, t, q, ak, fl, wi, mss, dat⟩ := s
  simp only at *
  have HHA0 : Hid (∀ W, Calls Try.prog 23 #[.agg (sgC f t q ak fl wi mss (.slice a n cp)), .int .i64 1] W fun e w' => e = .returned (.bool (hasB fl 1)) ∧ Below W.heap.size W w') := hid (fun W => has_any W f t q ak fl wi mss 1 _)
  have HW := hW1.symm
  obtain ⟨TB, hTB⟩ : ∃ x, (takeInS { c with st := 2 } ⟨f, t, q, ak, fl, wi, mss, dat⟩).2 = x := ⟨_, rfl⟩
  rw [hTB] at HTK hans
  have hdat : dat.isEmpty = decide (n = 0) := by
    cases hd : dat with
    | nil => rw [hd] at hn; simp at hn; simp [← hn]
    | cons x l => rw [hd] at hn; simp at hn; simp [← hn]
  obtain ⟨RS, hRS⟩ : ∃ x, ansOpS { c with st := 2 } ⟨f, t, q, ak, fl, wi, mss, dat⟩ = x := ⟨_, rfl⟩
  rw [hRS] at hans ⊢
  unfold oweS at hans
  simp only [hdat] at hans
  clear h1 b1 hW1 h hcl hrb hlv hR hE hseq hn hl hc hb hec hwl hTC hti hTB hRS hdat hTS
  rcases HST with ⟨hs1, han⟩ | hs1
  · have HST := hid hs1
    have HAN := hid han
    clear han
    clear hs1
    cases TB with
    | true =>
      simp only [if_true] at hans
      have HST2 : Hid ((hearS ({ TC with st := 3 }) ak wi).st = 3) := hid (by rw [hST2])
      have HWL : Hid (({ TC with st := 3 }).waits.length ≤ 900000) := hid hTW
      clear hST2 hTW
      cases hF : hasB fl 1 with
      | true =>
        have HHA := HHA0
        rw [hF] at HHA hans
        simp only [Bool.true_or, if_true] at hans
        have HRS : Hid ({ hearS ({ TC with st := 3 }) ak wi with oK := true } = RS) := hid hans.symm
        clear hF hans HHA0
        have c16 := cell_of HX1.out.box (i := 16) (v := .int .i64 1) (by rw [← HST.out]; rfl)
        have f16 := froz_of HX1.out.box 16
        have c6 := cell_of HX1.out.box (i := 6) (v := .int .u32 ak) (by rw [HAN.out]; rfl)
        have c3 := cell_of H1.out (i := 3) (v := .int .u32 ak) rfl
        obtain ⟨V1, hV1⟩ : ∃ W, W = W1.setCell ⟨p, 16, none⟩ (.int .i64 2) := ⟨_, rfl⟩
        have hs1 := HX1.out.set (c' := { c with st := 2 }) 16 (.int .i64 2) (st_cells _ _ _ _ 2) rfl rfl rfl rfl rfl
        rw [← hV1] at hs1
        have HXV := hid hs1.1
        have HKV := hid ((Kp.below HB1.out).trans hs1.2)
        have HBV := hid ((hs1.2.block (Array.getElem?_eq_some_iff.1 H1.out).1 HgS.out).trans H1.out)
        have hV1' := hV1.symm
        have hnn : (ak != ak) = false := by simp
        clear hV1 hs1
        go_enter Try.func26, Try.ntmps26
        go_upto_region 6 with fail
        go_region
        go_upto_region 8 with fail
        try simp only [Act.put]
        refine wp_region_held_drew (S := fun w' => w'.heap[g]? = some (.cells (sgC f t q ak fl wi mss (.slice a n cp)) 30 (0, 0))) (by kernel_rfl) HBV.out (fun hS => ?_)
        obtain ⟨v0, hv0⟩ : ∃ W, W = V1.drew.drew := ⟨_, rfl⟩
        rw [← hv0] at hS ⊢
        have HX0 := hid (show CnX v0 p S { c with st := 2 } vc vm vw by rw [hv0]; exact HXV.out.later (below_drewN (Below.refl _ _) 2))
        have HK0 := hid (show Kp S w S v0 by rw [hv0]; exact HKV.out.trans (Kp.below (below_drewN (Below.refl _ _) 2)))
        clear hv0 HXV HKV c16 f16 c6 c3 hV1' hnn
        refine nany_take 0 26 (.pointer (some ⟨p, 0, none⟩)) rfl rfl (by kernel_rfl) (by kernel_rfl) (by kernel_rfl) (fun _ _ _ h => h) (Or.inl ⟨by rfl, ?_⟩) hS ?_
        · rintro w' hS'
          first | exact ex_load 30 _ rfl g rfl 30 _ (0, 0) _ hS' Try.underlying30 sizeSg | go_simp
        simp only [List.setIfInBounds_toArray, List.set_cons_zero, List.set_cons_succ]
        refine nany_take 1 27 (.pointer (some ⟨p, 0, none⟩)) rfl rfl (by kernel_rfl) (by kernel_rfl) (by kernel_rfl) (fun _ _ _ h => h) (Or.inl ⟨by rfl, ?_⟩) hS ?_
        · rintro w' hS'
          first | exact ex_load 30 _ rfl g rfl 30 _ (0, 0) _ hS' Try.underlying30 sizeSg | go_simp
        simp only [List.setIfInBounds_toArray, List.set_cons_zero, List.set_cons_succ]
        refine nany_take 2 28 (.pointer (some ⟨p, 0, none⟩)) rfl rfl (by kernel_rfl) (by kernel_rfl) (by kernel_rfl) (fun _ _ _ h => h) (Or.inl ⟨by rfl, ?_⟩) hS ?_
        · rintro w' hS'
          first | exact ex_load 30 _ rfl g rfl 30 _ (0, 0) _ hS' Try.underlying30 sizeSg | go_simp
        simp only [List.setIfInBounds_toArray, List.set_cons_zero, List.set_cons_succ]
        refine nany_take 3 29 (.agg (sgC f t q ak fl wi mss (.slice a n cp))) rfl rfl (by kernel_rfl) (by kernel_rfl) (by kernel_rfl) (fun _ _ _ h => h) (Or.inl ⟨by rfl, ?_⟩) hS ?_
        · rintro w' hS'
          first | exact ex_load 30 _ rfl g rfl 30 _ (0, 0) _ hS' Try.underlying30 sizeSg | go_simp
        simp only [List.setIfInBounds_toArray, List.set_cons_zero, List.set_cons_succ]
        refine nany_one 4 (by kernel_rfl) ?_
        refine nop_callE 30 (f := 41) (args := #[.pointer (some ⟨p, 0, none⟩), .agg (sgC f t q ak fl wi mss (.slice a n cp))]) (R := fun v w' => v = .bool true ∧ ∃ S' vc' vm', CnX w' p S' TC vc' vm' vw ∧ Kp S v0 S' w') rfl (by rfl) rfl (by go_simp) ((HTK.out v0 HX0.out (HBY.out v0 HK0.out)).mono (fun e w' h => ⟨_, h.1, rfl, h.2⟩)) ?_
        rintro v w2 ⟨rfl, S2, vc2, vm2, hx2, hk2⟩
        have H2 := hid ((hk2.block (Array.getElem?_eq_some_iff.1 hS).1 HgS.out).trans hS)
        have HK2 := hid (HK0.out.trans hk2)
        have HX2 := hid hx2
        have HgS2 := hid (hk2.off (Array.getElem?_eq_some_iff.1 hS).1 HgS.out)
        clear hk2 hx2 HK0 HX0
        refine ⟨H2.out, ?_⟩
        simp only [List.setIfInBounds_toArray, List.set_cons_zero, List.set_cons_succ]
        refine wpAnyH_done (by kernel_rfl) ?_ _
        clear hS
        have c16 := cell_of HX2.out.box (i := 16) (v := .int .i64 2) (by rw [← HTS.out]; rfl)
        have f16 := froz_of HX2.out.box 16
        obtain ⟨w3, hw3⟩ : ∃ W, W = w2.setCell ⟨p, 16, none⟩ (.int .i64 3) := ⟨_, rfl⟩
        have hs3 := HX2.out.set (c' := { TC with st := 3 }) 16 (.int .i64 3) (st_cells _ _ _ _ 3) rfl rfl rfl rfl rfl
        rw [← hw3] at hs3
        have HX3 := hid hs3.1
        have HK3 := hid (HK2.out.trans hs3.2)
        have H3 := hid ((hs3.2.block (Array.getElem?_eq_some_iff.1 H2.out).1 HgS2.out).trans H2.out)
        have hw3' := hw3.symm
        clear hw3 hs3 HX2 HK2 H2
        have p3a := cell_of H3.out (i := 3) (v := .int .u32 ak) rfl
        have p3b := cell_of H3.out (i := 5) (v := .int .i64 wi) rfl
        have HHE := hid (hear_any (w := w3.drew) HX3.out.drew ak wi HWL.out)
        go_upto_region 10 with fail
        go_region_held3 (fun w' => w'.cell? ⟨g, 3, none⟩ = some (.int .u32 ak) ∧ w'.cell? ⟨g, 5, none⟩ = some (.int .i64 wi)) ((first | exact ⟨p3a, p3b⟩ | exact HS5.out))
          ((go_at_call 42; refine HHE.out.mono ?_; rintro e w5 ⟨rfl, ⟨vw5, hx5⟩, hm5⟩; have HX5 := hid hx5; have HK5 := hid (HK3.out.trans ((Kp.below (w' := w3.drew) ((Below.refl _ _).drew)).trans (HX3.out.drew.kp hm5))); have hlt := (Array.getElem?_eq_some_iff.1 H3.out).1; have hng : g ≠ p := (fun e => HgS2.out (by rw [e]; exact HX3.out.sp)); have H5 := hid ((hm5.block g hlt hng).trans H3.out); have HS5 := hid (And.intro (cell_of H5.out (i := 3) (v := .int .u32 ak) rfl) (cell_of H5.out (i := 5) (v := .int .i64 wi) rfl)); clear hx5 hm5 hlt hng))
        clear HS5 HHE p3a p3b HX3 HK3 c16 f16
        have p16 := cell_of HX5.out.box (i := 16) (v := .int .i64 3) (by show some (Value.int .i64 (hearS ({ TC with st := 3 }) ak wi).st) = some (.int .i64 3); rw [HST2.out])
        have p18 := cell_of HX5.out.box (i := 18) (v := .bool (hearS { TC with st := 3 } ak wi).oK) rfl
        have f18 := froz_of HX5.out.box 18
        have p57 := cell_of H5.out (i := 7) (v := .slice a n cp) rfl
        go_wp2_with (first
          | (refine wpList_load_row rfl 30 _ rfl g rfl 30 _ (0, 0) _ H5.out Try.underlying30 rfl sizeSg ?_)
          | (go_at_call 23; refine (HHA.out _).mono ?_; rintro e w6 ⟨rfl, hb6⟩; have HX6 := hid (HX5.out.later hb6); have HK6 := hid (HK5.out.trans (Kp.below hb6)); have p67 := cell_later hb6 p57; have p68 := cell_later hb6 p18; have f68 := froz_of HX6.out.box 18; clear hb6 HHA HX5 HK5 p57 p18 f18 p16 H5))
        have hs7 := HX6.out.set (c' := { hearS { TC with st := 3 } ak wi with oK := true }) 18 (.bool true) (oK_cells _ _ _ _) rfl rfl rfl rfl rfl
        have hx7 := hs7.1
        have hk7 := HK6.out.trans hs7.2
        rw [HRS.out] at hx7
        first | go_end0 | refine bodyPost_ret (results_none rfl _ _ _) rfl ?_
        exact ⟨rfl, S2, ⟨_, _, _, hx7⟩, hk7⟩
      | false =>
        have HHA := HHA0
        rw [hF] at HHA hans
        by_cases hn0 : n = 0
        · simp only [Bool.false_or, hn0, decide_true, Bool.not_true, Bool.false_eq_true, if_false] at hans
          have hnp : ¬ (0 < n) := by omega
          have HRS : Hid (hearS ({ TC with st := 3 }) ak wi = RS) := hid hans.symm
          clear hF hans HHA0 hn0
          have c16 := cell_of HX1.out.box (i := 16) (v := .int .i64 1) (by rw [← HST.out]; rfl)
          have f16 := froz_of HX1.out.box 16
          have c6 := cell_of HX1.out.box (i := 6) (v := .int .u32 ak) (by rw [HAN.out]; rfl)
          have c3 := cell_of H1.out (i := 3) (v := .int .u32 ak) rfl
          obtain ⟨V1, hV1⟩ : ∃ W, W = W1.setCell ⟨p, 16, none⟩ (.int .i64 2) := ⟨_, rfl⟩
          have hs1 := HX1.out.set (c' := { c with st := 2 }) 16 (.int .i64 2) (st_cells _ _ _ _ 2) rfl rfl rfl rfl rfl
          rw [← hV1] at hs1
          have HXV := hid hs1.1
          have HKV := hid ((Kp.below HB1.out).trans hs1.2)
          have HBV := hid ((hs1.2.block (Array.getElem?_eq_some_iff.1 H1.out).1 HgS.out).trans H1.out)
          have hV1' := hV1.symm
          have hnn : (ak != ak) = false := by simp
          clear hV1 hs1
          go_enter Try.func26, Try.ntmps26
          go_upto_region 6 with fail
          go_region
          go_upto_region 8 with fail
          try simp only [Act.put]
          refine wp_region_held_drew (S := fun w' => w'.heap[g]? = some (.cells (sgC f t q ak fl wi mss (.slice a n cp)) 30 (0, 0))) (by kernel_rfl) HBV.out (fun hS => ?_)
          obtain ⟨v0, hv0⟩ : ∃ W, W = V1.drew.drew := ⟨_, rfl⟩
          rw [← hv0] at hS ⊢
          have HX0 := hid (show CnX v0 p S { c with st := 2 } vc vm vw by rw [hv0]; exact HXV.out.later (below_drewN (Below.refl _ _) 2))
          have HK0 := hid (show Kp S w S v0 by rw [hv0]; exact HKV.out.trans (Kp.below (below_drewN (Below.refl _ _) 2)))
          clear hv0 HXV HKV c16 f16 c6 c3 hV1' hnn
          refine nany_take 0 26 (.pointer (some ⟨p, 0, none⟩)) rfl rfl (by kernel_rfl) (by kernel_rfl) (by kernel_rfl) (fun _ _ _ h => h) (Or.inl ⟨by rfl, ?_⟩) hS ?_
          · rintro w' hS'
            first | exact ex_load 30 _ rfl g rfl 30 _ (0, 0) _ hS' Try.underlying30 sizeSg | go_simp
          simp only [List.setIfInBounds_toArray, List.set_cons_zero, List.set_cons_succ]
          refine nany_take 1 27 (.pointer (some ⟨p, 0, none⟩)) rfl rfl (by kernel_rfl) (by kernel_rfl) (by kernel_rfl) (fun _ _ _ h => h) (Or.inl ⟨by rfl, ?_⟩) hS ?_
          · rintro w' hS'
            first | exact ex_load 30 _ rfl g rfl 30 _ (0, 0) _ hS' Try.underlying30 sizeSg | go_simp
          simp only [List.setIfInBounds_toArray, List.set_cons_zero, List.set_cons_succ]
          refine nany_take 2 28 (.pointer (some ⟨p, 0, none⟩)) rfl rfl (by kernel_rfl) (by kernel_rfl) (by kernel_rfl) (fun _ _ _ h => h) (Or.inl ⟨by rfl, ?_⟩) hS ?_
          · rintro w' hS'
            first | exact ex_load 30 _ rfl g rfl 30 _ (0, 0) _ hS' Try.underlying30 sizeSg | go_simp
          simp only [List.setIfInBounds_toArray, List.set_cons_zero, List.set_cons_succ]
          refine nany_take 3 29 (.agg (sgC f t q ak fl wi mss (.slice a n cp))) rfl rfl (by kernel_rfl) (by kernel_rfl) (by kernel_rfl) (fun _ _ _ h => h) (Or.inl ⟨by rfl, ?_⟩) hS ?_
          · rintro w' hS'
            first | exact ex_load 30 _ rfl g rfl 30 _ (0, 0) _ hS' Try.underlying30 sizeSg | go_simp
          simp only [List.setIfInBounds_toArray, List.set_cons_zero, List.set_cons_succ]
          refine nany_one 4 (by kernel_rfl) ?_
          refine nop_callE 30 (f := 41) (args := #[.pointer (some ⟨p, 0, none⟩), .agg (sgC f t q ak fl wi mss (.slice a n cp))]) (R := fun v w' => v = .bool true ∧ ∃ S' vc' vm', CnX w' p S' TC vc' vm' vw ∧ Kp S v0 S' w') rfl (by rfl) rfl (by go_simp) ((HTK.out v0 HX0.out (HBY.out v0 HK0.out)).mono (fun e w' h => ⟨_, h.1, rfl, h.2⟩)) ?_
          rintro v w2 ⟨rfl, S2, vc2, vm2, hx2, hk2⟩
          have H2 := hid ((hk2.block (Array.getElem?_eq_some_iff.1 hS).1 HgS.out).trans hS)
          have HK2 := hid (HK0.out.trans hk2)
          have HX2 := hid hx2
          have HgS2 := hid (hk2.off (Array.getElem?_eq_some_iff.1 hS).1 HgS.out)
          clear hk2 hx2 HK0 HX0
          refine ⟨H2.out, ?_⟩
          simp only [List.setIfInBounds_toArray, List.set_cons_zero, List.set_cons_succ]
          refine wpAnyH_done (by kernel_rfl) ?_ _
          clear hS
          have c16 := cell_of HX2.out.box (i := 16) (v := .int .i64 2) (by rw [← HTS.out]; rfl)
          have f16 := froz_of HX2.out.box 16
          obtain ⟨w3, hw3⟩ : ∃ W, W = w2.setCell ⟨p, 16, none⟩ (.int .i64 3) := ⟨_, rfl⟩
          have hs3 := HX2.out.set (c' := { TC with st := 3 }) 16 (.int .i64 3) (st_cells _ _ _ _ 3) rfl rfl rfl rfl rfl
          rw [← hw3] at hs3
          have HX3 := hid hs3.1
          have HK3 := hid (HK2.out.trans hs3.2)
          have H3 := hid ((hs3.2.block (Array.getElem?_eq_some_iff.1 H2.out).1 HgS2.out).trans H2.out)
          have hw3' := hw3.symm
          clear hw3 hs3 HX2 HK2 H2
          have p3a := cell_of H3.out (i := 3) (v := .int .u32 ak) rfl
          have p3b := cell_of H3.out (i := 5) (v := .int .i64 wi) rfl
          have HHE := hid (hear_any (w := w3.drew) HX3.out.drew ak wi HWL.out)
          go_upto_region 10 with fail
          go_region_held3 (fun w' => w'.cell? ⟨g, 3, none⟩ = some (.int .u32 ak) ∧ w'.cell? ⟨g, 5, none⟩ = some (.int .i64 wi)) ((first | exact ⟨p3a, p3b⟩ | exact HS5.out))
            ((go_at_call 42; refine HHE.out.mono ?_; rintro e w5 ⟨rfl, ⟨vw5, hx5⟩, hm5⟩; have HX5 := hid hx5; have HK5 := hid (HK3.out.trans ((Kp.below (w' := w3.drew) ((Below.refl _ _).drew)).trans (HX3.out.drew.kp hm5))); have hlt := (Array.getElem?_eq_some_iff.1 H3.out).1; have hng : g ≠ p := (fun e => HgS2.out (by rw [e]; exact HX3.out.sp)); have H5 := hid ((hm5.block g hlt hng).trans H3.out); have HS5 := hid (And.intro (cell_of H5.out (i := 3) (v := .int .u32 ak) rfl) (cell_of H5.out (i := 5) (v := .int .i64 wi) rfl)); clear hx5 hm5 hlt hng))
          clear HS5 HHE p3a p3b HX3 HK3 c16 f16
          have p16 := cell_of HX5.out.box (i := 16) (v := .int .i64 3) (by show some (Value.int .i64 (hearS ({ TC with st := 3 }) ak wi).st) = some (.int .i64 3); rw [HST2.out])
          have p18 := cell_of HX5.out.box (i := 18) (v := .bool (hearS { TC with st := 3 } ak wi).oK) rfl
          have f18 := froz_of HX5.out.box 18
          have p57 := cell_of H5.out (i := 7) (v := .slice a n cp) rfl
          go_wp2_with (first
            | (refine wpList_load_row rfl 30 _ rfl g rfl 30 _ (0, 0) _ H5.out Try.underlying30 rfl sizeSg ?_)
            | (go_at_call 23; refine (HHA.out _).mono ?_; rintro e w6 ⟨rfl, hb6⟩; have HX6 := hid (HX5.out.later hb6); have HK6 := hid (HK5.out.trans (Kp.below hb6)); have p67 := cell_later hb6 p57; have p68 := cell_later hb6 p18; have f68 := froz_of HX6.out.box 18; clear hb6 HHA HX5 HK5 p57 p18 f18 p16 H5))
          have hx7 := HX6.out
          have hk7 := HK6.out
          rw [HRS.out] at hx7
          first | go_end0 | refine bodyPost_ret (results_none rfl _ _ _) rfl ?_
          exact ⟨rfl, S2, ⟨_, _, _, hx7⟩, hk7⟩
        · simp only [Bool.false_or, hn0, decide_false, Bool.not_false, if_true] at hans
          have HRS : Hid ({ hearS ({ TC with st := 3 }) ak wi with oK := true } = RS) := hid hans.symm
          have hnp : 0 < n := by omega
          clear hF hans HHA0 hn0
          have c16 := cell_of HX1.out.box (i := 16) (v := .int .i64 1) (by rw [← HST.out]; rfl)
          have f16 := froz_of HX1.out.box 16
          have c6 := cell_of HX1.out.box (i := 6) (v := .int .u32 ak) (by rw [HAN.out]; rfl)
          have c3 := cell_of H1.out (i := 3) (v := .int .u32 ak) rfl
          obtain ⟨V1, hV1⟩ : ∃ W, W = W1.setCell ⟨p, 16, none⟩ (.int .i64 2) := ⟨_, rfl⟩
          have hs1 := HX1.out.set (c' := { c with st := 2 }) 16 (.int .i64 2) (st_cells _ _ _ _ 2) rfl rfl rfl rfl rfl
          rw [← hV1] at hs1
          have HXV := hid hs1.1
          have HKV := hid ((Kp.below HB1.out).trans hs1.2)
          have HBV := hid ((hs1.2.block (Array.getElem?_eq_some_iff.1 H1.out).1 HgS.out).trans H1.out)
          have hV1' := hV1.symm
          have hnn : (ak != ak) = false := by simp
          clear hV1 hs1
          go_enter Try.func26, Try.ntmps26
          go_upto_region 6 with fail
          go_region
          go_upto_region 8 with fail
          try simp only [Act.put]
          refine wp_region_held_drew (S := fun w' => w'.heap[g]? = some (.cells (sgC f t q ak fl wi mss (.slice a n cp)) 30 (0, 0))) (by kernel_rfl) HBV.out (fun hS => ?_)
          obtain ⟨v0, hv0⟩ : ∃ W, W = V1.drew.drew := ⟨_, rfl⟩
          rw [← hv0] at hS ⊢
          have HX0 := hid (show CnX v0 p S { c with st := 2 } vc vm vw by rw [hv0]; exact HXV.out.later (below_drewN (Below.refl _ _) 2))
          have HK0 := hid (show Kp S w S v0 by rw [hv0]; exact HKV.out.trans (Kp.below (below_drewN (Below.refl _ _) 2)))
          clear hv0 HXV HKV c16 f16 c6 c3 hV1' hnn
          refine nany_take 0 26 (.pointer (some ⟨p, 0, none⟩)) rfl rfl (by kernel_rfl) (by kernel_rfl) (by kernel_rfl) (fun _ _ _ h => h) (Or.inl ⟨by rfl, ?_⟩) hS ?_
          · rintro w' hS'
            first | exact ex_load 30 _ rfl g rfl 30 _ (0, 0) _ hS' Try.underlying30 sizeSg | go_simp
          simp only [List.setIfInBounds_toArray, List.set_cons_zero, List.set_cons_succ]
          refine nany_take 1 27 (.pointer (some ⟨p, 0, none⟩)) rfl rfl (by kernel_rfl) (by kernel_rfl) (by kernel_rfl) (fun _ _ _ h => h) (Or.inl ⟨by rfl, ?_⟩) hS ?_
          · rintro w' hS'
            first | exact ex_load 30 _ rfl g rfl 30 _ (0, 0) _ hS' Try.underlying30 sizeSg | go_simp
          simp only [List.setIfInBounds_toArray, List.set_cons_zero, List.set_cons_succ]
          refine nany_take 2 28 (.pointer (some ⟨p, 0, none⟩)) rfl rfl (by kernel_rfl) (by kernel_rfl) (by kernel_rfl) (fun _ _ _ h => h) (Or.inl ⟨by rfl, ?_⟩) hS ?_
          · rintro w' hS'
            first | exact ex_load 30 _ rfl g rfl 30 _ (0, 0) _ hS' Try.underlying30 sizeSg | go_simp
          simp only [List.setIfInBounds_toArray, List.set_cons_zero, List.set_cons_succ]
          refine nany_take 3 29 (.agg (sgC f t q ak fl wi mss (.slice a n cp))) rfl rfl (by kernel_rfl) (by kernel_rfl) (by kernel_rfl) (fun _ _ _ h => h) (Or.inl ⟨by rfl, ?_⟩) hS ?_
          · rintro w' hS'
            first | exact ex_load 30 _ rfl g rfl 30 _ (0, 0) _ hS' Try.underlying30 sizeSg | go_simp
          simp only [List.setIfInBounds_toArray, List.set_cons_zero, List.set_cons_succ]
          refine nany_one 4 (by kernel_rfl) ?_
          refine nop_callE 30 (f := 41) (args := #[.pointer (some ⟨p, 0, none⟩), .agg (sgC f t q ak fl wi mss (.slice a n cp))]) (R := fun v w' => v = .bool true ∧ ∃ S' vc' vm', CnX w' p S' TC vc' vm' vw ∧ Kp S v0 S' w') rfl (by rfl) rfl (by go_simp) ((HTK.out v0 HX0.out (HBY.out v0 HK0.out)).mono (fun e w' h => ⟨_, h.1, rfl, h.2⟩)) ?_
          rintro v w2 ⟨rfl, S2, vc2, vm2, hx2, hk2⟩
          have H2 := hid ((hk2.block (Array.getElem?_eq_some_iff.1 hS).1 HgS.out).trans hS)
          have HK2 := hid (HK0.out.trans hk2)
          have HX2 := hid hx2
          have HgS2 := hid (hk2.off (Array.getElem?_eq_some_iff.1 hS).1 HgS.out)
          clear hk2 hx2 HK0 HX0
          refine ⟨H2.out, ?_⟩
          simp only [List.setIfInBounds_toArray, List.set_cons_zero, List.set_cons_succ]
          refine wpAnyH_done (by kernel_rfl) ?_ _
          clear hS
          have c16 := cell_of HX2.out.box (i := 16) (v := .int .i64 2) (by rw [← HTS.out]; rfl)
          have f16 := froz_of HX2.out.box 16
          obtain ⟨w3, hw3⟩ : ∃ W, W = w2.setCell ⟨p, 16, none⟩ (.int .i64 3) := ⟨_, rfl⟩
          have hs3 := HX2.out.set (c' := { TC with st := 3 }) 16 (.int .i64 3) (st_cells _ _ _ _ 3) rfl rfl rfl rfl rfl
          rw [← hw3] at hs3
          have HX3 := hid hs3.1
          have HK3 := hid (HK2.out.trans hs3.2)
          have H3 := hid ((hs3.2.block (Array.getElem?_eq_some_iff.1 H2.out).1 HgS2.out).trans H2.out)
          have hw3' := hw3.symm
          clear hw3 hs3 HX2 HK2 H2
          have p3a := cell_of H3.out (i := 3) (v := .int .u32 ak) rfl
          have p3b := cell_of H3.out (i := 5) (v := .int .i64 wi) rfl
          have HHE := hid (hear_any (w := w3.drew) HX3.out.drew ak wi HWL.out)
          go_upto_region 10 with fail
          go_region_held3 (fun w' => w'.cell? ⟨g, 3, none⟩ = some (.int .u32 ak) ∧ w'.cell? ⟨g, 5, none⟩ = some (.int .i64 wi)) ((first | exact ⟨p3a, p3b⟩ | exact HS5.out))
            ((go_at_call 42; refine HHE.out.mono ?_; rintro e w5 ⟨rfl, ⟨vw5, hx5⟩, hm5⟩; have HX5 := hid hx5; have HK5 := hid (HK3.out.trans ((Kp.below (w' := w3.drew) ((Below.refl _ _).drew)).trans (HX3.out.drew.kp hm5))); have hlt := (Array.getElem?_eq_some_iff.1 H3.out).1; have hng : g ≠ p := (fun e => HgS2.out (by rw [e]; exact HX3.out.sp)); have H5 := hid ((hm5.block g hlt hng).trans H3.out); have HS5 := hid (And.intro (cell_of H5.out (i := 3) (v := .int .u32 ak) rfl) (cell_of H5.out (i := 5) (v := .int .i64 wi) rfl)); clear hx5 hm5 hlt hng))
          clear HS5 HHE p3a p3b HX3 HK3 c16 f16
          have p16 := cell_of HX5.out.box (i := 16) (v := .int .i64 3) (by show some (Value.int .i64 (hearS ({ TC with st := 3 }) ak wi).st) = some (.int .i64 3); rw [HST2.out])
          have p18 := cell_of HX5.out.box (i := 18) (v := .bool (hearS { TC with st := 3 } ak wi).oK) rfl
          have f18 := froz_of HX5.out.box 18
          have p57 := cell_of H5.out (i := 7) (v := .slice a n cp) rfl
          go_wp2_with (first
            | (refine wpList_load_row rfl 30 _ rfl g rfl 30 _ (0, 0) _ H5.out Try.underlying30 rfl sizeSg ?_)
            | (go_at_call 23; refine (HHA.out _).mono ?_; rintro e w6 ⟨rfl, hb6⟩; have HX6 := hid (HX5.out.later hb6); have HK6 := hid (HK5.out.trans (Kp.below hb6)); have p67 := cell_later hb6 p57; have p68 := cell_later hb6 p18; have f68 := froz_of HX6.out.box 18; clear hb6 HHA HX5 HK5 p57 p18 f18 p16 H5))
          have hs7 := HX6.out.set (c' := { hearS { TC with st := 3 } ak wi with oK := true }) 18 (.bool true) (oK_cells _ _ _ _) rfl rfl rfl rfl rfl
          have hx7 := hs7.1
          have hk7 := HK6.out.trans hs7.2
          rw [HRS.out] at hx7
          first | go_end0 | refine bodyPost_ret (results_none rfl _ _ _) rfl ?_
          exact ⟨rfl, S2, ⟨_, _, _, hx7⟩, hk7⟩
    | false =>
      simp only [Bool.false_eq_true, if_false] at hans
      have HST2 : Hid ((hearS (TC) ak wi).st = 2) := hid (by rw [hST2]; exact HTS.out)
      have HWL : Hid ((TC).waits.length ≤ 900000) := hid hTW
      clear hST2 hTW
      cases hF : hasB fl 1 with
      | true =>
        have HHA := HHA0
        rw [hF] at HHA hans
        simp only [Bool.true_or, if_true] at hans
        have HRS : Hid ({ hearS (TC) ak wi with oK := true } = RS) := hid hans.symm
        clear hF hans HHA0
        have c16 := cell_of HX1.out.box (i := 16) (v := .int .i64 1) (by rw [← HST.out]; rfl)
        have f16 := froz_of HX1.out.box 16
        have c6 := cell_of HX1.out.box (i := 6) (v := .int .u32 ak) (by rw [HAN.out]; rfl)
        have c3 := cell_of H1.out (i := 3) (v := .int .u32 ak) rfl
        obtain ⟨V1, hV1⟩ : ∃ W, W = W1.setCell ⟨p, 16, none⟩ (.int .i64 2) := ⟨_, rfl⟩
        have hs1 := HX1.out.set (c' := { c with st := 2 }) 16 (.int .i64 2) (st_cells _ _ _ _ 2) rfl rfl rfl rfl rfl
        rw [← hV1] at hs1
        have HXV := hid hs1.1
        have HKV := hid ((Kp.below HB1.out).trans hs1.2)
        have HBV := hid ((hs1.2.block (Array.getElem?_eq_some_iff.1 H1.out).1 HgS.out).trans H1.out)
        have hV1' := hV1.symm
        have hnn : (ak != ak) = false := by simp
        clear hV1 hs1
        go_enter Try.func26, Try.ntmps26
        go_upto_region 6 with fail
        go_region
        go_upto_region 8 with fail
        try simp only [Act.put]
        refine wp_region_held_drew (S := fun w' => w'.heap[g]? = some (.cells (sgC f t q ak fl wi mss (.slice a n cp)) 30 (0, 0))) (by kernel_rfl) HBV.out (fun hS => ?_)
        obtain ⟨v0, hv0⟩ : ∃ W, W = V1.drew.drew := ⟨_, rfl⟩
        rw [← hv0] at hS ⊢
        have HX0 := hid (show CnX v0 p S { c with st := 2 } vc vm vw by rw [hv0]; exact HXV.out.later (below_drewN (Below.refl _ _) 2))
        have HK0 := hid (show Kp S w S v0 by rw [hv0]; exact HKV.out.trans (Kp.below (below_drewN (Below.refl _ _) 2)))
        clear hv0 HXV HKV c16 f16 c6 c3 hV1' hnn
        refine nany_take 0 26 (.pointer (some ⟨p, 0, none⟩)) rfl rfl (by kernel_rfl) (by kernel_rfl) (by kernel_rfl) (fun _ _ _ h => h) (Or.inl ⟨by rfl, ?_⟩) hS ?_
        · rintro w' hS'
          first | exact ex_load 30 _ rfl g rfl 30 _ (0, 0) _ hS' Try.underlying30 sizeSg | go_simp
        simp only [List.setIfInBounds_toArray, List.set_cons_zero, List.set_cons_succ]
        refine nany_take 1 27 (.pointer (some ⟨p, 0, none⟩)) rfl rfl (by kernel_rfl) (by kernel_rfl) (by kernel_rfl) (fun _ _ _ h => h) (Or.inl ⟨by rfl, ?_⟩) hS ?_
        · rintro w' hS'
          first | exact ex_load 30 _ rfl g rfl 30 _ (0, 0) _ hS' Try.underlying30 sizeSg | go_simp
        simp only [List.setIfInBounds_toArray, List.set_cons_zero, List.set_cons_succ]
        refine nany_take 2 28 (.pointer (some ⟨p, 0, none⟩)) rfl rfl (by kernel_rfl) (by kernel_rfl) (by kernel_rfl) (fun _ _ _ h => h) (Or.inl ⟨by rfl, ?_⟩) hS ?_
        · rintro w' hS'
          first | exact ex_load 30 _ rfl g rfl 30 _ (0, 0) _ hS' Try.underlying30 sizeSg | go_simp
        simp only [List.setIfInBounds_toArray, List.set_cons_zero, List.set_cons_succ]
        refine nany_take 3 29 (.agg (sgC f t q ak fl wi mss (.slice a n cp))) rfl rfl (by kernel_rfl) (by kernel_rfl) (by kernel_rfl) (fun _ _ _ h => h) (Or.inl ⟨by rfl, ?_⟩) hS ?_
        · rintro w' hS'
          first | exact ex_load 30 _ rfl g rfl 30 _ (0, 0) _ hS' Try.underlying30 sizeSg | go_simp
        simp only [List.setIfInBounds_toArray, List.set_cons_zero, List.set_cons_succ]
        refine nany_one 4 (by kernel_rfl) ?_
        refine nop_callE 30 (f := 41) (args := #[.pointer (some ⟨p, 0, none⟩), .agg (sgC f t q ak fl wi mss (.slice a n cp))]) (R := fun v w' => v = .bool false ∧ ∃ S' vc' vm', CnX w' p S' TC vc' vm' vw ∧ Kp S v0 S' w') rfl (by rfl) rfl (by go_simp) ((HTK.out v0 HX0.out (HBY.out v0 HK0.out)).mono (fun e w' h => ⟨_, h.1, rfl, h.2⟩)) ?_
        rintro v w2 ⟨rfl, S2, vc2, vm2, hx2, hk2⟩
        have H2 := hid ((hk2.block (Array.getElem?_eq_some_iff.1 hS).1 HgS.out).trans hS)
        have HK2 := hid (HK0.out.trans hk2)
        have HX2 := hid hx2
        have HgS2 := hid (hk2.off (Array.getElem?_eq_some_iff.1 hS).1 HgS.out)
        clear hk2 hx2 HK0 HX0
        refine ⟨H2.out, ?_⟩
        simp only [List.setIfInBounds_toArray, List.set_cons_zero, List.set_cons_succ]
        refine wpAnyH_done (by kernel_rfl) ?_ _
        clear hS
        have HX3 := HX2
        have HK3 := HK2
        have H3 := H2
        clear HX2 HK2 H2
        have p3a := cell_of H3.out (i := 3) (v := .int .u32 ak) rfl
        have p3b := cell_of H3.out (i := 5) (v := .int .i64 wi) rfl
        have HHE := hid (hear_any (w := w2.drew) HX3.out.drew ak wi HWL.out)
        go_upto_region 10 with fail
        go_region_held3 (fun w' => w'.cell? ⟨g, 3, none⟩ = some (.int .u32 ak) ∧ w'.cell? ⟨g, 5, none⟩ = some (.int .i64 wi)) ((first | exact ⟨p3a, p3b⟩ | exact HS5.out))
          ((go_at_call 42; refine HHE.out.mono ?_; rintro e w5 ⟨rfl, ⟨vw5, hx5⟩, hm5⟩; have HX5 := hid hx5; have HK5 := hid (HK3.out.trans ((Kp.below (w' := w2.drew) ((Below.refl _ _).drew)).trans (HX3.out.drew.kp hm5))); have hlt := (Array.getElem?_eq_some_iff.1 H3.out).1; have hng : g ≠ p := (fun e => HgS2.out (by rw [e]; exact HX3.out.sp)); have H5 := hid ((hm5.block g hlt hng).trans H3.out); have HS5 := hid (And.intro (cell_of H5.out (i := 3) (v := .int .u32 ak) rfl) (cell_of H5.out (i := 5) (v := .int .i64 wi) rfl)); clear hx5 hm5 hlt hng))
        clear HS5 HHE p3a p3b HX3 HK3
        have p16 := cell_of HX5.out.box (i := 16) (v := .int .i64 2) (by show some (Value.int .i64 (hearS (TC) ak wi).st) = some (.int .i64 2); rw [HST2.out])
        have p18 := cell_of HX5.out.box (i := 18) (v := .bool (hearS TC ak wi).oK) rfl
        have f18 := froz_of HX5.out.box 18
        have p57 := cell_of H5.out (i := 7) (v := .slice a n cp) rfl
        go_wp2_with (first
          | (refine wpList_load_row rfl 30 _ rfl g rfl 30 _ (0, 0) _ H5.out Try.underlying30 rfl sizeSg ?_)
          | (go_at_call 23; refine (HHA.out _).mono ?_; rintro e w6 ⟨rfl, hb6⟩; have HX6 := hid (HX5.out.later hb6); have HK6 := hid (HK5.out.trans (Kp.below hb6)); have p67 := cell_later hb6 p57; have p68 := cell_later hb6 p18; have f68 := froz_of HX6.out.box 18; clear hb6 HHA HX5 HK5 p57 p18 f18 p16 H5))
        have hs7 := HX6.out.set (c' := { hearS TC ak wi with oK := true }) 18 (.bool true) (oK_cells _ _ _ _) rfl rfl rfl rfl rfl
        have hx7 := hs7.1
        have hk7 := HK6.out.trans hs7.2
        rw [HRS.out] at hx7
        first | go_end0 | refine bodyPost_ret (results_none rfl _ _ _) rfl ?_
        exact ⟨rfl, S2, ⟨_, _, _, hx7⟩, hk7⟩
      | false =>
        have HHA := HHA0
        rw [hF] at HHA hans
        by_cases hn0 : n = 0
        · simp only [Bool.false_or, hn0, decide_true, Bool.not_true, Bool.false_eq_true, if_false] at hans
          have hnp : ¬ (0 < n) := by omega
          have HRS : Hid (hearS (TC) ak wi = RS) := hid hans.symm
          clear hF hans HHA0 hn0
          have c16 := cell_of HX1.out.box (i := 16) (v := .int .i64 1) (by rw [← HST.out]; rfl)
          have f16 := froz_of HX1.out.box 16
          have c6 := cell_of HX1.out.box (i := 6) (v := .int .u32 ak) (by rw [HAN.out]; rfl)
          have c3 := cell_of H1.out (i := 3) (v := .int .u32 ak) rfl
          obtain ⟨V1, hV1⟩ : ∃ W, W = W1.setCell ⟨p, 16, none⟩ (.int .i64 2) := ⟨_, rfl⟩
          have hs1 := HX1.out.set (c' := { c with st := 2 }) 16 (.int .i64 2) (st_cells _ _ _ _ 2) rfl rfl rfl rfl rfl
          rw [← hV1] at hs1
          have HXV := hid hs1.1
          have HKV := hid ((Kp.below HB1.out).trans hs1.2)
          have HBV := hid ((hs1.2.block (Array.getElem?_eq_some_iff.1 H1.out).1 HgS.out).trans H1.out)
          have hV1' := hV1.symm
          have hnn : (ak != ak) = false := by simp
          clear hV1 hs1
          go_enter Try.func26, Try.ntmps26
          go_upto_region 6 with fail
          go_region
          go_upto_region 8 with fail
          try simp only [Act.put]
          refine wp_region_held_drew (S := fun w' => w'.heap[g]? = some (.cells (sgC f t q ak fl wi mss (.slice a n cp)) 30 (0, 0))) (by kernel_rfl) HBV.out (fun hS => ?_)
          obtain ⟨v0, hv0⟩ : ∃ W, W = V1.drew.drew := ⟨_, rfl⟩
          rw [← hv0] at hS ⊢
          have HX0 := hid (show CnX v0 p S { c with st := 2 } vc vm vw by rw [hv0]; exact HXV.out.later (below_drewN (Below.refl _ _) 2))
          have HK0 := hid (show Kp S w S v0 by rw [hv0]; exact HKV.out.trans (Kp.below (below_drewN (Below.refl _ _) 2)))
          clear hv0 HXV HKV c16 f16 c6 c3 hV1' hnn
          refine nany_take 0 26 (.pointer (some ⟨p, 0, none⟩)) rfl rfl (by kernel_rfl) (by kernel_rfl) (by kernel_rfl) (fun _ _ _ h => h) (Or.inl ⟨by rfl, ?_⟩) hS ?_
          · rintro w' hS'
            first | exact ex_load 30 _ rfl g rfl 30 _ (0, 0) _ hS' Try.underlying30 sizeSg | go_simp
          simp only [List.setIfInBounds_toArray, List.set_cons_zero, List.set_cons_succ]
          refine nany_take 1 27 (.pointer (some ⟨p, 0, none⟩)) rfl rfl (by kernel_rfl) (by kernel_rfl) (by kernel_rfl) (fun _ _ _ h => h) (Or.inl ⟨by rfl, ?_⟩) hS ?_
          · rintro w' hS'
            first | exact ex_load 30 _ rfl g rfl 30 _ (0, 0) _ hS' Try.underlying30 sizeSg | go_simp
          simp only [List.setIfInBounds_toArray, List.set_cons_zero, List.set_cons_succ]
          refine nany_take 2 28 (.pointer (some ⟨p, 0, none⟩)) rfl rfl (by kernel_rfl) (by kernel_rfl) (by kernel_rfl) (fun _ _ _ h => h) (Or.inl ⟨by rfl, ?_⟩) hS ?_
          · rintro w' hS'
            first | exact ex_load 30 _ rfl g rfl 30 _ (0, 0) _ hS' Try.underlying30 sizeSg | go_simp
          simp only [List.setIfInBounds_toArray, List.set_cons_zero, List.set_cons_succ]
          refine nany_take 3 29 (.agg (sgC f t q ak fl wi mss (.slice a n cp))) rfl rfl (by kernel_rfl) (by kernel_rfl) (by kernel_rfl) (fun _ _ _ h => h) (Or.inl ⟨by rfl, ?_⟩) hS ?_
          · rintro w' hS'
            first | exact ex_load 30 _ rfl g rfl 30 _ (0, 0) _ hS' Try.underlying30 sizeSg | go_simp
          simp only [List.setIfInBounds_toArray, List.set_cons_zero, List.set_cons_succ]
          refine nany_one 4 (by kernel_rfl) ?_
          refine nop_callE 30 (f := 41) (args := #[.pointer (some ⟨p, 0, none⟩), .agg (sgC f t q ak fl wi mss (.slice a n cp))]) (R := fun v w' => v = .bool false ∧ ∃ S' vc' vm', CnX w' p S' TC vc' vm' vw ∧ Kp S v0 S' w') rfl (by rfl) rfl (by go_simp) ((HTK.out v0 HX0.out (HBY.out v0 HK0.out)).mono (fun e w' h => ⟨_, h.1, rfl, h.2⟩)) ?_
          rintro v w2 ⟨rfl, S2, vc2, vm2, hx2, hk2⟩
          have H2 := hid ((hk2.block (Array.getElem?_eq_some_iff.1 hS).1 HgS.out).trans hS)
          have HK2 := hid (HK0.out.trans hk2)
          have HX2 := hid hx2
          have HgS2 := hid (hk2.off (Array.getElem?_eq_some_iff.1 hS).1 HgS.out)
          clear hk2 hx2 HK0 HX0
          refine ⟨H2.out, ?_⟩
          simp only [List.setIfInBounds_toArray, List.set_cons_zero, List.set_cons_succ]
          refine wpAnyH_done (by kernel_rfl) ?_ _
          clear hS
          have HX3 := HX2
          have HK3 := HK2
          have H3 := H2
          clear HX2 HK2 H2
          have p3a := cell_of H3.out (i := 3) (v := .int .u32 ak) rfl
          have p3b := cell_of H3.out (i := 5) (v := .int .i64 wi) rfl
          have HHE := hid (hear_any (w := w2.drew) HX3.out.drew ak wi HWL.out)
          go_upto_region 10 with fail
          go_region_held3 (fun w' => w'.cell? ⟨g, 3, none⟩ = some (.int .u32 ak) ∧ w'.cell? ⟨g, 5, none⟩ = some (.int .i64 wi)) ((first | exact ⟨p3a, p3b⟩ | exact HS5.out))
            ((go_at_call 42; refine HHE.out.mono ?_; rintro e w5 ⟨rfl, ⟨vw5, hx5⟩, hm5⟩; have HX5 := hid hx5; have HK5 := hid (HK3.out.trans ((Kp.below (w' := w2.drew) ((Below.refl _ _).drew)).trans (HX3.out.drew.kp hm5))); have hlt := (Array.getElem?_eq_some_iff.1 H3.out).1; have hng : g ≠ p := (fun e => HgS2.out (by rw [e]; exact HX3.out.sp)); have H5 := hid ((hm5.block g hlt hng).trans H3.out); have HS5 := hid (And.intro (cell_of H5.out (i := 3) (v := .int .u32 ak) rfl) (cell_of H5.out (i := 5) (v := .int .i64 wi) rfl)); clear hx5 hm5 hlt hng))
          clear HS5 HHE p3a p3b HX3 HK3
          have p16 := cell_of HX5.out.box (i := 16) (v := .int .i64 2) (by show some (Value.int .i64 (hearS (TC) ak wi).st) = some (.int .i64 2); rw [HST2.out])
          have p18 := cell_of HX5.out.box (i := 18) (v := .bool (hearS TC ak wi).oK) rfl
          have f18 := froz_of HX5.out.box 18
          have p57 := cell_of H5.out (i := 7) (v := .slice a n cp) rfl
          go_wp2_with (first
            | (refine wpList_load_row rfl 30 _ rfl g rfl 30 _ (0, 0) _ H5.out Try.underlying30 rfl sizeSg ?_)
            | (go_at_call 23; refine (HHA.out _).mono ?_; rintro e w6 ⟨rfl, hb6⟩; have HX6 := hid (HX5.out.later hb6); have HK6 := hid (HK5.out.trans (Kp.below hb6)); have p67 := cell_later hb6 p57; have p68 := cell_later hb6 p18; have f68 := froz_of HX6.out.box 18; clear hb6 HHA HX5 HK5 p57 p18 f18 p16 H5))
          have hx7 := HX6.out
          have hk7 := HK6.out
          rw [HRS.out] at hx7
          first | go_end0 | refine bodyPost_ret (results_none rfl _ _ _) rfl ?_
          exact ⟨rfl, S2, ⟨_, _, _, hx7⟩, hk7⟩
        · simp only [Bool.false_or, hn0, decide_false, Bool.not_false, if_true] at hans
          have HRS : Hid ({ hearS (TC) ak wi with oK := true } = RS) := hid hans.symm
          have hnp : 0 < n := by omega
          clear hF hans HHA0 hn0
          have c16 := cell_of HX1.out.box (i := 16) (v := .int .i64 1) (by rw [← HST.out]; rfl)
          have f16 := froz_of HX1.out.box 16
          have c6 := cell_of HX1.out.box (i := 6) (v := .int .u32 ak) (by rw [HAN.out]; rfl)
          have c3 := cell_of H1.out (i := 3) (v := .int .u32 ak) rfl
          obtain ⟨V1, hV1⟩ : ∃ W, W = W1.setCell ⟨p, 16, none⟩ (.int .i64 2) := ⟨_, rfl⟩
          have hs1 := HX1.out.set (c' := { c with st := 2 }) 16 (.int .i64 2) (st_cells _ _ _ _ 2) rfl rfl rfl rfl rfl
          rw [← hV1] at hs1
          have HXV := hid hs1.1
          have HKV := hid ((Kp.below HB1.out).trans hs1.2)
          have HBV := hid ((hs1.2.block (Array.getElem?_eq_some_iff.1 H1.out).1 HgS.out).trans H1.out)
          have hV1' := hV1.symm
          have hnn : (ak != ak) = false := by simp
          clear hV1 hs1
          go_enter Try.func26, Try.ntmps26
          go_upto_region 6 with fail
          go_region
          go_upto_region 8 with fail
          try simp only [Act.put]
          refine wp_region_held_drew (S := fun w' => w'.heap[g]? = some (.cells (sgC f t q ak fl wi mss (.slice a n cp)) 30 (0, 0))) (by kernel_rfl) HBV.out (fun hS => ?_)
          obtain ⟨v0, hv0⟩ : ∃ W, W = V1.drew.drew := ⟨_, rfl⟩
          rw [← hv0] at hS ⊢
          have HX0 := hid (show CnX v0 p S { c with st := 2 } vc vm vw by rw [hv0]; exact HXV.out.later (below_drewN (Below.refl _ _) 2))
          have HK0 := hid (show Kp S w S v0 by rw [hv0]; exact HKV.out.trans (Kp.below (below_drewN (Below.refl _ _) 2)))
          clear hv0 HXV HKV c16 f16 c6 c3 hV1' hnn
          refine nany_take 0 26 (.pointer (some ⟨p, 0, none⟩)) rfl rfl (by kernel_rfl) (by kernel_rfl) (by kernel_rfl) (fun _ _ _ h => h) (Or.inl ⟨by rfl, ?_⟩) hS ?_
          · rintro w' hS'
            first | exact ex_load 30 _ rfl g rfl 30 _ (0, 0) _ hS' Try.underlying30 sizeSg | go_simp
          simp only [List.setIfInBounds_toArray, List.set_cons_zero, List.set_cons_succ]
          refine nany_take 1 27 (.pointer (some ⟨p, 0, none⟩)) rfl rfl (by kernel_rfl) (by kernel_rfl) (by kernel_rfl) (fun _ _ _ h => h) (Or.inl ⟨by rfl, ?_⟩) hS ?_
          · rintro w' hS'
            first | exact ex_load 30 _ rfl g rfl 30 _ (0, 0) _ hS' Try.underlying30 sizeSg | go_simp
          simp only [List.setIfInBounds_toArray, List.set_cons_zero, List.set_cons_succ]
          refine nany_take 2 28 (.pointer (some ⟨p, 0, none⟩)) rfl rfl (by kernel_rfl) (by kernel_rfl) (by kernel_rfl) (fun _ _ _ h => h) (Or.inl ⟨by rfl, ?_⟩) hS ?_
          · rintro w' hS'
            first | exact ex_load 30 _ rfl g rfl 30 _ (0, 0) _ hS' Try.underlying30 sizeSg | go_simp
          simp only [List.setIfInBounds_toArray, List.set_cons_zero, List.set_cons_succ]
          refine nany_take 3 29 (.agg (sgC f t q ak fl wi mss (.slice a n cp))) rfl rfl (by kernel_rfl) (by kernel_rfl) (by kernel_rfl) (fun _ _ _ h => h) (Or.inl ⟨by rfl, ?_⟩) hS ?_
          · rintro w' hS'
            first | exact ex_load 30 _ rfl g rfl 30 _ (0, 0) _ hS' Try.underlying30 sizeSg | go_simp
          simp only [List.setIfInBounds_toArray, List.set_cons_zero, List.set_cons_succ]
          refine nany_one 4 (by kernel_rfl) ?_
          refine nop_callE 30 (f := 41) (args := #[.pointer (some ⟨p, 0, none⟩), .agg (sgC f t q ak fl wi mss (.slice a n cp))]) (R := fun v w' => v = .bool false ∧ ∃ S' vc' vm', CnX w' p S' TC vc' vm' vw ∧ Kp S v0 S' w') rfl (by rfl) rfl (by go_simp) ((HTK.out v0 HX0.out (HBY.out v0 HK0.out)).mono (fun e w' h => ⟨_, h.1, rfl, h.2⟩)) ?_
          rintro v w2 ⟨rfl, S2, vc2, vm2, hx2, hk2⟩
          have H2 := hid ((hk2.block (Array.getElem?_eq_some_iff.1 hS).1 HgS.out).trans hS)
          have HK2 := hid (HK0.out.trans hk2)
          have HX2 := hid hx2
          have HgS2 := hid (hk2.off (Array.getElem?_eq_some_iff.1 hS).1 HgS.out)
          clear hk2 hx2 HK0 HX0
          refine ⟨H2.out, ?_⟩
          simp only [List.setIfInBounds_toArray, List.set_cons_zero, List.set_cons_succ]
          refine wpAnyH_done (by kernel_rfl) ?_ _
          clear hS
          have HX3 := HX2
          have HK3 := HK2
          have H3 := H2
          clear HX2 HK2 H2
          have p3a := cell_of H3.out (i := 3) (v := .int .u32 ak) rfl
          have p3b := cell_of H3.out (i := 5) (v := .int .i64 wi) rfl
          have HHE := hid (hear_any (w := w2.drew) HX3.out.drew ak wi HWL.out)
          go_upto_region 10 with fail
          go_region_held3 (fun w' => w'.cell? ⟨g, 3, none⟩ = some (.int .u32 ak) ∧ w'.cell? ⟨g, 5, none⟩ = some (.int .i64 wi)) ((first | exact ⟨p3a, p3b⟩ | exact HS5.out))
            ((go_at_call 42; refine HHE.out.mono ?_; rintro e w5 ⟨rfl, ⟨vw5, hx5⟩, hm5⟩; have HX5 := hid hx5; have HK5 := hid (HK3.out.trans ((Kp.below (w' := w2.drew) ((Below.refl _ _).drew)).trans (HX3.out.drew.kp hm5))); have hlt := (Array.getElem?_eq_some_iff.1 H3.out).1; have hng : g ≠ p := (fun e => HgS2.out (by rw [e]; exact HX3.out.sp)); have H5 := hid ((hm5.block g hlt hng).trans H3.out); have HS5 := hid (And.intro (cell_of H5.out (i := 3) (v := .int .u32 ak) rfl) (cell_of H5.out (i := 5) (v := .int .i64 wi) rfl)); clear hx5 hm5 hlt hng))
          clear HS5 HHE p3a p3b HX3 HK3
          have p16 := cell_of HX5.out.box (i := 16) (v := .int .i64 2) (by show some (Value.int .i64 (hearS (TC) ak wi).st) = some (.int .i64 2); rw [HST2.out])
          have p18 := cell_of HX5.out.box (i := 18) (v := .bool (hearS TC ak wi).oK) rfl
          have f18 := froz_of HX5.out.box 18
          have p57 := cell_of H5.out (i := 7) (v := .slice a n cp) rfl
          go_wp2_with (first
            | (refine wpList_load_row rfl 30 _ rfl g rfl 30 _ (0, 0) _ H5.out Try.underlying30 rfl sizeSg ?_)
            | (go_at_call 23; refine (HHA.out _).mono ?_; rintro e w6 ⟨rfl, hb6⟩; have HX6 := hid (HX5.out.later hb6); have HK6 := hid (HK5.out.trans (Kp.below hb6)); have p67 := cell_later hb6 p57; have p68 := cell_later hb6 p18; have f68 := froz_of HX6.out.box 18; clear hb6 HHA HX5 HK5 p57 p18 f18 p16 H5))
          have hs7 := HX6.out.set (c' := { hearS TC ak wi with oK := true }) 18 (.bool true) (oK_cells _ _ _ _) rfl rfl rfl rfl rfl
          have hx7 := hs7.1
          have hk7 := HK6.out.trans hs7.2
          rw [HRS.out] at hx7
          first | go_end0 | refine bodyPost_ret (results_none rfl _ _ _) rfl ?_
          exact ⟨rfl, S2, ⟨_, _, _, hx7⟩, hk7⟩
  · have HST := hid hs1
    have HC2 : Hid (c = { c with st := 2 }) := hid (by obtain ⟨_, _, _, _, _, _, _, _, _, _, _, _, _, _, _, _, _, _, st0, _, _, _⟩ := c; simp only at hs1; subst hs1; rfl)
    clear hs1
    cases TB with
    | true =>
      simp only [if_true] at hans
      have HST2 : Hid ((hearS ({ TC with st := 3 }) ak wi).st = 3) := hid (by rw [hST2])
      have HWL : Hid (({ TC with st := 3 }).waits.length ≤ 900000) := hid hTW
      clear hST2 hTW
      cases hF : hasB fl 1 with
      | true =>
        have HHA := HHA0
        rw [hF] at HHA hans
        simp only [Bool.true_or, if_true] at hans
        have HRS : Hid ({ hearS ({ TC with st := 3 }) ak wi with oK := true } = RS) := hid hans.symm
        clear hF hans HHA0
        have c16 := cell_of HX1.out.box (i := 16) (v := .int .i64 2) (by rw [← HST.out]; rfl)
        have HXV : Hid (CnX W1 p S { c with st := 2 } vc vm vw) := hid (by rw [← HC2.out]; exact HX1.out)
        have HKV := hid (Kp.below (S := S) HB1.out)
        have HBV := H1
        go_enter Try.func26, Try.ntmps26
        go_upto_region 8 with fail
        try simp only [Act.put]
        refine wp_region_held_drew (S := fun w' => w'.heap[g]? = some (.cells (sgC f t q ak fl wi mss (.slice a n cp)) 30 (0, 0))) (by kernel_rfl) HBV.out (fun hS => ?_)
        obtain ⟨v0, hv0⟩ : ∃ W, W = W1.drew := ⟨_, rfl⟩
        rw [← hv0] at hS ⊢
        have HX0 := hid (show CnX v0 p S { c with st := 2 } vc vm vw by rw [hv0]; exact HXV.out.later (below_drewN (Below.refl _ _) 1))
        have HK0 := hid (show Kp S w S v0 by rw [hv0]; exact HKV.out.trans (Kp.below (below_drewN (Below.refl _ _) 1)))
        clear hv0 HXV HKV c16
        refine nany_take 0 26 (.pointer (some ⟨p, 0, none⟩)) rfl rfl (by kernel_rfl) (by kernel_rfl) (by kernel_rfl) (fun _ _ _ h => h) (Or.inl ⟨by rfl, ?_⟩) hS ?_
        · rintro w' hS'
          first | exact ex_load 30 _ rfl g rfl 30 _ (0, 0) _ hS' Try.underlying30 sizeSg | go_simp
        simp only [List.setIfInBounds_toArray, List.set_cons_zero, List.set_cons_succ]
        refine nany_take 1 27 (.pointer (some ⟨p, 0, none⟩)) rfl rfl (by kernel_rfl) (by kernel_rfl) (by kernel_rfl) (fun _ _ _ h => h) (Or.inl ⟨by rfl, ?_⟩) hS ?_
        · rintro w' hS'
          first | exact ex_load 30 _ rfl g rfl 30 _ (0, 0) _ hS' Try.underlying30 sizeSg | go_simp
        simp only [List.setIfInBounds_toArray, List.set_cons_zero, List.set_cons_succ]
        refine nany_take 2 28 (.pointer (some ⟨p, 0, none⟩)) rfl rfl (by kernel_rfl) (by kernel_rfl) (by kernel_rfl) (fun _ _ _ h => h) (Or.inl ⟨by rfl, ?_⟩) hS ?_
        · rintro w' hS'
          first | exact ex_load 30 _ rfl g rfl 30 _ (0, 0) _ hS' Try.underlying30 sizeSg | go_simp
        simp only [List.setIfInBounds_toArray, List.set_cons_zero, List.set_cons_succ]
        refine nany_take 3 29 (.agg (sgC f t q ak fl wi mss (.slice a n cp))) rfl rfl (by kernel_rfl) (by kernel_rfl) (by kernel_rfl) (fun _ _ _ h => h) (Or.inl ⟨by rfl, ?_⟩) hS ?_
        · rintro w' hS'
          first | exact ex_load 30 _ rfl g rfl 30 _ (0, 0) _ hS' Try.underlying30 sizeSg | go_simp
        simp only [List.setIfInBounds_toArray, List.set_cons_zero, List.set_cons_succ]
        refine nany_one 4 (by kernel_rfl) ?_
        refine nop_callE 30 (f := 41) (args := #[.pointer (some ⟨p, 0, none⟩), .agg (sgC f t q ak fl wi mss (.slice a n cp))]) (R := fun v w' => v = .bool true ∧ ∃ S' vc' vm', CnX w' p S' TC vc' vm' vw ∧ Kp S v0 S' w') rfl (by rfl) rfl (by go_simp) ((HTK.out v0 HX0.out (HBY.out v0 HK0.out)).mono (fun e w' h => ⟨_, h.1, rfl, h.2⟩)) ?_
        rintro v w2 ⟨rfl, S2, vc2, vm2, hx2, hk2⟩
        have H2 := hid ((hk2.block (Array.getElem?_eq_some_iff.1 hS).1 HgS.out).trans hS)
        have HK2 := hid (HK0.out.trans hk2)
        have HX2 := hid hx2
        have HgS2 := hid (hk2.off (Array.getElem?_eq_some_iff.1 hS).1 HgS.out)
        clear hk2 hx2 HK0 HX0
        refine ⟨H2.out, ?_⟩
        simp only [List.setIfInBounds_toArray, List.set_cons_zero, List.set_cons_succ]
        refine wpAnyH_done (by kernel_rfl) ?_ _
        clear hS
        have c16 := cell_of HX2.out.box (i := 16) (v := .int .i64 2) (by rw [← HTS.out]; rfl)
        have f16 := froz_of HX2.out.box 16
        obtain ⟨w3, hw3⟩ : ∃ W, W = w2.setCell ⟨p, 16, none⟩ (.int .i64 3) := ⟨_, rfl⟩
        have hs3 := HX2.out.set (c' := { TC with st := 3 }) 16 (.int .i64 3) (st_cells _ _ _ _ 3) rfl rfl rfl rfl rfl
        rw [← hw3] at hs3
        have HX3 := hid hs3.1
        have HK3 := hid (HK2.out.trans hs3.2)
        have H3 := hid ((hs3.2.block (Array.getElem?_eq_some_iff.1 H2.out).1 HgS2.out).trans H2.out)
        have hw3' := hw3.symm
        clear hw3 hs3 HX2 HK2 H2
        have p3a := cell_of H3.out (i := 3) (v := .int .u32 ak) rfl
        have p3b := cell_of H3.out (i := 5) (v := .int .i64 wi) rfl
        have HHE := hid (hear_any (w := w3.drew) HX3.out.drew ak wi HWL.out)
        go_upto_region 10 with fail
        go_region_held3 (fun w' => w'.cell? ⟨g, 3, none⟩ = some (.int .u32 ak) ∧ w'.cell? ⟨g, 5, none⟩ = some (.int .i64 wi)) ((first | exact ⟨p3a, p3b⟩ | exact HS5.out))
          ((go_at_call 42; refine HHE.out.mono ?_; rintro e w5 ⟨rfl, ⟨vw5, hx5⟩, hm5⟩; have HX5 := hid hx5; have HK5 := hid (HK3.out.trans ((Kp.below (w' := w3.drew) ((Below.refl _ _).drew)).trans (HX3.out.drew.kp hm5))); have hlt := (Array.getElem?_eq_some_iff.1 H3.out).1; have hng : g ≠ p := (fun e => HgS2.out (by rw [e]; exact HX3.out.sp)); have H5 := hid ((hm5.block g hlt hng).trans H3.out); have HS5 := hid (And.intro (cell_of H5.out (i := 3) (v := .int .u32 ak) rfl) (cell_of H5.out (i := 5) (v := .int .i64 wi) rfl)); clear hx5 hm5 hlt hng))
        clear HS5 HHE p3a p3b HX3 HK3 c16 f16
        have p16 := cell_of HX5.out.box (i := 16) (v := .int .i64 3) (by show some (Value.int .i64 (hearS ({ TC with st := 3 }) ak wi).st) = some (.int .i64 3); rw [HST2.out])
        have p18 := cell_of HX5.out.box (i := 18) (v := .bool (hearS { TC with st := 3 } ak wi).oK) rfl
        have f18 := froz_of HX5.out.box 18
        have p57 := cell_of H5.out (i := 7) (v := .slice a n cp) rfl
        go_wp2_with (first
          | (refine wpList_load_row rfl 30 _ rfl g rfl 30 _ (0, 0) _ H5.out Try.underlying30 rfl sizeSg ?_)
          | (go_at_call 23; refine (HHA.out _).mono ?_; rintro e w6 ⟨rfl, hb6⟩; have HX6 := hid (HX5.out.later hb6); have HK6 := hid (HK5.out.trans (Kp.below hb6)); have p67 := cell_later hb6 p57; have p68 := cell_later hb6 p18; have f68 := froz_of HX6.out.box 18; clear hb6 HHA HX5 HK5 p57 p18 f18 p16 H5))
        have hs7 := HX6.out.set (c' := { hearS { TC with st := 3 } ak wi with oK := true }) 18 (.bool true) (oK_cells _ _ _ _) rfl rfl rfl rfl rfl
        have hx7 := hs7.1
        have hk7 := HK6.out.trans hs7.2
        rw [HRS.out] at hx7
        first | go_end0 | refine bodyPost_ret (results_none rfl _ _ _) rfl ?_
        exact ⟨rfl, S2, ⟨_, _, _, hx7⟩, hk7⟩
      | false =>
        have HHA := HHA0
        rw [hF] at HHA hans
        by_cases hn0 : n = 0
        · simp only [Bool.false_or, hn0, decide_true, Bool.not_true, Bool.false_eq_true, if_false] at hans
          have hnp : ¬ (0 < n) := by omega
          have HRS : Hid (hearS ({ TC with st := 3 }) ak wi = RS) := hid hans.symm
          clear hF hans HHA0 hn0
          have c16 := cell_of HX1.out.box (i := 16) (v := .int .i64 2) (by rw [← HST.out]; rfl)
          have HXV : Hid (CnX W1 p S { c with st := 2 } vc vm vw) := hid (by rw [← HC2.out]; exact HX1.out)
          have HKV := hid (Kp.below (S := S) HB1.out)
          have HBV := H1
          go_enter Try.func26, Try.ntmps26
          go_upto_region 8 with fail
          try simp only [Act.put]
          refine wp_region_held_drew (S := fun w' => w'.heap[g]? = some (.cells (sgC f t q ak fl wi mss (.slice a n cp)) 30 (0, 0))) (by kernel_rfl) HBV.out (fun hS => ?_)
          obtain ⟨v0, hv0⟩ : ∃ W, W = W1.drew := ⟨_, rfl⟩
          rw [← hv0] at hS ⊢
          have HX0 := hid (show CnX v0 p S { c with st := 2 } vc vm vw by rw [hv0]; exact HXV.out.later (below_drewN (Below.refl _ _) 1))
          have HK0 := hid (show Kp S w S v0 by rw [hv0]; exact HKV.out.trans (Kp.below (below_drewN (Below.refl _ _) 1)))
          clear hv0 HXV HKV c16
          refine nany_take 0 26 (.pointer (some ⟨p, 0, none⟩)) rfl rfl (by kernel_rfl) (by kernel_rfl) (by kernel_rfl) (fun _ _ _ h => h) (Or.inl ⟨by rfl, ?_⟩) hS ?_
          · rintro w' hS'
            first | exact ex_load 30 _ rfl g rfl 30 _ (0, 0) _ hS' Try.underlying30 sizeSg | go_simp
          simp only [List.setIfInBounds_toArray, List.set_cons_zero, List.set_cons_succ]
          refine nany_take 1 27 (.pointer (some ⟨p, 0, none⟩)) rfl rfl (by kernel_rfl) (by kernel_rfl) (by kernel_rfl) (fun _ _ _ h => h) (Or.inl ⟨by rfl, ?_⟩) hS ?_
          · rintro w' hS'
            first | exact ex_load 30 _ rfl g rfl 30 _ (0, 0) _ hS' Try.underlying30 sizeSg | go_simp
          simp only [List.setIfInBounds_toArray, List.set_cons_zero, List.set_cons_succ]
          refine nany_take 2 28 (.pointer (some ⟨p, 0, none⟩)) rfl rfl (by kernel_rfl) (by kernel_rfl) (by kernel_rfl) (fun _ _ _ h => h) (Or.inl ⟨by rfl, ?_⟩) hS ?_
          · rintro w' hS'
            first | exact ex_load 30 _ rfl g rfl 30 _ (0, 0) _ hS' Try.underlying30 sizeSg | go_simp
          simp only [List.setIfInBounds_toArray, List.set_cons_zero, List.set_cons_succ]
          refine nany_take 3 29 (.agg (sgC f t q ak fl wi mss (.slice a n cp))) rfl rfl (by kernel_rfl) (by kernel_rfl) (by kernel_rfl) (fun _ _ _ h => h) (Or.inl ⟨by rfl, ?_⟩) hS ?_
          · rintro w' hS'
            first | exact ex_load 30 _ rfl g rfl 30 _ (0, 0) _ hS' Try.underlying30 sizeSg | go_simp
          simp only [List.setIfInBounds_toArray, List.set_cons_zero, List.set_cons_succ]
          refine nany_one 4 (by kernel_rfl) ?_
          refine nop_callE 30 (f := 41) (args := #[.pointer (some ⟨p, 0, none⟩), .agg (sgC f t q ak fl wi mss (.slice a n cp))]) (R := fun v w' => v = .bool true ∧ ∃ S' vc' vm', CnX w' p S' TC vc' vm' vw ∧ Kp S v0 S' w') rfl (by rfl) rfl (by go_simp) ((HTK.out v0 HX0.out (HBY.out v0 HK0.out)).mono (fun e w' h => ⟨_, h.1, rfl, h.2⟩)) ?_
          rintro v w2 ⟨rfl, S2, vc2, vm2, hx2, hk2⟩
          have H2 := hid ((hk2.block (Array.getElem?_eq_some_iff.1 hS).1 HgS.out).trans hS)
          have HK2 := hid (HK0.out.trans hk2)
          have HX2 := hid hx2
          have HgS2 := hid (hk2.off (Array.getElem?_eq_some_iff.1 hS).1 HgS.out)
          clear hk2 hx2 HK0 HX0
          refine ⟨H2.out, ?_⟩
          simp only [List.setIfInBounds_toArray, List.set_cons_zero, List.set_cons_succ]
          refine wpAnyH_done (by kernel_rfl) ?_ _
          clear hS
          have c16 := cell_of HX2.out.box (i := 16) (v := .int .i64 2) (by rw [← HTS.out]; rfl)
          have f16 := froz_of HX2.out.box 16
          obtain ⟨w3, hw3⟩ : ∃ W, W = w2.setCell ⟨p, 16, none⟩ (.int .i64 3) := ⟨_, rfl⟩
          have hs3 := HX2.out.set (c' := { TC with st := 3 }) 16 (.int .i64 3) (st_cells _ _ _ _ 3) rfl rfl rfl rfl rfl
          rw [← hw3] at hs3
          have HX3 := hid hs3.1
          have HK3 := hid (HK2.out.trans hs3.2)
          have H3 := hid ((hs3.2.block (Array.getElem?_eq_some_iff.1 H2.out).1 HgS2.out).trans H2.out)
          have hw3' := hw3.symm
          clear hw3 hs3 HX2 HK2 H2
          have p3a := cell_of H3.out (i := 3) (v := .int .u32 ak) rfl
          have p3b := cell_of H3.out (i := 5) (v := .int .i64 wi) rfl
          have HHE := hid (hear_any (w := w3.drew) HX3.out.drew ak wi HWL.out)
          go_upto_region 10 with fail
          go_region_held3 (fun w' => w'.cell? ⟨g, 3, none⟩ = some (.int .u32 ak) ∧ w'.cell? ⟨g, 5, none⟩ = some (.int .i64 wi)) ((first | exact ⟨p3a, p3b⟩ | exact HS5.out))
            ((go_at_call 42; refine HHE.out.mono ?_; rintro e w5 ⟨rfl, ⟨vw5, hx5⟩, hm5⟩; have HX5 := hid hx5; have HK5 := hid (HK3.out.trans ((Kp.below (w' := w3.drew) ((Below.refl _ _).drew)).trans (HX3.out.drew.kp hm5))); have hlt := (Array.getElem?_eq_some_iff.1 H3.out).1; have hng : g ≠ p := (fun e => HgS2.out (by rw [e]; exact HX3.out.sp)); have H5 := hid ((hm5.block g hlt hng).trans H3.out); have HS5 := hid (And.intro (cell_of H5.out (i := 3) (v := .int .u32 ak) rfl) (cell_of H5.out (i := 5) (v := .int .i64 wi) rfl)); clear hx5 hm5 hlt hng))
          clear HS5 HHE p3a p3b HX3 HK3 c16 f16
          have p16 := cell_of HX5.out.box (i := 16) (v := .int .i64 3) (by show some (Value.int .i64 (hearS ({ TC with st := 3 }) ak wi).st) = some (.int .i64 3); rw [HST2.out])
          have p18 := cell_of HX5.out.box (i := 18) (v := .bool (hearS { TC with st := 3 } ak wi).oK) rfl
          have f18 := froz_of HX5.out.box 18
          have p57 := cell_of H5.out (i := 7) (v := .slice a n cp) rfl
          go_wp2_with (first
            | (refine wpList_load_row rfl 30 _ rfl g rfl 30 _ (0, 0) _ H5.out Try.underlying30 rfl sizeSg ?_)
            | (go_at_call 23; refine (HHA.out _).mono ?_; rintro e w6 ⟨rfl, hb6⟩; have HX6 := hid (HX5.out.later hb6); have HK6 := hid (HK5.out.trans (Kp.below hb6)); have p67 := cell_later hb6 p57; have p68 := cell_later hb6 p18; have f68 := froz_of HX6.out.box 18; clear hb6 HHA HX5 HK5 p57 p18 f18 p16 H5))
          have hx7 := HX6.out
          have hk7 := HK6.out
          rw [HRS.out] at hx7
          first | go_end0 | refine bodyPost_ret (results_none rfl _ _ _) rfl ?_
          exact ⟨rfl, S2, ⟨_, _, _, hx7⟩, hk7⟩
        · simp only [Bool.false_or, hn0, decide_false, Bool.not_false, if_true] at hans
          have HRS : Hid ({ hearS ({ TC with st := 3 }) ak wi with oK := true } = RS) := hid hans.symm
          have hnp : 0 < n := by omega
          clear hF hans HHA0 hn0
          have c16 := cell_of HX1.out.box (i := 16) (v := .int .i64 2) (by rw [← HST.out]; rfl)
          have HXV : Hid (CnX W1 p S { c with st := 2 } vc vm vw) := hid (by rw [← HC2.out]; exact HX1.out)
          have HKV := hid (Kp.below (S := S) HB1.out)
          have HBV := H1
          go_enter Try.func26, Try.ntmps26
          go_upto_region 8 with fail
          try simp only [Act.put]
          refine wp_region_held_drew (S := fun w' => w'.heap[g]? = some (.cells (sgC f t q ak fl wi mss (.slice a n cp)) 30 (0, 0))) (by kernel_rfl) HBV.out (fun hS => ?_)
          obtain ⟨v0, hv0⟩ : ∃ W, W = W1.drew := ⟨_, rfl⟩
          rw [← hv0] at hS ⊢
          have HX0 := hid (show CnX v0 p S { c with st := 2 } vc vm vw by rw [hv0]; exact HXV.out.later (below_drewN (Below.refl _ _) 1))
          have HK0 := hid (show Kp S w S v0 by rw [hv0]; exact HKV.out.trans (Kp.below (below_drewN (Below.refl _ _) 1)))
          clear hv0 HXV HKV c16
          refine nany_take 0 26 (.pointer (some ⟨p, 0, none⟩)) rfl rfl (by kernel_rfl) (by kernel_rfl) (by kernel_rfl) (fun _ _ _ h => h) (Or.inl ⟨by rfl, ?_⟩) hS ?_
          · rintro w' hS'
            first | exact ex_load 30 _ rfl g rfl 30 _ (0, 0) _ hS' Try.underlying30 sizeSg | go_simp
          simp only [List.setIfInBounds_toArray, List.set_cons_zero, List.set_cons_succ]
          refine nany_take 1 27 (.pointer (some ⟨p, 0, none⟩)) rfl rfl (by kernel_rfl) (by kernel_rfl) (by kernel_rfl) (fun _ _ _ h => h) (Or.inl ⟨by rfl, ?_⟩) hS ?_
          · rintro w' hS'
            first | exact ex_load 30 _ rfl g rfl 30 _ (0, 0) _ hS' Try.underlying30 sizeSg | go_simp
          simp only [List.setIfInBounds_toArray, List.set_cons_zero, List.set_cons_succ]
          refine nany_take 2 28 (.pointer (some ⟨p, 0, none⟩)) rfl rfl (by kernel_rfl) (by kernel_rfl) (by kernel_rfl) (fun _ _ _ h => h) (Or.inl ⟨by rfl, ?_⟩) hS ?_
          · rintro w' hS'
            first | exact ex_load 30 _ rfl g rfl 30 _ (0, 0) _ hS' Try.underlying30 sizeSg | go_simp
          simp only [List.setIfInBounds_toArray, List.set_cons_zero, List.set_cons_succ]
          refine nany_take 3 29 (.agg (sgC f t q ak fl wi mss (.slice a n cp))) rfl rfl (by kernel_rfl) (by kernel_rfl) (by kernel_rfl) (fun _ _ _ h => h) (Or.inl ⟨by rfl, ?_⟩) hS ?_
          · rintro w' hS'
            first | exact ex_load 30 _ rfl g rfl 30 _ (0, 0) _ hS' Try.underlying30 sizeSg | go_simp
          simp only [List.setIfInBounds_toArray, List.set_cons_zero, List.set_cons_succ]
          refine nany_one 4 (by kernel_rfl) ?_
          refine nop_callE 30 (f := 41) (args := #[.pointer (some ⟨p, 0, none⟩), .agg (sgC f t q ak fl wi mss (.slice a n cp))]) (R := fun v w' => v = .bool true ∧ ∃ S' vc' vm', CnX w' p S' TC vc' vm' vw ∧ Kp S v0 S' w') rfl (by rfl) rfl (by go_simp) ((HTK.out v0 HX0.out (HBY.out v0 HK0.out)).mono (fun e w' h => ⟨_, h.1, rfl, h.2⟩)) ?_
          rintro v w2 ⟨rfl, S2, vc2, vm2, hx2, hk2⟩
          have H2 := hid ((hk2.block (Array.getElem?_eq_some_iff.1 hS).1 HgS.out).trans hS)
          have HK2 := hid (HK0.out.trans hk2)
          have HX2 := hid hx2
          have HgS2 := hid (hk2.off (Array.getElem?_eq_some_iff.1 hS).1 HgS.out)
          clear hk2 hx2 HK0 HX0
          refine ⟨H2.out, ?_⟩
          simp only [List.setIfInBounds_toArray, List.set_cons_zero, List.set_cons_succ]
          refine wpAnyH_done (by kernel_rfl) ?_ _
          clear hS
          have c16 := cell_of HX2.out.box (i := 16) (v := .int .i64 2) (by rw [← HTS.out]; rfl)
          have f16 := froz_of HX2.out.box 16
          obtain ⟨w3, hw3⟩ : ∃ W, W = w2.setCell ⟨p, 16, none⟩ (.int .i64 3) := ⟨_, rfl⟩
          have hs3 := HX2.out.set (c' := { TC with st := 3 }) 16 (.int .i64 3) (st_cells _ _ _ _ 3) rfl rfl rfl rfl rfl
          rw [← hw3] at hs3
          have HX3 := hid hs3.1
          have HK3 := hid (HK2.out.trans hs3.2)
          have H3 := hid ((hs3.2.block (Array.getElem?_eq_some_iff.1 H2.out).1 HgS2.out).trans H2.out)
          have hw3' := hw3.symm
          clear hw3 hs3 HX2 HK2 H2
          have p3a := cell_of H3.out (i := 3) (v := .int .u32 ak) rfl
          have p3b := cell_of H3.out (i := 5) (v := .int .i64 wi) rfl
          have HHE := hid (hear_any (w := w3.drew) HX3.out.drew ak wi HWL.out)
          go_upto_region 10 with fail
          go_region_held3 (fun w' => w'.cell? ⟨g, 3, none⟩ = some (.int .u32 ak) ∧ w'.cell? ⟨g, 5, none⟩ = some (.int .i64 wi)) ((first | exact ⟨p3a, p3b⟩ | exact HS5.out))
            ((go_at_call 42; refine HHE.out.mono ?_; rintro e w5 ⟨rfl, ⟨vw5, hx5⟩, hm5⟩; have HX5 := hid hx5; have HK5 := hid (HK3.out.trans ((Kp.below (w' := w3.drew) ((Below.refl _ _).drew)).trans (HX3.out.drew.kp hm5))); have hlt := (Array.getElem?_eq_some_iff.1 H3.out).1; have hng : g ≠ p := (fun e => HgS2.out (by rw [e]; exact HX3.out.sp)); have H5 := hid ((hm5.block g hlt hng).trans H3.out); have HS5 := hid (And.intro (cell_of H5.out (i := 3) (v := .int .u32 ak) rfl) (cell_of H5.out (i := 5) (v := .int .i64 wi) rfl)); clear hx5 hm5 hlt hng))
          clear HS5 HHE p3a p3b HX3 HK3 c16 f16
          have p16 := cell_of HX5.out.box (i := 16) (v := .int .i64 3) (by show some (Value.int .i64 (hearS ({ TC with st := 3 }) ak wi).st) = some (.int .i64 3); rw [HST2.out])
          have p18 := cell_of HX5.out.box (i := 18) (v := .bool (hearS { TC with st := 3 } ak wi).oK) rfl
          have f18 := froz_of HX5.out.box 18
          have p57 := cell_of H5.out (i := 7) (v := .slice a n cp) rfl
          go_wp2_with (first
            | (refine wpList_load_row rfl 30 _ rfl g rfl 30 _ (0, 0) _ H5.out Try.underlying30 rfl sizeSg ?_)
            | (go_at_call 23; refine (HHA.out _).mono ?_; rintro e w6 ⟨rfl, hb6⟩; have HX6 := hid (HX5.out.later hb6); have HK6 := hid (HK5.out.trans (Kp.below hb6)); have p67 := cell_later hb6 p57; have p68 := cell_later hb6 p18; have f68 := froz_of HX6.out.box 18; clear hb6 HHA HX5 HK5 p57 p18 f18 p16 H5))
          have hs7 := HX6.out.set (c' := { hearS { TC with st := 3 } ak wi with oK := true }) 18 (.bool true) (oK_cells _ _ _ _) rfl rfl rfl rfl rfl
          have hx7 := hs7.1
          have hk7 := HK6.out.trans hs7.2
          rw [HRS.out] at hx7
          first | go_end0 | refine bodyPost_ret (results_none rfl _ _ _) rfl ?_
          exact ⟨rfl, S2, ⟨_, _, _, hx7⟩, hk7⟩
    | false =>
      simp only [Bool.false_eq_true, if_false] at hans
      have HST2 : Hid ((hearS (TC) ak wi).st = 2) := hid (by rw [hST2]; exact HTS.out)
      have HWL : Hid ((TC).waits.length ≤ 900000) := hid hTW
      clear hST2 hTW
      cases hF : hasB fl 1 with
      | true =>
        have HHA := HHA0
        rw [hF] at HHA hans
        simp only [Bool.true_or, if_true] at hans
        have HRS : Hid ({ hearS (TC) ak wi with oK := true } = RS) := hid hans.symm
        clear hF hans HHA0
        have c16 := cell_of HX1.out.box (i := 16) (v := .int .i64 2) (by rw [← HST.out]; rfl)
        have HXV : Hid (CnX W1 p S { c with st := 2 } vc vm vw) := hid (by rw [← HC2.out]; exact HX1.out)
        have HKV := hid (Kp.below (S := S) HB1.out)
        have HBV := H1
        go_enter Try.func26, Try.ntmps26
        go_upto_region 8 with fail
        try simp only [Act.put]
        refine wp_region_held_drew (S := fun w' => w'.heap[g]? = some (.cells (sgC f t q ak fl wi mss (.slice a n cp)) 30 (0, 0))) (by kernel_rfl) HBV.out (fun hS => ?_)
        obtain ⟨v0, hv0⟩ : ∃ W, W = W1.drew := ⟨_, rfl⟩
        rw [← hv0] at hS ⊢
        have HX0 := hid (show CnX v0 p S { c with st := 2 } vc vm vw by rw [hv0]; exact HXV.out.later (below_drewN (Below.refl _ _) 1))
        have HK0 := hid (show Kp S w S v0 by rw [hv0]; exact HKV.out.trans (Kp.below (below_drewN (Below.refl _ _) 1)))
        clear hv0 HXV HKV c16
        refine nany_take 0 26 (.pointer (some ⟨p, 0, none⟩)) rfl rfl (by kernel_rfl) (by kernel_rfl) (by kernel_rfl) (fun _ _ _ h => h) (Or.inl ⟨by rfl, ?_⟩) hS ?_
        · rintro w' hS'
          first | exact ex_load 30 _ rfl g rfl 30 _ (0, 0) _ hS' Try.underlying30 sizeSg | go_simp
        simp only [List.setIfInBounds_toArray, List.set_cons_zero, List.set_cons_succ]
        refine nany_take 1 27 (.pointer (some ⟨p, 0, none⟩)) rfl rfl (by kernel_rfl) (by kernel_rfl) (by kernel_rfl) (fun _ _ _ h => h) (Or.inl ⟨by rfl, ?_⟩) hS ?_
        · rintro w' hS'
          first | exact ex_load 30 _ rfl g rfl 30 _ (0, 0) _ hS' Try.underlying30 sizeSg | go_simp
        simp only [List.setIfInBounds_toArray, List.set_cons_zero, List.set_cons_succ]
        refine nany_take 2 28 (.pointer (some ⟨p, 0, none⟩)) rfl rfl (by kernel_rfl) (by kernel_rfl) (by kernel_rfl) (fun _ _ _ h => h) (Or.inl ⟨by rfl, ?_⟩) hS ?_
        · rintro w' hS'
          first | exact ex_load 30 _ rfl g rfl 30 _ (0, 0) _ hS' Try.underlying30 sizeSg | go_simp
        simp only [List.setIfInBounds_toArray, List.set_cons_zero, List.set_cons_succ]
        refine nany_take 3 29 (.agg (sgC f t q ak fl wi mss (.slice a n cp))) rfl rfl (by kernel_rfl) (by kernel_rfl) (by kernel_rfl) (fun _ _ _ h => h) (Or.inl ⟨by rfl, ?_⟩) hS ?_
        · rintro w' hS'
          first | exact ex_load 30 _ rfl g rfl 30 _ (0, 0) _ hS' Try.underlying30 sizeSg | go_simp
        simp only [List.setIfInBounds_toArray, List.set_cons_zero, List.set_cons_succ]
        refine nany_one 4 (by kernel_rfl) ?_
        refine nop_callE 30 (f := 41) (args := #[.pointer (some ⟨p, 0, none⟩), .agg (sgC f t q ak fl wi mss (.slice a n cp))]) (R := fun v w' => v = .bool false ∧ ∃ S' vc' vm', CnX w' p S' TC vc' vm' vw ∧ Kp S v0 S' w') rfl (by rfl) rfl (by go_simp) ((HTK.out v0 HX0.out (HBY.out v0 HK0.out)).mono (fun e w' h => ⟨_, h.1, rfl, h.2⟩)) ?_
        rintro v w2 ⟨rfl, S2, vc2, vm2, hx2, hk2⟩
        have H2 := hid ((hk2.block (Array.getElem?_eq_some_iff.1 hS).1 HgS.out).trans hS)
        have HK2 := hid (HK0.out.trans hk2)
        have HX2 := hid hx2
        have HgS2 := hid (hk2.off (Array.getElem?_eq_some_iff.1 hS).1 HgS.out)
        clear hk2 hx2 HK0 HX0
        refine ⟨H2.out, ?_⟩
        simp only [List.setIfInBounds_toArray, List.set_cons_zero, List.set_cons_succ]
        refine wpAnyH_done (by kernel_rfl) ?_ _
        clear hS
        have HX3 := HX2
        have HK3 := HK2
        have H3 := H2
        clear HX2 HK2 H2
        have p3a := cell_of H3.out (i := 3) (v := .int .u32 ak) rfl
        have p3b := cell_of H3.out (i := 5) (v := .int .i64 wi) rfl
        have HHE := hid (hear_any (w := w2.drew) HX3.out.drew ak wi HWL.out)
        go_upto_region 10 with fail
        go_region_held3 (fun w' => w'.cell? ⟨g, 3, none⟩ = some (.int .u32 ak) ∧ w'.cell? ⟨g, 5, none⟩ = some (.int .i64 wi)) ((first | exact ⟨p3a, p3b⟩ | exact HS5.out))
          ((go_at_call 42; refine HHE.out.mono ?_; rintro e w5 ⟨rfl, ⟨vw5, hx5⟩, hm5⟩; have HX5 := hid hx5; have HK5 := hid (HK3.out.trans ((Kp.below (w' := w2.drew) ((Below.refl _ _).drew)).trans (HX3.out.drew.kp hm5))); have hlt := (Array.getElem?_eq_some_iff.1 H3.out).1; have hng : g ≠ p := (fun e => HgS2.out (by rw [e]; exact HX3.out.sp)); have H5 := hid ((hm5.block g hlt hng).trans H3.out); have HS5 := hid (And.intro (cell_of H5.out (i := 3) (v := .int .u32 ak) rfl) (cell_of H5.out (i := 5) (v := .int .i64 wi) rfl)); clear hx5 hm5 hlt hng))
        clear HS5 HHE p3a p3b HX3 HK3
        have p16 := cell_of HX5.out.box (i := 16) (v := .int .i64 2) (by show some (Value.int .i64 (hearS (TC) ak wi).st) = some (.int .i64 2); rw [HST2.out])
        have p18 := cell_of HX5.out.box (i := 18) (v := .bool (hearS TC ak wi).oK) rfl
        have f18 := froz_of HX5.out.box 18
        have p57 := cell_of H5.out (i := 7) (v := .slice a n cp) rfl
        go_wp2_with (first
          | (refine wpList_load_row rfl 30 _ rfl g rfl 30 _ (0, 0) _ H5.out Try.underlying30 rfl sizeSg ?_)
          | (go_at_call 23; refine (HHA.out _).mono ?_; rintro e w6 ⟨rfl, hb6⟩; have HX6 := hid (HX5.out.later hb6); have HK6 := hid (HK5.out.trans (Kp.below hb6)); have p67 := cell_later hb6 p57; have p68 := cell_later hb6 p18; have f68 := froz_of HX6.out.box 18; clear hb6 HHA HX5 HK5 p57 p18 f18 p16 H5))
        have hs7 := HX6.out.set (c' := { hearS TC ak wi with oK := true }) 18 (.bool true) (oK_cells _ _ _ _) rfl rfl rfl rfl rfl
        have hx7 := hs7.1
        have hk7 := HK6.out.trans hs7.2
        rw [HRS.out] at hx7
        first | go_end0 | refine bodyPost_ret (results_none rfl _ _ _) rfl ?_
        exact ⟨rfl, S2, ⟨_, _, _, hx7⟩, hk7⟩
      | false =>
        have HHA := HHA0
        rw [hF] at HHA hans
        by_cases hn0 : n = 0
        · simp only [Bool.false_or, hn0, decide_true, Bool.not_true, Bool.false_eq_true, if_false] at hans
          have hnp : ¬ (0 < n) := by omega
          have HRS : Hid (hearS (TC) ak wi = RS) := hid hans.symm
          clear hF hans HHA0 hn0
          have c16 := cell_of HX1.out.box (i := 16) (v := .int .i64 2) (by rw [← HST.out]; rfl)
          have HXV : Hid (CnX W1 p S { c with st := 2 } vc vm vw) := hid (by rw [← HC2.out]; exact HX1.out)
          have HKV := hid (Kp.below (S := S) HB1.out)
          have HBV := H1
          go_enter Try.func26, Try.ntmps26
          go_upto_region 8 with fail
          try simp only [Act.put]
          refine wp_region_held_drew (S := fun w' => w'.heap[g]? = some (.cells (sgC f t q ak fl wi mss (.slice a n cp)) 30 (0, 0))) (by kernel_rfl) HBV.out (fun hS => ?_)
          obtain ⟨v0, hv0⟩ : ∃ W, W = W1.drew := ⟨_, rfl⟩
          rw [← hv0] at hS ⊢
          have HX0 := hid (show CnX v0 p S { c with st := 2 } vc vm vw by rw [hv0]; exact HXV.out.later (below_drewN (Below.refl _ _) 1))
          have HK0 := hid (show Kp S w S v0 by rw [hv0]; exact HKV.out.trans (Kp.below (below_drewN (Below.refl _ _) 1)))
          clear hv0 HXV HKV c16
          refine nany_take 0 26 (.pointer (some ⟨p, 0, none⟩)) rfl rfl (by kernel_rfl) (by kernel_rfl) (by kernel_rfl) (fun _ _ _ h => h) (Or.inl ⟨by rfl, ?_⟩) hS ?_
          · rintro w' hS'
            first | exact ex_load 30 _ rfl g rfl 30 _ (0, 0) _ hS' Try.underlying30 sizeSg | go_simp
          simp only [List.setIfInBounds_toArray, List.set_cons_zero, List.set_cons_succ]
          refine nany_take 1 27 (.pointer (some ⟨p, 0, none⟩)) rfl rfl (by kernel_rfl) (by kernel_rfl) (by kernel_rfl) (fun _ _ _ h => h) (Or.inl ⟨by rfl, ?_⟩) hS ?_
          · rintro w' hS'
            first | exact ex_load 30 _ rfl g rfl 30 _ (0, 0) _ hS' Try.underlying30 sizeSg | go_simp
          simp only [List.setIfInBounds_toArray, List.set_cons_zero, List.set_cons_succ]
          refine nany_take 2 28 (.pointer (some ⟨p, 0, none⟩)) rfl rfl (by kernel_rfl) (by kernel_rfl) (by kernel_rfl) (fun _ _ _ h => h) (Or.inl ⟨by rfl, ?_⟩) hS ?_
          · rintro w' hS'
            first | exact ex_load 30 _ rfl g rfl 30 _ (0, 0) _ hS' Try.underlying30 sizeSg | go_simp
          simp only [List.setIfInBounds_toArray, List.set_cons_zero, List.set_cons_succ]
          refine nany_take 3 29 (.agg (sgC f t q ak fl wi mss (.slice a n cp))) rfl rfl (by kernel_rfl) (by kernel_rfl) (by kernel_rfl) (fun _ _ _ h => h) (Or.inl ⟨by rfl, ?_⟩) hS ?_
          · rintro w' hS'
            first | exact ex_load 30 _ rfl g rfl 30 _ (0, 0) _ hS' Try.underlying30 sizeSg | go_simp
          simp only [List.setIfInBounds_toArray, List.set_cons_zero, List.set_cons_succ]
          refine nany_one 4 (by kernel_rfl) ?_
          refine nop_callE 30 (f := 41) (args := #[.pointer (some ⟨p, 0, none⟩), .agg (sgC f t q ak fl wi mss (.slice a n cp))]) (R := fun v w' => v = .bool false ∧ ∃ S' vc' vm', CnX w' p S' TC vc' vm' vw ∧ Kp S v0 S' w') rfl (by rfl) rfl (by go_simp) ((HTK.out v0 HX0.out (HBY.out v0 HK0.out)).mono (fun e w' h => ⟨_, h.1, rfl, h.2⟩)) ?_
          rintro v w2 ⟨rfl, S2, vc2, vm2, hx2, hk2⟩
          have H2 := hid ((hk2.block (Array.getElem?_eq_some_iff.1 hS).1 HgS.out).trans hS)
          have HK2 := hid (HK0.out.trans hk2)
          have HX2 := hid hx2
          have HgS2 := hid (hk2.off (Array.getElem?_eq_some_iff.1 hS).1 HgS.out)
          clear hk2 hx2 HK0 HX0
          refine ⟨H2.out, ?_⟩
          simp only [List.setIfInBounds_toArray, List.set_cons_zero, List.set_cons_succ]
          refine wpAnyH_done (by kernel_rfl) ?_ _
          clear hS
          have HX3 := HX2
          have HK3 := HK2
          have H3 := H2
          clear HX2 HK2 H2
          have p3a := cell_of H3.out (i := 3) (v := .int .u32 ak) rfl
          have p3b := cell_of H3.out (i := 5) (v := .int .i64 wi) rfl
          have HHE := hid (hear_any (w := w2.drew) HX3.out.drew ak wi HWL.out)
          go_upto_region 10 with fail
          go_region_held3 (fun w' => w'.cell? ⟨g, 3, none⟩ = some (.int .u32 ak) ∧ w'.cell? ⟨g, 5, none⟩ = some (.int .i64 wi)) ((first | exact ⟨p3a, p3b⟩ | exact HS5.out))
            ((go_at_call 42; refine HHE.out.mono ?_; rintro e w5 ⟨rfl, ⟨vw5, hx5⟩, hm5⟩; have HX5 := hid hx5; have HK5 := hid (HK3.out.trans ((Kp.below (w' := w2.drew) ((Below.refl _ _).drew)).trans (HX3.out.drew.kp hm5))); have hlt := (Array.getElem?_eq_some_iff.1 H3.out).1; have hng : g ≠ p := (fun e => HgS2.out (by rw [e]; exact HX3.out.sp)); have H5 := hid ((hm5.block g hlt hng).trans H3.out); have HS5 := hid (And.intro (cell_of H5.out (i := 3) (v := .int .u32 ak) rfl) (cell_of H5.out (i := 5) (v := .int .i64 wi) rfl)); clear hx5 hm5 hlt hng))
          clear HS5 HHE p3a p3b HX3 HK3
          have p16 := cell_of HX5.out.box (i := 16) (v := .int .i64 2) (by show some (Value.int .i64 (hearS (TC) ak wi).st) = some (.int .i64 2); rw [HST2.out])
          have p18 := cell_of HX5.out.box (i := 18) (v := .bool (hearS TC ak wi).oK) rfl
          have f18 := froz_of HX5.out.box 18
          have p57 := cell_of H5.out (i := 7) (v := .slice a n cp) rfl
          go_wp2_with (first
            | (refine wpList_load_row rfl 30 _ rfl g rfl 30 _ (0, 0) _ H5.out Try.underlying30 rfl sizeSg ?_)
            | (go_at_call 23; refine (HHA.out _).mono ?_; rintro e w6 ⟨rfl, hb6⟩; have HX6 := hid (HX5.out.later hb6); have HK6 := hid (HK5.out.trans (Kp.below hb6)); have p67 := cell_later hb6 p57; have p68 := cell_later hb6 p18; have f68 := froz_of HX6.out.box 18; clear hb6 HHA HX5 HK5 p57 p18 f18 p16 H5))
          have hx7 := HX6.out
          have hk7 := HK6.out
          rw [HRS.out] at hx7
          first | go_end0 | refine bodyPost_ret (results_none rfl _ _ _) rfl ?_
          exact ⟨rfl, S2, ⟨_, _, _, hx7⟩, hk7⟩
        · simp only [Bool.false_or, hn0, decide_false, Bool.not_false, if_true] at hans
          have HRS : Hid ({ hearS (TC) ak wi with oK := true } = RS) := hid hans.symm
          have hnp : 0 < n := by omega
          clear hF hans HHA0 hn0
          have c16 := cell_of HX1.out.box (i := 16) (v := .int .i64 2) (by rw [← HST.out]; rfl)
          have HXV : Hid (CnX W1 p S { c with st := 2 } vc vm vw) := hid (by rw [← HC2.out]; exact HX1.out)
          have HKV := hid (Kp.below (S := S) HB1.out)
          have HBV := H1
          go_enter Try.func26, Try.ntmps26
          go_upto_region 8 with fail
          try simp only [Act.put]
          refine wp_region_held_drew (S := fun w' => w'.heap[g]? = some (.cells (sgC f t q ak fl wi mss (.slice a n cp)) 30 (0, 0))) (by kernel_rfl) HBV.out (fun hS => ?_)
          obtain ⟨v0, hv0⟩ : ∃ W, W = W1.drew := ⟨_, rfl⟩
          rw [← hv0] at hS ⊢
          have HX0 := hid (show CnX v0 p S { c with st := 2 } vc vm vw by rw [hv0]; exact HXV.out.later (below_drewN (Below.refl _ _) 1))
          have HK0 := hid (show Kp S w S v0 by rw [hv0]; exact HKV.out.trans (Kp.below (below_drewN (Below.refl _ _) 1)))
          clear hv0 HXV HKV c16
          refine nany_take 0 26 (.pointer (some ⟨p, 0, none⟩)) rfl rfl (by kernel_rfl) (by kernel_rfl) (by kernel_rfl) (fun _ _ _ h => h) (Or.inl ⟨by rfl, ?_⟩) hS ?_
          · rintro w' hS'
            first | exact ex_load 30 _ rfl g rfl 30 _ (0, 0) _ hS' Try.underlying30 sizeSg | go_simp
          simp only [List.setIfInBounds_toArray, List.set_cons_zero, List.set_cons_succ]
          refine nany_take 1 27 (.pointer (some ⟨p, 0, none⟩)) rfl rfl (by kernel_rfl) (by kernel_rfl) (by kernel_rfl) (fun _ _ _ h => h) (Or.inl ⟨by rfl, ?_⟩) hS ?_
          · rintro w' hS'
            first | exact ex_load 30 _ rfl g rfl 30 _ (0, 0) _ hS' Try.underlying30 sizeSg | go_simp
          simp only [List.setIfInBounds_toArray, List.set_cons_zero, List.set_cons_succ]
          refine nany_take 2 28 (.pointer (some ⟨p, 0, none⟩)) rfl rfl (by kernel_rfl) (by kernel_rfl) (by kernel_rfl) (fun _ _ _ h => h) (Or.inl ⟨by rfl, ?_⟩) hS ?_
          · rintro w' hS'
            first | exact ex_load 30 _ rfl g rfl 30 _ (0, 0) _ hS' Try.underlying30 sizeSg | go_simp
          simp only [List.setIfInBounds_toArray, List.set_cons_zero, List.set_cons_succ]
          refine nany_take 3 29 (.agg (sgC f t q ak fl wi mss (.slice a n cp))) rfl rfl (by kernel_rfl) (by kernel_rfl) (by kernel_rfl) (fun _ _ _ h => h) (Or.inl ⟨by rfl, ?_⟩) hS ?_
          · rintro w' hS'
            first | exact ex_load 30 _ rfl g rfl 30 _ (0, 0) _ hS' Try.underlying30 sizeSg | go_simp
          simp only [List.setIfInBounds_toArray, List.set_cons_zero, List.set_cons_succ]
          refine nany_one 4 (by kernel_rfl) ?_
          refine nop_callE 30 (f := 41) (args := #[.pointer (some ⟨p, 0, none⟩), .agg (sgC f t q ak fl wi mss (.slice a n cp))]) (R := fun v w' => v = .bool false ∧ ∃ S' vc' vm', CnX w' p S' TC vc' vm' vw ∧ Kp S v0 S' w') rfl (by rfl) rfl (by go_simp) ((HTK.out v0 HX0.out (HBY.out v0 HK0.out)).mono (fun e w' h => ⟨_, h.1, rfl, h.2⟩)) ?_
          rintro v w2 ⟨rfl, S2, vc2, vm2, hx2, hk2⟩
          have H2 := hid ((hk2.block (Array.getElem?_eq_some_iff.1 hS).1 HgS.out).trans hS)
          have HK2 := hid (HK0.out.trans hk2)
          have HX2 := hid hx2
          have HgS2 := hid (hk2.off (Array.getElem?_eq_some_iff.1 hS).1 HgS.out)
          clear hk2 hx2 HK0 HX0
          refine ⟨H2.out, ?_⟩
          simp only [List.setIfInBounds_toArray, List.set_cons_zero, List.set_cons_succ]
          refine wpAnyH_done (by kernel_rfl) ?_ _
          clear hS
          have HX3 := HX2
          have HK3 := HK2
          have H3 := H2
          clear HX2 HK2 H2
          have p3a := cell_of H3.out (i := 3) (v := .int .u32 ak) rfl
          have p3b := cell_of H3.out (i := 5) (v := .int .i64 wi) rfl
          have HHE := hid (hear_any (w := w2.drew) HX3.out.drew ak wi HWL.out)
          go_upto_region 10 with fail
          go_region_held3 (fun w' => w'.cell? ⟨g, 3, none⟩ = some (.int .u32 ak) ∧ w'.cell? ⟨g, 5, none⟩ = some (.int .i64 wi)) ((first | exact ⟨p3a, p3b⟩ | exact HS5.out))
            ((go_at_call 42; refine HHE.out.mono ?_; rintro e w5 ⟨rfl, ⟨vw5, hx5⟩, hm5⟩; have HX5 := hid hx5; have HK5 := hid (HK3.out.trans ((Kp.below (w' := w2.drew) ((Below.refl _ _).drew)).trans (HX3.out.drew.kp hm5))); have hlt := (Array.getElem?_eq_some_iff.1 H3.out).1; have hng : g ≠ p := (fun e => HgS2.out (by rw [e]; exact HX3.out.sp)); have H5 := hid ((hm5.block g hlt hng).trans H3.out); have HS5 := hid (And.intro (cell_of H5.out (i := 3) (v := .int .u32 ak) rfl) (cell_of H5.out (i := 5) (v := .int .i64 wi) rfl)); clear hx5 hm5 hlt hng))
          clear HS5 HHE p3a p3b HX3 HK3
          have p16 := cell_of HX5.out.box (i := 16) (v := .int .i64 2) (by show some (Value.int .i64 (hearS (TC) ak wi).st) = some (.int .i64 2); rw [HST2.out])
          have p18 := cell_of HX5.out.box (i := 18) (v := .bool (hearS TC ak wi).oK) rfl
          have f18 := froz_of HX5.out.box 18
          have p57 := cell_of H5.out (i := 7) (v := .slice a n cp) rfl
          go_wp2_with (first
            | (refine wpList_load_row rfl 30 _ rfl g rfl 30 _ (0, 0) _ H5.out Try.underlying30 rfl sizeSg ?_)
            | (go_at_call 23; refine (HHA.out _).mono ?_; rintro e w6 ⟨rfl, hb6⟩; have HX6 := hid (HX5.out.later hb6); have HK6 := hid (HK5.out.trans (Kp.below hb6)); have p67 := cell_later hb6 p57; have p68 := cell_later hb6 p18; have f68 := froz_of HX6.out.box 18; clear hb6 HHA HX5 HK5 p57 p18 f18 p16 H5))
          have hs7 := HX6.out.set (c' := { hearS TC ak wi with oK := true }) 18 (.bool true) (oK_cells _ _ _ _) rfl rfl rfl rfl rfl
          have hx7 := hs7.1
          have hk7 := HK6.out.trans hs7.2
          rw [HRS.out] at hx7
          first | go_end0 | refine bodyPost_ret (results_none rfl _ _ _) rfl ?_
          exact ⟨rfl, S2, ⟨_, _, _, hx7⟩, hk7⟩
end Go.Proofs.Ytmmijbiapflneaa
