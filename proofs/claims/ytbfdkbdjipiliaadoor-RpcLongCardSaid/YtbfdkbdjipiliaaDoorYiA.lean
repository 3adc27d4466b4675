/- Who calls: what is believed; which procedures there are. -/
import Derived.Test.YtbfdkbdjipiliaaDoorYhB
namespace Go.Proofs.YtbfdkbdjipiliaaDoor
open Go.RowKit Go.Maps
set_option linter.unusedVariables false

set_option maxRecDepth 100000 in
theorem empty_any (w : World) (K : Int) (a : Option Addr) (n c : Nat) (r : Bool) (hr : (decide (K = 0) && decide (n = 0)) = r) :
    Calls Tryd.prog 55 #[.agg #[.int .u32 K, .slice a n c]] w fun e w' => e = .returned (.bool r) ∧ Below w.heap.size w w' := by
  have b1 := (Below.refl w.heap.size w).alloc (Nat.le_refl _) (.cells #[.int .u32 K, .slice a n c] 80)
  have z1 := alloc_new w (.cells #[.int .u32 K, .slice a n c] 80)
  have c0 := cell_of z1 (i := 0) (v := .int .u32 K) rfl
  have c1 := cell_of z1 (i := 1) (v := .slice a n c) rfl
  have HB := hid b1
  clear b1 z1
  by_cases h0 : K = 0
  · subst h0
    have hr2 : decide (n = 0) = r := by simpa using hr
    have HR := hid hr2
    clear hr hr2
    by_cases hn : n = 0
    · subst hn
      have hR := HR.out
      simp at hR
      subst hR
      go_enter Tryd.func55, Tryd.ntmps55
      go_wp2
      go_ret
      exact ⟨rfl, HB.out⟩
    · have hR := HR.out
      rw [decide_eq_false hn] at hR
      subst hR
      have hne : ((n : Int) == 0) = false := by simpa using hn
      go_enter Tryd.func55, Tryd.ntmps55
      go_wp2
      go_ret
      exact ⟨rfl, HB.out⟩
  · have hr2 : false = r := by simpa [h0] using hr
    subst hr2
    have hne : (K == 0) = false := by simpa using h0
    clear hr h0
    go_enter Tryd.func55, Tryd.ntmps55
    go_wp2
    go_ret
    exact ⟨rfl, HB.out⟩

abbrev crC (u g : Int) (a : Option Addr) (n c : Nat) : Array Value := #[.int .u32 u, .int .u32 g, .slice a n c]
/-- What is said of credentials. -/
def ClPost (w : World) (x : Int × Cr) (e : Ending) (w' : World) : Prop := Below w.heap.size w w' ∧ ∃ ag cg, e = .returned (.tuple #[.agg (crC x.2.uid x.2.gid ag x.2.gids.length cg), .int .u32 x.1]) ∧ UT w' (New w) ag x.2.gids ∧ x.2.gids.length ≤ cg
theorem ClPost.none_ {w w' : World} {y u g : Int} (h : Below w.heap.size w w') : ClPost w (y, ⟨u, g, []⟩) (.returned (.tuple #[.agg #[.int .u32 u, .int .u32 g, .slice none 0 0], .int .u32 y])) w' := ⟨h, none, 0, rfl, UT.nil _ _ _, Nat.le_refl _⟩
theorem crdP_0n : crdP 0 [] = (0, ⟨65534, 65534, []⟩) := by unfold crdP; rw [if_pos rfl, if_neg (by simp)]
theorem crdP_0 {b : List Int} (h : 0 < b.length) : crdP 0 b = (1, ⟨65534, 65534, []⟩) := by unfold crdP; rw [if_pos rfl, if_pos h]
theorem crdP_1 (b : List Int) : crdP 1 b = match sysP b with | none => (1, Cr0) | some x => (0, x) := by unfold crdP; rw [if_neg (by decide), if_pos rfl]; cases sysP b <;> rfl
theorem crdP_x {K : Int} {b : List Int} (h : ¬ K = 0) (h1 : ¬ K = 1) : crdP K b = (5, Cr0) := by unfold crdP; rw [if_neg h, if_neg h1]
/-- What the program says: of credentials that are none, nobody in particular. -/
def clm (K : Int) (b : List Int) : Int × Cr := if (crdP K b).1 = 0 then crdP K b else ((crdP K b).1, Cr0)
set_option maxRecDepth 100000 in
set_option maxHeartbeats 4000000 in
theorem claimed_any (w : World) (K : Int) (a : Option Addr) (n c : Nat) (b : List Int) (hn : b.length = n) (hl : n ≤ 900000) (hb : Bytes w a b) :
    Calls Tryd.prog 54 #[.agg #[.int .u32 K, .slice a n c]] w fun e w' => ClPost w (clm K b) e w' := by
  obtain ⟨p0, hp0⟩ : ∃ g, w.heap.size = g := ⟨_, rfl⟩
  obtain ⟨W1, hW1⟩ : ∃ W, W = w.alloc (.cells #[.int .u32 K, .slice a n c] 80) := ⟨_, rfl⟩
  obtain ⟨g0, hg0⟩ : ∃ g, W1.heap.size = g := ⟨_, rfl⟩
  obtain ⟨W2, hW2⟩ : ∃ W, W = W1.alloc (.cells (crC 0 0 none 0 0) 44) := ⟨_, rfl⟩
  have b1 : Below w.heap.size w W1 := by rw [hW1]; exact below_alloc (Below.refl _ _) (Nat.le_refl _) _
  have b12 : Below W1.heap.size W1 W2 := by rw [hW2]; exact below_alloc (Below.refl _ _) (Nat.le_refl _) _
  have b2 : Below w.heap.size w W2 := b1.trans (b12.mono b1.size)
  have z1 : W1.heap[p0]? = some (.cells #[.int .u32 K, .slice a n c] 80 (0, 0)) := by rw [hW1, ← hp0]; exact alloc_new w _
  have z2 : W2.heap[p0]? = some (.cells #[.int .u32 K, .slice a n c] 80 (0, 0)) := (b12.block p0 (Array.getElem?_eq_some_iff.1 z1).1).trans z1
  have z3 : W2.heap[g0]? = some (.cells (crC 0 0 none 0 0) 44 (0, 0)) := by rw [hW2, ← hg0]; exact alloc_new W1 _
  have hlt : w.heap.size ≤ g0 ∧ g0 < W2.heap.size := ⟨by rw [← hg0]; exact b1.size, (Array.getElem?_eq_some_iff.1 z3).1⟩
  have HZ2 := hid z2
  have HZ3 := hid z3
  have HB2 := hid b2
  have HBY := hid (hb.later b2)
  have HLT := hid hlt
  have HEM : Hid (∀ r, (decide (K = 0) && decide (n = 0)) = r → Calls Tryd.prog 55 #[.agg #[.int .u32 K, .slice a n c]] W2 fun e w' => e = .returned (.bool r) ∧ Below W2.heap.size W2 w') := hid (fun r hr => empty_any W2 K a n c r hr)
  have HNN := hid hn
  have hW1' := hW1.symm
  have hW2' := hW2.symm
  clear hb b1 b12 b2 z1 z2 z3 hW1 hW2 hlt
  by_cases h0 : K = 0
  · subst h0
    by_cases h1 : n = 0
    · subst h1
      have hbn : b = [] := List.eq_nil_of_length_eq_zero HNN.out
      have hcl : clm 0 b = (0, ⟨65534, 65534, []⟩) := by rw [hbn]; unfold clm; rw [crdP_0n, if_pos rfl]
      rw [hcl]
      clear hcl hbn
      go_enter Tryd.func54, Tryd.ntmps54
      go_wp2_with (first
        | ((try rw [hW1']); (try rw [hW2']); refine wpList_load_row rfl 80 _ rfl p0 rfl 80 _ (0, 0) _ HZ2.out Tryd.underlying80 rfl sizeProof ?_)
        | (go_at_call 55
           refine (HEM.out true (rfl)).mono ?_
           rintro e w3 ⟨rfl, hb3⟩
           have hz3 := (hb3.block g0 HLT.out.2).trans HZ3.out
           have hz2 := (hb3.block p0 (Array.getElem?_eq_some_iff.1 HZ2.out).1).trans HZ2.out
           have c0 := cell_of hz2 (i := 0) (v := .int .u32 0) rfl
           have c1 := cell_of hz2 (i := 1) (v := .slice a 0 c) rfl
           have HZ4 := hid hz3
           have HB3 := hid (HB2.out.trans (hb3.mono HB2.out.size))
           have HBY3 := hid (HBY.out.later hb3)
           clear hb3 hz3 hz2 HEM)
        | (refine wpList_store_row rfl 44 _ _ rfl g0 (crC 65534 65534 none 0 0) rfl rfl 44 _ HZ4.out sizeCred rfl (crC_one _ _ _ _ _) ?_))
      refine bodyPost_ret (results_ct rfl _ _ g0 (crC 65534 65534 none 0 0) _ _ rfl (setRow_heap _ g0 _ _ _ _ HZ4.out) Tryd.underlying44 sizeCred) rfl ?_
      exact ClPost.none_ ((setRow_mods w3 g0 _).to_below HB3.out HB3.out.size (fun b hb => by have h : b = g0 := hb; have := HLT.out.1; omega))
    · have hcl : clm 0 b = (1, ⟨0, 0, []⟩) := by unfold clm; rw [crdP_0 (by have := HNN.out; omega), if_neg (by decide)]; rfl
      rw [hcl]
      have HN1 := hid h1
      clear hcl h1
      go_enter Tryd.func54, Tryd.ntmps54
      go_wp2_with (first
        | ((try rw [hW1']); (try rw [hW2']); refine wpList_load_row rfl 80 _ rfl p0 rfl 80 _ (0, 0) _ HZ2.out Tryd.underlying80 rfl sizeProof ?_)
        | (go_at_call 55
           refine (HEM.out false (by simp [HN1.out])).mono ?_
           rintro e w3 ⟨rfl, hb3⟩
           have hz3 := (hb3.block g0 HLT.out.2).trans HZ3.out
           have hz2 := (hb3.block p0 (Array.getElem?_eq_some_iff.1 HZ2.out).1).trans HZ2.out
           have c0 := cell_of hz2 (i := 0) (v := .int .u32 0) rfl
           have c1 := cell_of hz2 (i := 1) (v := .slice a n c) rfl
           have HZ4 := hid hz3
           have HB3 := hid (HB2.out.trans (hb3.mono HB2.out.size))
           have HBY3 := hid (HBY.out.later hb3)
           clear hb3 hz3 hz2 HEM)
        | (refine wpList_store_row rfl 44 _ _ rfl g0 (crC 0 0 none 0 0) rfl rfl 44 _ HZ4.out sizeCred rfl (crC_one _ _ _ _ _) ?_))
      refine bodyPost_ret (results_ct rfl _ _ g0 (crC 0 0 none 0 0) _ _ rfl (setRow_heap _ g0 _ _ _ _ HZ4.out) Tryd.underlying44 sizeCred) rfl ?_
      exact ClPost.none_ ((setRow_mods w3 g0 _).to_below HB3.out HB3.out.size (fun b hb => by have h : b = g0 := hb; have := HLT.out.1; omega))
  · by_cases h1 : K = 1
    · subst h1
      have hcl : clm 1 b = match sysP b with | none => (1, Cr0) | some x => (0, x) := by
        unfold clm
        rw [crdP_1]
        cases sysP b with
        | none => simp
        | some x => simp
      rw [hcl]
      obtain ⟨o, ho⟩ : ∃ o, sysP b = o := ⟨_, rfl⟩
      rw [ho]
      have HO := hid ho
      clear hcl ho h0
      cases o with
      | none =>
        go_enter Tryd.func54, Tryd.ntmps54
        go_wp2_with (first
          | ((try rw [hW1']); (try rw [hW2']); refine wpList_load_row rfl 80 _ rfl p0 rfl 80 _ (0, 0) _ HZ2.out Tryd.underlying80 rfl sizeProof ?_)
          | (go_at_call 55
             refine (HEM.out false (by simp)).mono ?_
             rintro e w3 ⟨rfl, hb3⟩
             have hz3 := (hb3.block g0 HLT.out.2).trans HZ3.out
             have hz2 := (hb3.block p0 (Array.getElem?_eq_some_iff.1 HZ2.out).1).trans HZ2.out
             have c0 := cell_of hz2 (i := 0) (v := .int .u32 1) rfl
             have c1 := cell_of hz2 (i := 1) (v := .slice a n c) rfl
             have HZ4 := hid hz3
             have HB3 := hid (HB2.out.trans (hb3.mono HB2.out.size))
             have HBY3 := hid (HBY.out.later hb3)
             clear hb3 hz3 hz2 HEM)
          | (go_at_call 67
             refine (readUnix_any w3 a n c b HNN.out hl HBY3.out).mono ?_
             rintro e w5 ⟨hb5, he5⟩
             rw [HO.out] at he5
             simp only at he5
             have hz5 := (hb5.block g0 (Array.getElem?_eq_some_iff.1 HZ4.out).1).trans HZ4.out
             have HZ5 := hid hz5
             have HB5 := hid (HB3.out.trans (hb5.mono HB3.out.size))
             have HS3 := hid HB3.out.size
             clear hz5 hb5
             subst he5)
          | (refine wpList_store_row rfl 44 _ _ rfl g0 (crC 0 0 none 0 0) rfl rfl 44 _ HZ5.out sizeCred rfl (crC_one _ _ _ _ _) ?_))
        refine bodyPost_ret (results_ct rfl _ _ g0 (crC 0 0 none 0 0) _ _ rfl (setRow_heap _ g0 _ _ _ _ HZ5.out) Tryd.underlying44 sizeCred) rfl ?_
        exact ClPost.none_ ((setRow_mods w5 g0 _).to_below HB5.out HB5.out.size (fun b hb => by have h : b = g0 := hb; have := HLT.out.1; omega))
      | some x =>
        obtain ⟨xu, xg, xs⟩ := x
        obtain ⟨xn, hxn⟩ : ∃ k, xs.length = k := ⟨_, rfl⟩
        have HXN := hid hxn
        clear hxn
        go_enter Tryd.func54, Tryd.ntmps54
        go_wp2_with (first
          | ((try rw [hW1']); (try rw [hW2']); refine wpList_load_row rfl 80 _ rfl p0 rfl 80 _ (0, 0) _ HZ2.out Tryd.underlying80 rfl sizeProof ?_)
          | (go_at_call 55
             refine (HEM.out false (by simp)).mono ?_
             rintro e w3 ⟨rfl, hb3⟩
             have hz3 := (hb3.block g0 HLT.out.2).trans HZ3.out
             have hz2 := (hb3.block p0 (Array.getElem?_eq_some_iff.1 HZ2.out).1).trans HZ2.out
             have c0 := cell_of hz2 (i := 0) (v := .int .u32 1) rfl
             have c1 := cell_of hz2 (i := 1) (v := .slice a n c) rfl
             have HZ4 := hid hz3
             have HB3 := hid (HB2.out.trans (hb3.mono HB2.out.size))
             have HBY3 := hid (HBY.out.later hb3)
             clear hb3 hz3 hz2 HEM)
          | (go_at_call 67
             refine (readUnix_any w3 a n c b HNN.out hl HBY3.out).mono ?_
             rintro e w5 ⟨hb5, he5⟩
             rw [HO.out] at he5
             simp only at he5
             have hz5 := (hb5.block g0 (Array.getElem?_eq_some_iff.1 HZ4.out).1).trans HZ4.out
             have HZ5 := hid hz5
             have HB5 := hid (HB3.out.trans (hb5.mono HB3.out.size))
             have HS3 := hid HB3.out.size
             clear hz5 hb5
             obtain ⟨ag, cg, rfl, hut, hcg⟩ := he5
             simp only [HXN.out] at hcg ⊢
             have HUT := hid hut
             have HCG := hid hcg
             have HG3 : Hid (g0 < w3.heap.size) := hid (Array.getElem?_eq_some_iff.1 HZ4.out).1
             clear hut hcg)
          | (refine wpList_store_row rfl 44 _ _ rfl g0 (crC xu xg ag xn cg) rfl rfl 44 _ HZ5.out sizeCred rfl (crC_one _ _ _ _ _) ?_))
        refine bodyPost_ret (results_ct rfl _ _ g0 (crC xu xg ag xn cg) _ _ rfl (setRow_heap _ g0 _ _ _ _ HZ5.out) Tryd.underlying44 sizeCred) rfl ?_
        have hq := setRow_mods w5 g0 (crC xu xg ag xn cg)
        have hg0 := HLT.out.1
        refine ⟨hq.to_below HB5.out HB5.out.size (fun b hb => by have h : b = g0 := hb; omega), ag, cg, by simp only [HXN.out]; rfl, ?_, by simp only [HXN.out]; exact HCG.out⟩
        refine (HUT.out.keep hq.size (fun b hb hl => hq.block b hl (fun e => ?_))).weak (fun b hb _ => ?_)
        · have h : b = g0 := e
          have h2 : w3.heap.size ≤ b := hb
          have := HG3.out
          omega
        · have h2 : w3.heap.size ≤ b := hb
          have := HS3.out
          show w.heap.size ≤ b
          omega
    · have hcl : clm K b = (5, ⟨0, 0, []⟩) := by unfold clm; rw [crdP_x h0 h1, if_neg (by decide)]; rfl
      rw [hcl]
      have HK0 := hid h0
      have hk0 : (K == 0) = false := by simpa using h0
      have hk1 : (K == 1) = false := by simpa using h1
      clear hcl h0 h1
      go_enter Tryd.func54, Tryd.ntmps54
      go_wp2_with (first
        | ((try rw [hW1']); (try rw [hW2']); refine wpList_load_row rfl 80 _ rfl p0 rfl 80 _ (0, 0) _ HZ2.out Tryd.underlying80 rfl sizeProof ?_)
        | (go_at_call 55
           refine (HEM.out false (by simp [HK0.out])).mono ?_
           rintro e w3 ⟨rfl, hb3⟩
           have hz3 := (hb3.block g0 HLT.out.2).trans HZ3.out
           have hz2 := (hb3.block p0 (Array.getElem?_eq_some_iff.1 HZ2.out).1).trans HZ2.out
           have c0 := cell_of hz2 (i := 0) (v := .int .u32 K) rfl
           have c1 := cell_of hz2 (i := 1) (v := .slice a n c) rfl
           have HZ4 := hid hz3
           have HB3 := hid (HB2.out.trans (hb3.mono HB2.out.size))
           have HBY3 := hid (HBY.out.later hb3)
           clear hb3 hz3 hz2 HEM)
        | (refine wpList_store_row rfl 44 _ _ rfl g0 (crC 0 0 none 0 0) rfl rfl 44 _ HZ4.out sizeCred rfl (crC_one _ _ _ _ _) ?_))
      refine bodyPost_ret (results_ct rfl _ _ g0 (crC 0 0 none 0 0) _ _ rfl (setRow_heap _ g0 _ _ _ _ HZ4.out) Tryd.underlying44 sizeCred) rfl ?_
      exact ClPost.none_ ((setRow_mods w3 g0 _).to_below HB3.out HB3.out.size (fun b hb => by have h : b = g0 := hb; have := HLT.out.1; omega))
end Go.Proofs.YtbfdkbdjipiliaaDoor
