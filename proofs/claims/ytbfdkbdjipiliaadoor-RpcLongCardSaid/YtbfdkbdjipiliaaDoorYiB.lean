/- Who calls, by credentials and verifier. -/
import Derived.Test.YtbfdkbdjipiliaaDoorYiA
namespace Go.Proofs.YtbfdkbdjipiliaaDoor
open Go.RowKit Go.Maps
set_option linter.unusedVariables false

def calP (K : Int) (b : List Int) (V : Int) (bv : List Int) : Int × Cr := if whyP (clm K b).1 V bv = 0 then (0, (clm K b).2) else (whyP (clm K b).1 V bv, Cr0)
set_option maxRecDepth 100000 in
set_option maxHeartbeats 4000000 in
theorem caller_any (w : World) (K : Int) (a : Option Addr) (n c : Nat) (b : List Int) (hn : b.length = n) (hl : n ≤ 900000) (hb : Bytes w a b) (V : Int) (av : Option Addr) (nv cv : Nat) (bv : List Int) (hnv : bv.length = nv) :
    Calls Tryd.prog 40 #[.agg #[.int .u32 K, .slice a n c], .agg #[.int .u32 V, .slice av nv cv]] w fun e w' => ClPost w (calP K b V bv) e w' := by
  obtain ⟨p0, hp0⟩ : ∃ g, w.heap.size = g := ⟨_, rfl⟩
  obtain ⟨W1, hW1⟩ : ∃ W, W = w.alloc (.cells #[.int .u32 K, .slice a n c] 80) := ⟨_, rfl⟩
  obtain ⟨p1, hp1⟩ : ∃ g, W1.heap.size = g := ⟨_, rfl⟩
  obtain ⟨W2, hW2⟩ : ∃ W, W = W1.alloc (.cells #[.int .u32 V, .slice av nv cv] 80) := ⟨_, rfl⟩
  obtain ⟨g0, hg0⟩ : ∃ g, W2.heap.size = g := ⟨_, rfl⟩
  obtain ⟨W3, hW3⟩ : ∃ W, W = W2.alloc (.cells (crC 0 0 none 0 0) 44) := ⟨_, rfl⟩
  have b1 : Below w.heap.size w W1 := by rw [hW1]; exact below_alloc (Below.refl _ _) (Nat.le_refl _) _
  have b12 : Below W1.heap.size W1 W2 := by rw [hW2]; exact below_alloc (Below.refl _ _) (Nat.le_refl _) _
  have b23 : Below W2.heap.size W2 W3 := by rw [hW3]; exact below_alloc (Below.refl _ _) (Nat.le_refl _) _
  have b2 : Below w.heap.size w W2 := b1.trans (b12.mono b1.size)
  have b3 : Below w.heap.size w W3 := b2.trans (b23.mono b2.size)
  have z1 : W1.heap[p0]? = some (.cells #[.int .u32 K, .slice a n c] 80 (0, 0)) := by rw [hW1, ← hp0]; exact alloc_new w _
  have z12 : W2.heap[p0]? = some (.cells #[.int .u32 K, .slice a n c] 80 (0, 0)) := (b12.block p0 (Array.getElem?_eq_some_iff.1 z1).1).trans z1
  have zA : W3.heap[p0]? = some (.cells #[.int .u32 K, .slice a n c] 80 (0, 0)) := (b23.block p0 (Array.getElem?_eq_some_iff.1 z12).1).trans z12
  have z2 : W2.heap[p1]? = some (.cells #[.int .u32 V, .slice av nv cv] 80 (0, 0)) := by rw [hW2, ← hp1]; exact alloc_new W1 _
  have zB : W3.heap[p1]? = some (.cells #[.int .u32 V, .slice av nv cv] 80 (0, 0)) := (b23.block p1 (Array.getElem?_eq_some_iff.1 z2).1).trans z2
  have z3 : W3.heap[g0]? = some (.cells (crC 0 0 none 0 0) 44 (0, 0)) := by rw [hW3, ← hg0]; exact alloc_new W2 _
  have hlt : w.heap.size ≤ g0 ∧ g0 < W3.heap.size := ⟨by rw [← hg0]; exact b2.size, (Array.getElem?_eq_some_iff.1 z3).1⟩
  have HZA := hid zA
  have HZB := hid zB
  have HZ3 := hid z3
  have HB3 := hid b3
  have HLT := hid hlt
  have HCL := hid (claimed_any W3 K a n c b hn hl (hb.later b3))
  have HNV := hid hnv
  obtain ⟨⟨y, xu, xg, xs⟩, hx⟩ : ∃ x, clm K b = x := ⟨_, rfl⟩
  have hcal : calP K b V bv = if whyP y V bv = 0 then (0, ⟨xu, xg, xs⟩) else (whyP y V bv, Cr0) := by unfold calP; rw [hx]
  rw [hx] at HCL
  rw [hcal]
  obtain ⟨xn, hxn⟩ : ∃ k, xs.length = k := ⟨_, rfl⟩
  have HXN := hid hxn
  have hW1' := hW1.symm
  have hW2' := hW2.symm
  have hW3' := hW3.symm
  clear hb b1 b12 b23 b2 b3 z1 z12 zA z2 zB z3 hW1 hW2 hW3 hlt hx hcal hn hnv hxn
  by_cases hy : y = 0
  · subst hy
    by_cases hv : V = 0 ∧ nv = 0
    · obtain ⟨rfl, rfl⟩ := hv
      have hw : whyP 0 0 bv = 0 := by unfold whyP; rw [if_neg (by have := HNV.out; omega)]
      rw [hw, if_pos rfl]
      clear hw
      go_enter Tryd.func40, Tryd.ntmps40
      go_wp2_with (first
        | ((try rw [hW1']); (try rw [hW2']); (try rw [hW3']); refine wpList_load_row rfl 80 _ rfl p0 rfl 80 _ (0, 0) _ HZA.out Tryd.underlying80 rfl sizeProof ?_)
        | (go_at_call 54
           refine HCL.out.mono ?_
           rintro e w5 ⟨hb5, ag, cg, rfl, hut, hcg⟩
           simp only [HXN.out] at hcg ⊢
           have hz3 := (hb5.block g0 HLT.out.2).trans HZ3.out
           have hzB := (hb5.block p1 (Array.getElem?_eq_some_iff.1 HZB.out).1).trans HZB.out
           have hB5 := HB3.out.trans (hb5.mono HB3.out.size)
           obtain ⟨gc, hgc⟩ : ∃ g, w5.heap.size = g := ⟨_, rfl⟩
           obtain ⟨W6, hW6⟩ : ∃ W, W = w5.alloc (.cells (crC 0 0 none 0 0) 44) := ⟨_, rfl⟩
           have b6 : Below w5.heap.size w5 W6 := by rw [hW6]; exact below_alloc (Below.refl _ _) (Nat.le_refl _) _
           have z6 : W6.heap[gc]? = some (.cells (crC 0 0 none 0 0) 44 (0, 0)) := by rw [hW6, ← hgc]; exact alloc_new w5 _
           obtain ⟨W7, hW7⟩ : ∃ W, W = W6.setRow gc (crC xu xg ag xn cg) := ⟨_, rfl⟩
           have z7 : W7.heap[gc]? = some (.cells (crC xu xg ag xn cg) 44 (0, 0)) := by rw [hW7]; exact setRow_heap _ gc _ _ _ _ z6
           have hq7 : Mods (fun b => b = gc) W6 W7 := by rw [hW7]; exact setRow_mods _ _ _
           have hgs : gc < W6.heap.size := (Array.getElem?_eq_some_iff.1 z6).1
           have b7 : Below w5.heap.size w5 W7 := hq7.to_below b6 b6.size (fun b hb => by have h : b = gc := hb; omega)
           have hg5 : g0 < w5.heap.size := (Array.getElem?_eq_some_iff.1 hz3).1
           have HZG := hid ((b7.block g0 hg5).trans hz3)
           have HZP := hid ((b7.block p1 (Array.getElem?_eq_some_iff.1 hzB).1).trans hzB)
           have HZ6 := hid z6
           have HZC := hid z7
           have HB7 := hid (hB5.trans (b7.mono hB5.size))
           have HUT := hid ((hut.later b7).weak (T' := fun b => w.heap.size ≤ b ∧ b ≠ g0) (fun b hb _ => by have h : W3.heap.size ≤ b := hb; have := HLT.out; omega))
           have HCG := hid hcg
           have HGC := hid (And.intro hg5 hgs)
           have hW6' := hW6.symm
           have hW7' := hW7.symm
           clear hb5 hz3 hzB hB5 b6 z6 z7 hq7 b7 hut hcg hg5 hgs hW6 hW7 HCL)
        | ((try rw [hW6']); refine wpList_store_row rfl 44 _ _ rfl gc (crC xu xg ag xn cg) rfl rfl 44 _ HZ6.out sizeCred rfl (crC_one _ _ _ _ _) ?_; (try rw [hW7']))
        | (refine wpList_load_row rfl 80 _ rfl p1 rfl 80 _ (0, 0) _ HZP.out Tryd.underlying80 rfl sizeProof ?_)
        | (go_at_call 55
           refine (empty_any W7 0 av 0 cv true (rfl)).mono ?_
           rintro e w8 ⟨rfl, hb8⟩
           have HZG8 := hid ((hb8.block g0 (Array.getElem?_eq_some_iff.1 HZG.out).1).trans HZG.out)
           have HZC8 := hid ((hb8.block gc (Array.getElem?_eq_some_iff.1 HZC.out).1).trans HZC.out)
           have HB8 := hid (HB7.out.trans (hb8.mono HB7.out.size))
           have HUT8 := hid (HUT.out.later hb8)
           clear hb8)
        | (refine wpList_load_row rfl 44 _ rfl gc rfl 44 _ (0, 0) _ HZC8.out Tryd.underlying44 rfl sizeCred ?_)
        | (refine wpList_store_row rfl 44 _ _ rfl g0 (crC xu xg ag xn cg) rfl rfl 44 _ HZG8.out sizeCred rfl (crC_one _ _ _ _ _) ?_))
      refine bodyPost_ret (results_ct rfl _ _ g0 (crC xu xg ag xn cg) _ _ rfl (setRow_heap _ g0 _ _ _ _ HZG8.out) Tryd.underlying44 sizeCred) rfl ?_
      have hq := setRow_mods w8 g0 (crC xu xg ag xn cg)
      have hg0 := HLT.out.1
      refine ⟨hq.to_below HB8.out HB8.out.size (fun b hb => by have h : b = g0 := hb; omega), ag, cg, by simp only [HXN.out]; rfl, ?_, by simp only [HXN.out]; exact HCG.out⟩
      refine (HUT8.out.keep hq.size (fun b hb hl => hq.block b hl (fun e => hb.2 e))).weak (fun b hb _ => hb.1)
    · have hw : whyP 0 V bv = 3 := by unfold whyP; rw [if_pos ⟨rfl, by have := HNV.out; omega⟩]
      rw [hw, if_neg (by decide)]
      have HV := hid hv
      clear hw hv
      go_enter Tryd.func40, Tryd.ntmps40
      go_wp2_with (first
        | ((try rw [hW1']); (try rw [hW2']); (try rw [hW3']); refine wpList_load_row rfl 80 _ rfl p0 rfl 80 _ (0, 0) _ HZA.out Tryd.underlying80 rfl sizeProof ?_)
        | (go_at_call 54
           refine HCL.out.mono ?_
           rintro e w5 ⟨hb5, ag, cg, rfl, hut, hcg⟩
           simp only [HXN.out] at hcg ⊢
           have hz3 := (hb5.block g0 HLT.out.2).trans HZ3.out
           have hzB := (hb5.block p1 (Array.getElem?_eq_some_iff.1 HZB.out).1).trans HZB.out
           have hB5 := HB3.out.trans (hb5.mono HB3.out.size)
           obtain ⟨gc, hgc⟩ : ∃ g, w5.heap.size = g := ⟨_, rfl⟩
           obtain ⟨W6, hW6⟩ : ∃ W, W = w5.alloc (.cells (crC 0 0 none 0 0) 44) := ⟨_, rfl⟩
           have b6 : Below w5.heap.size w5 W6 := by rw [hW6]; exact below_alloc (Below.refl _ _) (Nat.le_refl _) _
           have z6 : W6.heap[gc]? = some (.cells (crC 0 0 none 0 0) 44 (0, 0)) := by rw [hW6, ← hgc]; exact alloc_new w5 _
           obtain ⟨W7, hW7⟩ : ∃ W, W = W6.setRow gc (crC xu xg ag xn cg) := ⟨_, rfl⟩
           have z7 : W7.heap[gc]? = some (.cells (crC xu xg ag xn cg) 44 (0, 0)) := by rw [hW7]; exact setRow_heap _ gc _ _ _ _ z6
           have hq7 : Mods (fun b => b = gc) W6 W7 := by rw [hW7]; exact setRow_mods _ _ _
           have hgs : gc < W6.heap.size := (Array.getElem?_eq_some_iff.1 z6).1
           have b7 : Below w5.heap.size w5 W7 := hq7.to_below b6 b6.size (fun b hb => by have h : b = gc := hb; omega)
           have hg5 : g0 < w5.heap.size := (Array.getElem?_eq_some_iff.1 hz3).1
           have HZG := hid ((b7.block g0 hg5).trans hz3)
           have HZP := hid ((b7.block p1 (Array.getElem?_eq_some_iff.1 hzB).1).trans hzB)
           have HZ6 := hid z6
           have HZC := hid z7
           have HB7 := hid (hB5.trans (b7.mono hB5.size))
           have HUT := hid ((hut.later b7).weak (T' := fun b => w.heap.size ≤ b ∧ b ≠ g0) (fun b hb _ => by have h : W3.heap.size ≤ b := hb; have := HLT.out; omega))
           have HCG := hid hcg
           have HGC := hid (And.intro hg5 hgs)
           have hW6' := hW6.symm
           have hW7' := hW7.symm
           clear hb5 hz3 hzB hB5 b6 z6 z7 hq7 b7 hut hcg hg5 hgs hW6 hW7 HCL)
        | ((try rw [hW6']); refine wpList_store_row rfl 44 _ _ rfl gc (crC xu xg ag xn cg) rfl rfl 44 _ HZ6.out sizeCred rfl (crC_one _ _ _ _ _) ?_; (try rw [hW7']))
        | (refine wpList_load_row rfl 80 _ rfl p1 rfl 80 _ (0, 0) _ HZP.out Tryd.underlying80 rfl sizeProof ?_)
        | (go_at_call 55
           refine (empty_any W7 V av nv cv false (by have := HV.out; simp; omega)).mono ?_
           rintro e w8 ⟨rfl, hb8⟩
           have HZG8 := hid ((hb8.block g0 (Array.getElem?_eq_some_iff.1 HZG.out).1).trans HZG.out)
           have HZC8 := hid ((hb8.block gc (Array.getElem?_eq_some_iff.1 HZC.out).1).trans HZC.out)
           have HB8 := hid (HB7.out.trans (hb8.mono HB7.out.size))
           have HUT8 := hid (HUT.out.later hb8)
           clear hb8)
        | (refine wpList_store_row rfl 44 _ _ rfl g0 (crC 0 0 none 0 0) rfl rfl 44 _ HZG8.out sizeCred rfl (crC_one _ _ _ _ _) ?_))
      refine bodyPost_ret (results_ct rfl _ _ g0 (crC 0 0 none 0 0) _ _ rfl (setRow_heap _ g0 _ _ _ _ HZG8.out) Tryd.underlying44 sizeCred) rfl ?_
      exact ClPost.none_ ((setRow_mods w8 g0 _).to_below HB8.out HB8.out.size (fun b hb => by have h : b = g0 := hb; have := HLT.out.1; omega))
  · have hw : whyP y V bv = y := by unfold whyP; rw [if_neg (by omega)]
    rw [hw, if_neg hy]
    have hyb : (y != 0) = true := by simpa using hy
    clear hw hy
    go_enter Tryd.func40, Tryd.ntmps40
    go_wp2_with (first
      | ((try rw [hW1']); (try rw [hW2']); (try rw [hW3']); refine wpList_load_row rfl 80 _ rfl p0 rfl 80 _ (0, 0) _ HZA.out Tryd.underlying80 rfl sizeProof ?_)
      | (go_at_call 54
         refine HCL.out.mono ?_
         rintro e w5 ⟨hb5, ag, cg, rfl, hut, hcg⟩
         simp only [HXN.out] at hcg ⊢
         have hz3 := (hb5.block g0 HLT.out.2).trans HZ3.out
         have hzB := (hb5.block p1 (Array.getElem?_eq_some_iff.1 HZB.out).1).trans HZB.out
         have hB5 := HB3.out.trans (hb5.mono HB3.out.size)
         obtain ⟨gc, hgc⟩ : ∃ g, w5.heap.size = g := ⟨_, rfl⟩
         obtain ⟨W6, hW6⟩ : ∃ W, W = w5.alloc (.cells (crC 0 0 none 0 0) 44) := ⟨_, rfl⟩
         have b6 : Below w5.heap.size w5 W6 := by rw [hW6]; exact below_alloc (Below.refl _ _) (Nat.le_refl _) _
         have z6 : W6.heap[gc]? = some (.cells (crC 0 0 none 0 0) 44 (0, 0)) := by rw [hW6, ← hgc]; exact alloc_new w5 _
         obtain ⟨W7, hW7⟩ : ∃ W, W = W6.setRow gc (crC xu xg ag xn cg) := ⟨_, rfl⟩
         have z7 : W7.heap[gc]? = some (.cells (crC xu xg ag xn cg) 44 (0, 0)) := by rw [hW7]; exact setRow_heap _ gc _ _ _ _ z6
         have hq7 : Mods (fun b => b = gc) W6 W7 := by rw [hW7]; exact setRow_mods _ _ _
         have hgs : gc < W6.heap.size := (Array.getElem?_eq_some_iff.1 z6).1
         have b7 : Below w5.heap.size w5 W7 := hq7.to_below b6 b6.size (fun b hb => by have h : b = gc := hb; omega)
         have hg5 : g0 < w5.heap.size := (Array.getElem?_eq_some_iff.1 hz3).1
         have HZG := hid ((b7.block g0 hg5).trans hz3)
         have HZP := hid ((b7.block p1 (Array.getElem?_eq_some_iff.1 hzB).1).trans hzB)
         have HZ6 := hid z6
         have HZC := hid z7
         have HB7 := hid (hB5.trans (b7.mono hB5.size))
         have HUT := hid ((hut.later b7).weak (T' := fun b => w.heap.size ≤ b ∧ b ≠ g0) (fun b hb _ => by have h : W3.heap.size ≤ b := hb; have := HLT.out; omega))
         have HCG := hid hcg
         have HGC := hid (And.intro hg5 hgs)
         have hW6' := hW6.symm
         have hW7' := hW7.symm
         clear hb5 hz3 hzB hB5 b6 z6 z7 hq7 b7 hut hcg hg5 hgs hW6 hW7 HCL)
      | ((try rw [hW6']); refine wpList_store_row rfl 44 _ _ rfl gc (crC xu xg ag xn cg) rfl rfl 44 _ HZ6.out sizeCred rfl (crC_one _ _ _ _ _) ?_; (try rw [hW7']))
      | (refine wpList_store_row rfl 44 _ _ rfl g0 (crC 0 0 none 0 0) rfl rfl 44 _ HZG.out sizeCred rfl (crC_one _ _ _ _ _) ?_))
    refine bodyPost_ret (results_ct rfl _ _ g0 (crC 0 0 none 0 0) _ _ rfl (setRow_heap _ g0 _ _ _ _ HZG.out) Tryd.underlying44 sizeCred) rfl ?_
    exact ClPost.none_ ((setRow_mods W7 g0 _).to_below HB7.out HB7.out.size (fun b hb => by have h : b = g0 := hb; have := HLT.out.1; omega))
/-- The procedures that there are. -/
def askP (p v k : Int) : Int := if p ≠ 100003 ∧ p ≠ 100005 then 34 else if v ≠ 3 then 35 else if 21 < k ∨ p = 100005 ∧ 5 < k then 36 else 0
def erV (e : Int) : Value := if e = 0 then .nilIface else .iface 30 (.int .i64 e)
set_option maxRecDepth 100000 in
set_option maxHeartbeats 1000000 in
theorem asked_any (w : World) (p v k : Int) : Calls Tryd.prog 42 #[.int .u32 p, .int .u32 v, .int .u32 k] w fun e w' => e = .returned (erV (askP p v k)) ∧ w' = w := by
  by_cases h5 : p = 100005
  · subst h5
    by_cases hv : v = 3
    · subst hv
      by_cases hk : 5 < k
      · have e0 : askP 100005 3 k = 36 := by unfold askP; rw [if_neg (by decide), if_neg (by decide), if_pos (.inr ⟨rfl, hk⟩)]
        have e : erV (askP 100005 3 k) = .iface 30 (.int .i64 36) := by rw [e0]; unfold erV; rw [if_neg (by decide)]
        rw [e]
        clear e e0
        go_enter Tryd.func42, Tryd.ntmps42
        go_wp2
        go_ret
        exact ⟨rfl, rfl⟩
      · have e0 : askP 100005 3 k = 0 := by unfold askP; rw [if_neg (by decide), if_neg (by decide), if_neg (by omega)]
        have e : erV (askP 100005 3 k) = .nilIface := by rw [e0]; unfold erV; rw [if_pos rfl]
        rw [e]
        clear e e0
        go_enter Tryd.func42, Tryd.ntmps42
        go_wp2
        go_ret
        exact ⟨rfl, rfl⟩
    · have e0 : askP 100005 v k = 35 := by unfold askP; rw [if_neg (by decide), if_pos hv]
      have e : erV (askP 100005 v k) = .iface 30 (.int .i64 35) := by rw [e0]; unfold erV; rw [if_neg (by decide)]
      rw [e]
      have hvb : (v != 3) = true := by simpa using hv
      clear e e0 hv
      go_enter Tryd.func42, Tryd.ntmps42
      go_wp2
      go_ret
      exact ⟨rfl, rfl⟩
  · by_cases h3 : p = 100003
    · subst h3
      by_cases hv : v = 3
      · subst hv
        by_cases hk : 21 < k
        · have e0 : askP 100003 3 k = 36 := by unfold askP; rw [if_neg (by decide), if_neg (by decide), if_pos (.inl hk)]
          have e : erV (askP 100003 3 k) = .iface 30 (.int .i64 36) := by rw [e0]; unfold erV; rw [if_neg (by decide)]
          rw [e]
          clear e e0 h5
          go_enter Tryd.func42, Tryd.ntmps42
          go_wp2
          go_ret
          exact ⟨rfl, rfl⟩
        · have e0 : askP 100003 3 k = 0 := by unfold askP; rw [if_neg (by decide), if_neg (by decide), if_neg (by omega)]
          have e : erV (askP 100003 3 k) = .nilIface := by rw [e0]; unfold erV; rw [if_pos rfl]
          rw [e]
          clear e e0 h5
          go_enter Tryd.func42, Tryd.ntmps42
          go_wp2
          go_ret
          exact ⟨rfl, rfl⟩
      · have e0 : askP 100003 v k = 35 := by unfold askP; rw [if_neg (by decide), if_pos hv]
        have e : erV (askP 100003 v k) = .iface 30 (.int .i64 35) := by rw [e0]; unfold erV; rw [if_neg (by decide)]
        rw [e]
        have hvb : (v != 3) = true := by simpa using hv
        clear e e0 hv h5
        go_enter Tryd.func42, Tryd.ntmps42
        go_wp2
        go_ret
        exact ⟨rfl, rfl⟩
    · have e0 : askP p v k = 34 := by unfold askP; rw [if_pos ⟨h3, h5⟩]
      have e : erV (askP p v k) = .iface 30 (.int .i64 34) := by rw [e0]; unfold erV; rw [if_neg (by decide)]
      rw [e]
      have hb5 : (p == 100005) = false := by simpa using h5
      have hb3 : (p == 100003) = false := by simpa using h3
      clear e e0 h5 h3
      go_enter Tryd.func42, Tryd.ntmps42
      go_wp2
      go_ret
      exact ⟨rfl, rfl⟩
end Go.Proofs.YtbfdkbdjipiliaaDoor
