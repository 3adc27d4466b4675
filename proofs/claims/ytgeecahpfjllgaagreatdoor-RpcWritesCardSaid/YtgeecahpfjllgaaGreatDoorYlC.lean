/- The law's calls as the document's; two calls are the same. -/
import Derived.Test.YtgeecahpfjllgaaGreatDoorYkA
namespace Go.Proofs.YtgeecahpfjllgaaGreatDoor
open Go.RowKit Go.Maps
set_option linter.unusedVariables false

theorem UT.toU {w : World} {T : Nat → Prop} {a : Option Addr} {l : List Int} (h : UT w T a l) : U32s w a l := fun i hi => by
  obtain ⟨b, off, e, _, _, hc, hu⟩ := h i hi
  exact ⟨b, off, e, hc, hu⟩
theorem sizeDCall : (Tryz.prog.info? 32).map (·.size) = some 8 := by kernel_rfl
set_option maxRecDepth 100000 in
set_option maxHeartbeats 4000000 in
theorem theirs_any (w : World) (x p v k u g : Int) (ag : Option Addr) (ng cg : Nat) (ab : Option Addr) (nb cb : Nat) :
    Calls Tryz.prog 7 #[.agg (caC x p v k u g (.slice ag ng cg) (.slice ab nb cb))] w fun e w' => e = .returned (.agg (caC x p v k u g (.slice ag ng cg) (.slice ab nb cb))) ∧ Below w.heap.size w w' := by
  obtain ⟨p0, hp0⟩ : ∃ g, w.heap.size = g := ⟨_, rfl⟩
  obtain ⟨W1, hW1⟩ : ∃ W, W = w.alloc (.cells (caC x p v k u g (.slice ag ng cg) (.slice ab nb cb)) 28) := ⟨_, rfl⟩
  obtain ⟨g0, hg0⟩ : ∃ g, W1.heap.size = g := ⟨_, rfl⟩
  obtain ⟨W2, hW2⟩ : ∃ W, W = W1.alloc (.cells (caC 0 0 0 0 0 0 nilS nilS) 32) := ⟨_, rfl⟩
  have b1 : Below w.heap.size w W1 := by rw [hW1]; exact below_alloc (Below.refl _ _) (Nat.le_refl _) _
  have b12 : Below W1.heap.size W1 W2 := by rw [hW2]; exact below_alloc (Below.refl _ _) (Nat.le_refl _) _
  have b2 : Below w.heap.size w W2 := b1.trans (b12.mono b1.size)
  have z1 : W1.heap[p0]? = some (.cells (caC x p v k u g (.slice ag ng cg) (.slice ab nb cb)) 28 (0, 0)) := by rw [hW1, ← hp0]; exact alloc_new w _
  have z2 : W2.heap[p0]? = some (.cells (caC x p v k u g (.slice ag ng cg) (.slice ab nb cb)) 28 (0, 0)) := (b12.block p0 (Array.getElem?_eq_some_iff.1 z1).1).trans z1
  have z3 : W2.heap[g0]? = some (.cells (caC 0 0 0 0 0 0 nilS nilS) 32 (0, 0)) := by rw [hW2, ← hg0]; exact alloc_new W1 _
  have x0 := cell_of z2 (i := 0) (v := .int .u32 x) rfl
  have x1 := cell_of z2 (i := 1) (v := .int .u32 p) rfl
  have x2 := cell_of z2 (i := 2) (v := .int .u32 v) rfl
  have x3 := cell_of z2 (i := 3) (v := .int .u32 k) rfl
  have x7 := cell_of z2 (i := 7) (v := .slice ab nb cb) rfl
  have HZ2 := hid z2
  have HZ3 := hid z3
  have HB2 := hid b2
  have HG0 : Hid (w.heap.size ≤ g0) := hid (by rw [← hg0]; exact b1.size)
  have hW1' := hW1.symm
  have hW2' := hW2.symm
  clear b1 b12 b2 z1 z2 z3 hW1 hW2
  go_enter Tryz.func7, Tryz.ntmps7
  go_wp2_with (first
    | (refine wpList_load_mid rfl 25 _ rfl p0 4 rfl [.int .u32 u, .int .u32 g, .slice ag ng cg] _ (World.rangeAt_of_block HZ2.out 4 3) Tryz.underlying25 rfl sizeCred ?_)
    | (refine wpList_store_row rfl 32 _ _ rfl g0 (caC x p v k u g (.slice ag ng cg) (.slice ab nb cb)) rfl rfl 32 _ HZ3.out sizeDCall rfl (caC_one _ _ _ _ _ _ _ _ _ _ _ _) ?_))
  refine bodyPost_ret (results_c rfl _ _ g0 (caC x p v k u g (.slice ag ng cg) (.slice ab nb cb)) _ _ rfl (setRow_heap _ g0 _ _ _ _ HZ3.out) Tryz.underlying32 sizeDCall) rfl ?_
  have hfin := (setRow_mods W2 g0 (caC x p v k u g (.slice ag ng cg) (.slice ab nb cb))).to_below HB2.out HB2.out.size (fun b hb => by have h : b = g0 := hb; have := HG0.out; omega)
  exact ⟨rfl, hfin⟩
set_option maxRecDepth 100000 in
set_option maxHeartbeats 8000000 in
theorem same_yes (w : World) (x p v k u g : Int) (a1 a2 : Option Addr) (n c1 c2 : Nat) (gs : List Int) (d1 d2 : Option Addr) (m e1 e2 : Nat) (body : List Int) (hn : gs.length = n) (hn9 : n ≤ 900000) (h1 : U32s w a1 gs) (h2 : U32s w a2 gs) (hm : body.length = m) (g1 : Bytes w d1 body) (g2 : Bytes w d2 body) :
    Calls Tryz.prog 22 #[.agg (caC x p v k u g (.slice a1 n c1) (.slice d1 m e1)), .agg (caC x p v k u g (.slice a2 n c2) (.slice d2 m e2))] w fun e w' => e = .returned (.bool true) ∧ Below w.heap.size w w' := by
  obtain ⟨p0, hp0⟩ : ∃ g, w.heap.size = g := ⟨_, rfl⟩
  obtain ⟨W1, hW1⟩ : ∃ W, W = w.alloc (.cells (caC x p v k u g (.slice a1 n c1) (.slice d1 m e1)) 28) := ⟨_, rfl⟩
  obtain ⟨q0, hq0⟩ : ∃ g, W1.heap.size = g := ⟨_, rfl⟩
  obtain ⟨W2, hW2⟩ : ∃ W, W = W1.alloc (.cells (caC x p v k u g (.slice a2 n c2) (.slice d2 m e2)) 32) := ⟨_, rfl⟩
  have b1 : Below w.heap.size w W1 := by rw [hW1]; exact below_alloc (Below.refl _ _) (Nat.le_refl _) _
  have b12 : Below W1.heap.size W1 W2 := by rw [hW2]; exact below_alloc (Below.refl _ _) (Nat.le_refl _) _
  have b2 : Below w.heap.size w W2 := b1.trans (b12.mono b1.size)
  have z1 : W1.heap[p0]? = some (.cells (caC x p v k u g (.slice a1 n c1) (.slice d1 m e1)) 28 (0, 0)) := by rw [hW1, ← hp0]; exact alloc_new w _
  have z2 : W2.heap[p0]? = some (.cells (caC x p v k u g (.slice a1 n c1) (.slice d1 m e1)) 28 (0, 0)) := (b12.block p0 (Array.getElem?_eq_some_iff.1 z1).1).trans z1
  have z3 : W2.heap[q0]? = some (.cells (caC x p v k u g (.slice a2 n c2) (.slice d2 m e2)) 32 (0, 0)) := by rw [hW2, ← hq0]; exact alloc_new W1 _
  have x0 := cell_of z2 (i := 0) (v := .int .u32 x) rfl
  have x1 := cell_of z2 (i := 1) (v := .int .u32 p) rfl
  have x2 := cell_of z2 (i := 2) (v := .int .u32 v) rfl
  have x3 := cell_of z2 (i := 3) (v := .int .u32 k) rfl
  have x4 := cell_of z2 (i := 4) (v := .int .u32 u) rfl
  have x5 := cell_of z2 (i := 5) (v := .int .u32 g) rfl
  have x6 := cell_of z2 (i := 6) (v := .slice a1 n c1) rfl
  have x7 := cell_of z2 (i := 7) (v := .slice d1 m e1) rfl
  have y0 := cell_of z3 (i := 0) (v := .int .u32 x) rfl
  have y1 := cell_of z3 (i := 1) (v := .int .u32 p) rfl
  have y2 := cell_of z3 (i := 2) (v := .int .u32 v) rfl
  have y3 := cell_of z3 (i := 3) (v := .int .u32 k) rfl
  have y4 := cell_of z3 (i := 4) (v := .int .u32 u) rfl
  have y5 := cell_of z3 (i := 5) (v := .int .u32 g) rfl
  have y6 := cell_of z3 (i := 6) (v := .slice a2 n c2) rfl
  have y7 := cell_of z3 (i := 7) (v := .slice d2 m e2) rfl
  have v1 := conv0 (g1.later b2) hm (cap := e1)
  have v2 := conv0 (g2.later b2) hm (cap := e2)
  generalize strOfNums body = SB at v1 v2
  have HU1 := hid (h1.later b2)
  have HU2 := hid (h2.later b2)
  have HNN := hid (And.intro hn hn9)
  have HZ2 := hid z2
  have HZ3 := hid z3
  have HB2 := hid b2
  have hW1' := hW1.symm
  have hW2' := hW2.symm
  clear b1 b12 b2 z1 z2 z3 hW1 hW2 h1 h2 g1 g2 hn hm hn9
  go_enter Tryz.func22, Tryz.ntmps22
  go_wp2
  go_loopw [5] (fun i wr => ∃ k : Nat, i = .int .i64 k ∧ k ≤ n ∧ Below W2.heap.size W2 wr) (fun i _ => n - (intOf i).toNat)
  case atStart => exact ⟨0, rfl, Nat.zero_le _, Below.refl _ _⟩
  case round =>
    obtain ⟨k, rfl, hk, hbr⟩ := hrel
    have hzr := (hbr.block p0 (Array.getElem?_eq_some_iff.1 HZ2.out).1).trans HZ2.out
    have hpr := (hbr.block q0 (Array.getElem?_eq_some_iff.1 HZ3.out).1).trans HZ3.out
    have x6 := cell_of hzr (i := 6) (v := .slice a1 n c1) rfl
    have y6 := cell_of hpr (i := 6) (v := .slice a2 n c2) rfl
    have HBR := hid hbr
    by_cases hlt : k < n
    · have hki : (k : Int) < (n : Nat) := by omega
      have hk0 : (0 : Int) ≤ (k : Int) := by omega
      have hwk : IntKind.i64.wrap ((k : Int) + 1) = (k : Int) + 1 := IntWalk.i64_in _ (by have := HNN.out.2; omega)
      obtain ⟨bx, ox, rfl, hcx, _⟩ := (HU1.out.later hbr) k (by have := HNN.out.1; omega)
      obtain ⟨bg, og, rfl, hcg, _⟩ := (HU2.out.later hbr) k (by have := HNN.out.1; omega)
      obtain ⟨z, hz⟩ : ∃ z, gs.getD k 0 = z := ⟨_, rfl⟩
      rw [hz] at hcx hcg
      clear hz hbr hzr hpr
      go_wp2
      go_quiet (fail)
      go_wp2
      go_roundw
      case rel => exact ⟨k + 1, by go_num, by omega, below_drewN HBR.out _⟩
      case measure => simp [intOf]; omega
    · have hki : ¬ ((k : Int) < (n : Nat)) := by omega
      clear hbr hzr hpr
      go_wp2
      go_ret
      have hfin := HB2.out.trans (HBR.out.mono HB2.out.size)
      rw [hp0] at hfin
      exact ⟨rfl, hfin⟩
end Go.Proofs.YtgeecahpfjllgaaGreatDoor
