/- RpcCreds: who calls is told. -/
import Derived.Test.YtgeecahpfjllgaaDoorYkA
namespace Go.Proofs.YtgeecahpfjllgaaDoor
open Go.RowKit Go.Maps
set_option linter.unusedVariables false

theorem crd_min (n : Int) (W : World) (ats : Array TypeId) (ty : TypeId) : (Builtin.min_ ats ty #[.int .i64 16, .int .i64 n]).run Tryd.prog W = .ok (.int .i64 (min 16 n)) W := by
  simp [Builtin.min_, Builtin.min2]
  split <;> omega
theorem UT.u32s {w : World} {T : Nat → Prop} {a : Option Addr} {l : List Int} (h : UT w T a l) : U32s w a l := fun i hi => by
  obtain ⟨b, off, e, _, _, hc, hu⟩ := h i hi
  exact ⟨b, off, e, hc, hu⟩
/-- A call as it was written, for who calls. -/
def cdC (u g : Int) (gs : List Int) : Ca := ⟨1, 100003, 3, 1, ⟨u, g, gs⟩, [0, 0, 0, 9]⟩
theorem cdC_ok {u g : Int} {gs : List Int} (hu : IsU u) (hg : IsU g) (hs : ∀ x ∈ gs, IsU x) : (cdC u g gs).ok := ⟨by unfold cdC IsU; simp, by unfold cdC IsU; simp, by unfold cdC IsU; simp, by unfold cdC IsU; simp, hu, hg, hs⟩
theorem cdC_len (u g : Int) (gs : List Int) : (callL (cdC u g gs)).length ≤ 140 ∧ 24 ≤ (callL (cdC u g gs)).length := by
  have h := sysL_len ⟨u, g, gs⟩
  have h4 := pad4_lt (20 + 4 * min 16 gs.length)
  unfold callL cdC
  simp only [List.length_append, nuL_len, fuL_len, len_be, h, List.length_cons, List.length_nil]
  omega
theorem cdC_parse {u g : Int} {gs : List Int} (hu : IsU u) (hg : IsU g) (hs : ∀ x ∈ gs, IsU x) : parseP (callL (cdC u g gs)) = (⟨1, 100003, 3, 1, ⟨u, g, gs.take 16⟩, [0, 0, 0, 9]⟩, 0, []) := by
  rw [parse_call _ (cdC_ok hu hg hs)]
  rfl
def noL : List Int := nuL 4 [1, 0, 2, 100003, 3, 1] ++ [0, 0, 0, 0, 0, 0, 0, 0, 0, 0, 0, 0, 0, 0, 0, 0, 0, 0, 0, 9]
theorem noL_parse : parseP noL = (⟨1, 100003, 3, 1, ⟨65534, 65534, []⟩, [0, 0, 0, 9]⟩, 0, []) := by
  have e : noL = nuL 4 [1, 0, 2, 100003, 3, 1, 0, 0, 0, 0] ++ [0, 0, 0, 9] := by decide
  rw [e, parse_none 1 100003 3 1 [0, 0, 0, 9] (by unfold IsU; simp) (by unfold IsU; simp) (by unfold IsU; simp) (by unfold IsU; simp)]
  rfl
set_option maxRecDepth 100000 in
set_option maxHeartbeats 16000000 in
theorem RpcCreds_walk (w : World) (hG : Gl w) (u g : Int) (hu : IsU u) (hg : IsU g) (ag : Option Addr) (ng cg : Nat) (gs : List Int) (hn : gs.length = ng) (hc : ng ≤ cg) (hmx : ng ≤ maxLen) (hgs : U32s w ag gs) (nn : Bool) :
    Calls Tryd.prog 5 #[.agg (crC u g ag ng cg), .bool nn] w fun e w' => e = .returned (.bool true) ∧ Below w.heap.size w w' := by
  obtain ⟨p0, hp0⟩ : ∃ g, w.heap.size = g := ⟨_, rfl⟩
  obtain ⟨W1, hW1⟩ : ∃ W, W = w.alloc (.cells (crC u g ag ng cg) 27) := ⟨_, rfl⟩
  have b1 : Below w.heap.size w W1 := by rw [hW1]; exact below_alloc (Below.refl _ _) (Nat.le_refl _) _
  have z1 : W1.heap[p0]? = some (.cells (crC u g ag ng cg) 27 (0, 0)) := by rw [hW1, ← hp0]; exact alloc_new w _
  have HKN := hid (known17 W1 (hG.later b1))
  have HZ1 := hid z1
  have HB1 := hid b1
  have HG0 := hid hG
  have HGS := hid (hgs.later b1)
  have HUG := hid (And.intro hu hg)
  have HNN := hid hn
  have HNC := hid (And.intro hc hmx)
  have hW1' := hW1.symm
  clear b1 z1 hW1 hG hgs hu hg hn hc hmx
  by_cases h200 : 200 < ng
  · have h200i : (200 : Int) < (ng : Nat) := by omega
    clear h200
    go_enter Tryd.func5, Tryd.ntmps5
    go_wp2_with (first
      | (go_at_call 7
         (try rw [hW1'])
         refine HKN.out.mono ?_
         rintro e w2 ⟨rfl, hb2⟩
         have hz2 := (hb2.block p0 (Array.getElem?_eq_some_iff.1 HZ1.out).1).trans HZ1.out
         have x2 := cell_of hz2 (i := 2) (v := .slice ag ng cg) rfl
         have HZ2 := hid hz2
         have HB2 := hid (HB1.out.trans (hb2.mono HB1.out.size))
         have HGS2 := hid (HGS.out.later hb2)
         clear hb2 hz2 HKN))
    go_ret
    exact ⟨rfl, HB2.out⟩
  · have h200i : ¬ ((200 : Int) < (ng : Nat)) := by omega
    have HN200 := hid h200
    obtain ⟨m, hm⟩ : ∃ m, (callL (cdC u g gs)).length = m := ⟨_, rfl⟩
    have HML : Hid (m ≤ 140 ∧ 24 ≤ m) := hid (by rw [← hm]; exact cdC_len u g gs)
    have HM := hid hm
    clear h200 hm
    go_enter Tryd.func5, Tryd.ntmps5
    go_upto_region 6 with (first
      | (go_at_call 7
         (try rw [hW1'])
         refine HKN.out.mono ?_
         rintro e w2 ⟨rfl, hb2⟩
         have hz2 := (hb2.block p0 (Array.getElem?_eq_some_iff.1 HZ1.out).1).trans HZ1.out
         have x2 := cell_of hz2 (i := 2) (v := .slice ag ng cg) rfl
         have HZ2 := hid hz2
         have HB2 := hid (HB1.out.trans (hb2.mono HB1.out.size))
         have HGS2 := hid (HGS.out.later hb2)
         clear hb2 hz2 HKN)
      | (refine wpList_load_row rfl 27 _ rfl p0 rfl 27 _ (0, 0) _ HZ2.out Tryd.underlying27 rfl sizeCred ?_
         obtain ⟨gb, hgb⟩ : ∃ g, w2.heap.size = g := ⟨_, rfl⟩
         obtain ⟨W3, hW3⟩ : ∃ W, W = w2.alloc (.cells #[.int .u8 0, .int .u8 0, .int .u8 0, .int .u8 9] 5) := ⟨_, rfl⟩
         have b3 : Below w2.heap.size w2 W3 := by rw [hW3]; exact below_alloc (Below.refl _ _) (Nat.le_refl _) _
         have hbb : By W3 (New w2) (some ⟨w2.heap.size, 0, none⟩) [0, 0, 0, 9] := by rw [hW3]; exact by_const w2 [0, 0, 0, 9] (0, 0) (by simp [IsB])
         rw [hgb] at hbb
         have HWR := hid (Write_any W3 (cdC u g gs) (cdC_ok HUG.out.1 HUG.out.2 HGS.out.isU) ag ng cg (some ⟨gb, 0, none⟩) 4 4 HNN.out HNC.out.1 HNC.out.2 (HGS2.out.later b3) rfl hbb.bytes (by omega) m HM.out)
         have HB3 := hid b3
         have hW3' := hW3.symm
         clear b3 hbb hW3)
      | (go_at_call 17
         (try rw [hW3'])
         refine HWR.out.mono ?_
         rintro e w4 ⟨a4, c4, rfl, hy4, hc4, hb4⟩
         have b24 := HB3.out.trans (hb4.mono HB3.out.size)
         have hz4 := (b24.block p0 (Array.getElem?_eq_some_iff.1 HZ2.out).1).trans HZ2.out
         have HZ4 := hid hz4
         have HB4 := hid (HB2.out.trans (b24.mono HB2.out.size))
         have HGS4 := hid (HGS2.out.later b24)
         have HY4 := hid hy4
         have HC4 := hid hc4
         clear x2 b24 hz4 hy4 hc4 hb4 HWR))
    cases nn with
    | true =>
      obtain ⟨a5, hcut0, hby5⟩ := cut_h a4 m c4 24 HML.out.2 HC4.out
      have hcut : ∀ W, (Instr.slice 22 (.slice a4 m c4) none (some (.int .i64 24)) none).run Tryd.prog W = .ok (.slice a5 24 c4) W := hcut0
      clear hcut0
      have hb5 := hby5 w4 _ HM.out HY4.out.bytes
      rw [callL_24] at hb5
      obtain ⟨a6, c6, w6, hap6, ho6, hb6⟩ := twinO w4 a5 24 c4 _ (by rw [nuL_len]; rfl) (by omega) (by omega) hb5 22
      obtain ⟨W6, hW6⟩ : ∃ W, W = w6.alloc (.cells #[.int .u8 0, .int .u8 0, .int .u8 0, .int .u8 0, .int .u8 0, .int .u8 0, .int .u8 0, .int .u8 0, .int .u8 0, .int .u8 0, .int .u8 0, .int .u8 0, .int .u8 0, .int .u8 0, .int .u8 0, .int .u8 0, .int .u8 0, .int .u8 0, .int .u8 0, .int .u8 9] 5) := ⟨_, rfl⟩
      have b66 : Below w6.heap.size w6 W6 := by rw [hW6]; exact below_alloc (Below.refl _ _) (Nat.le_refl _) _
      have hy20 : By W6 (New w6) (some ⟨w6.heap.size, 0, none⟩) [0, 0, 0, 0, 0, 0, 0, 0, 0, 0, 0, 0, 0, 0, 0, 0, 0, 0, 0, 9] := by rw [hW6]; exact by_const w6 _ (0, 0) (by simp [IsB])
      obtain ⟨g6, cap6, e6, hg6, _, hc6, _, _, _⟩ := owns_cells ho6 (by omega)
      simp only [Value.slice.injEq, true_and] at e6
      obtain ⟨rfl, rfl⟩ := e6
      have ho66 := owns_keep ho6 (fun b hb => b66.block b (owns_lt ho6 hb).1)
      obtain ⟨a8, c8, w8, hap8, hy8, hc8, hb8⟩ := done_push (w := w4) ho66 (nuL_isB 4 _) hc6 (hb6.trans (b66.mono hb6.size)) (by rw [nuL_len]; rfl) _ (some ⟨w6.heap.size, 0, none⟩) 20 20 hy20.bytes rfl (by omega) 22
      have hnoL : nuL 4 [(cdC u g gs).xid, 0, 2, (cdC u g gs).prog, (cdC u g gs).vers, (cdC u g gs).proc] ++ [0, 0, 0, 0, 0, 0, 0, 0, 0, 0, 0, 0, 0, 0, 0, 0, 0, 0, 0, 9] = noL := rfl
      rw [hnoL] at hy8
      have hc8' : 44 ≤ c8 := hc8 (by omega)
      change _ = Result.ok (Value.slice a8 44 c8) w8 at hap8
      have HBW := hid (HB4.out.trans (hb8.mono HB4.out.size))
      have HPA := hid (Parse_any w8 (HG0.out.later HBW.out) a8 44 c8 noL rfl hc8' (by omega) hy8.bytes)
      have HPP := hid noL_parse
      have HAP6 := hid hap6
      have HAP8 := hid hap8
      have hW6' := hW6.symm
      clear hby5 hb5 hap6 ho6 hb6 b66 hy20 ho66 hap8 hy8 hc8 hc8' hb8 hnoL hc6 hg6 hW6
      go_wp2_with (first
        | (at_builtin; refine wpList_append_run rfl _ _ 22 rfl rfl rfl HAP6.out ?_; clear HAP6)
        | (at_builtin; (try rw [hW6']); refine wpList_append_run rfl _ _ 22 rfl rfl rfl HAP8.out ?_; clear HAP8)
        | (go_at_call 8
           refine HPA.out.mono ?_
           rintro e w7 ⟨hb7, hok, _⟩
           rw [HPP.out] at hok
           obtain ⟨ax, nx, cx, ab, nb, cb, rfl, hut, hnx, hcx, hyb, hnb, _⟩ := hok rfl
           have hnb4 : 4 = nb := hnb
           subst hnb4
           have hB7 := HBW.out.trans (hb7.mono HBW.out.size)
           obtain ⟨g2, hg2⟩ : ∃ g, w7.heap.size = g := ⟨_, rfl⟩
           obtain ⟨W8, hW8⟩ : ∃ W, W = w7.alloc (.cells (caC 0 0 0 0 0 0 nilS nilS) 29) := ⟨_, rfl⟩
           obtain ⟨W9, hW9⟩ : ∃ W, W = W8.setRow g2 (caC 1 100003 3 1 65534 65534 (.slice ax nx cx) (.slice ab 4 cb)) := ⟨_, rfl⟩
           have b8 : Below w7.heap.size w7 W8 := by rw [hW8]; exact below_alloc (Below.refl _ _) (Nat.le_refl _) _
           have z8 : W8.heap[g2]? = some (.cells (caC 0 0 0 0 0 0 nilS nilS) 29 (0, 0)) := by rw [hW8, ← hg2]; exact alloc_new w7 _
           have z9 : W9.heap[g2]? = some (.cells (caC 1 100003 3 1 65534 65534 (.slice ax nx cx) (.slice ab 4 cb)) 29 (0, 0)) := by rw [hW9]; exact setRow_heap _ g2 _ _ _ _ z8
           have q9 : Mods (fun b => b = g2) W8 W9 := by rw [hW9]; exact setRow_mods _ _ _
           have b9 : Below w7.heap.size w7 W9 := q9.to_below b8 b8.size (fun b hb => by have h : b = g2 := hb; omega)
           have hB9 := hB7.trans (b9.mono hB7.size)
           have y0 := cell_of z9 (i := 4) (v := .int .u32 65534) rfl
           have y1 := cell_of z9 (i := 5) (v := .int .u32 65534) rfl
           have y2 := cell_of z9 (i := 6) (v := .slice ax nx cx) rfl
           have y7 := cell_of z9 (i := 7) (v := .slice ab 4 cb) rfl
           have hcv := conv0 (hyb.later b9).bytes (k := 4) (cap := cb) rfl
           have hst : strOfNums [0, 0, 0, 9] = { data := #[0, 0, 0, 9] } := by decide
           have hbd : (⟨1, 100003, 3, 1, ⟨65534, 65534, []⟩, [0, 0, 0, 9]⟩ : Ca).body = [0, 0, 0, 9] := rfl
           rw [hbd, hst] at hcv
           have HZ8 := hid z8
           have HZ9 := hid z9
           have HB9 := hid hB9
           have HUT := hid ((hut.later b9).u32s)
           have HNX := hid (And.intro hnx hcx)
           have HB79 := hid (hb7.trans (b9.mono hb7.size))
           have hW8' := hW8.symm
           have hW9' := hW9.symm
           clear hb7 hok hut hnx hcx hyb hnb hB7 b8 z8 z9 q9 b9 hB9 hst hbd hW8 hW9 HPA)
        | ((try rw [hW8']); refine wpList_store_row rfl 29 _ _ rfl g2 (caC 1 100003 3 1 65534 65534 (.slice ax nx cx) (.slice ab 4 cb)) rfl rfl 29 _ HZ8.out sizeCall rfl (caC_one _ _ _ _ _ _ _ _ _ _ _ _) ?_; (try rw [hW9'])))
      have hn0 : 0 = nx := HNX.out.1
      clear HNX
      go_ret
      refine ⟨?_, HB9.out⟩
      subst hn0
      rfl
    | false =>
      have HBW := HB4
      obtain ⟨LC, hLC⟩ : ∃ l, callL (cdC u g gs) = l := ⟨_, rfl⟩
      have hpp := cdC_parse HUG.out.1 HUG.out.2 HGS.out.isU
      have hy4 := HY4.out
      have hm4 := HM.out
      rw [hLC] at hpp hy4 hm4
      obtain ⟨g16, hg16⟩ : ∃ l, gs.take 16 = l := ⟨_, rfl⟩
      rw [hg16] at hpp
      have HPP := hid hpp
      have HPA := hid (Parse_any w4 (HG0.out.later HBW.out) a4 m c4 LC hm4 HC4.out (by have := HML.out; omega) hy4.bytes)
      obtain ⟨K, hK⟩ : ∃ k, min 16 ng = k := ⟨_, rfl⟩
      have HK16 : Hid (g16.length = K) := hid (by rw [← hg16, List.length_take, HNN.out]; exact hK)
      have HKN : Hid (K ≤ ng) := hid (by omega)
      have hmin : ∀ ats ty W, (Builtin.min_ ats ty #[.int .i64 16, .int .i64 (ng : Int)]).run Tryd.prog W = .ok (.int .i64 (K : Int)) W := fun ats ty W => by rw [crd_min]; congr 2; omega
      have x40 := cell_of HZ4.out (i := 0) (v := .int .u32 u) rfl
      have x41 := cell_of HZ4.out (i := 1) (v := .int .u32 g) rfl
      have x42 := cell_of HZ4.out (i := 2) (v := .slice ag ng cg) rfl
      have HG16 := hid hg16
      clear hLC hpp hy4 hm4 hg16 hK
      go_upto_region 9 with (first
        | (go_at_call 8
           refine HPA.out.mono ?_
           rintro e w7 ⟨hb7, hok, _⟩
           rw [HPP.out] at hok
           obtain ⟨ax, nx, cx, ab, nb, cb, rfl, hut, hnx, hcx, hyb, hnb, _⟩ := hok rfl
           have hnb4 : 4 = nb := hnb
           subst hnb4
           have hB7 := HBW.out.trans (hb7.mono HBW.out.size)
           obtain ⟨g2, hg2⟩ : ∃ g, w7.heap.size = g := ⟨_, rfl⟩
           obtain ⟨W8, hW8⟩ : ∃ W, W = w7.alloc (.cells (caC 0 0 0 0 0 0 nilS nilS) 29) := ⟨_, rfl⟩
           obtain ⟨W9, hW9⟩ : ∃ W, W = W8.setRow g2 (caC 1 100003 3 1 u g (.slice ax nx cx) (.slice ab 4 cb)) := ⟨_, rfl⟩
           have b8 : Below w7.heap.size w7 W8 := by rw [hW8]; exact below_alloc (Below.refl _ _) (Nat.le_refl _) _
           have z8 : W8.heap[g2]? = some (.cells (caC 0 0 0 0 0 0 nilS nilS) 29 (0, 0)) := by rw [hW8, ← hg2]; exact alloc_new w7 _
           have z9 : W9.heap[g2]? = some (.cells (caC 1 100003 3 1 u g (.slice ax nx cx) (.slice ab 4 cb)) 29 (0, 0)) := by rw [hW9]; exact setRow_heap _ g2 _ _ _ _ z8
           have q9 : Mods (fun b => b = g2) W8 W9 := by rw [hW9]; exact setRow_mods _ _ _
           have b9 : Below w7.heap.size w7 W9 := q9.to_below b8 b8.size (fun b hb => by have h : b = g2 := hb; omega)
           have hB9 := hB7.trans (b9.mono hB7.size)
           have y0 := cell_of z9 (i := 4) (v := .int .u32 u) rfl
           have y1 := cell_of z9 (i := 5) (v := .int .u32 g) rfl
           have y2 := cell_of z9 (i := 6) (v := .slice ax nx cx) rfl
           have y7 := cell_of z9 (i := 7) (v := .slice ab 4 cb) rfl
           have hcv := conv0 (hyb.later b9).bytes (k := 4) (cap := cb) rfl
           have hst : strOfNums [0, 0, 0, 9] = { data := #[0, 0, 0, 9] } := by decide
           have hbd : (⟨1, 100003, 3, 1, ⟨u, g, g16⟩, [0, 0, 0, 9]⟩ : Ca).body = [0, 0, 0, 9] := rfl
           rw [hbd, hst] at hcv
           have HZ8 := hid z8
           have HZ9 := hid z9
           have HB9 := hid hB9
           have HUT := hid ((hut.later b9).u32s)
           have HNX := hid (And.intro hnx hcx)
           have HB79 := hid (hb7.trans (b9.mono hb7.size))
           have hW8' := hW8.symm
           have hW9' := hW9.symm
           clear hb7 hok hut hnx hcx hyb hnb hB7 b8 z8 z9 q9 b9 hB9 hst hbd hW8 hW9 HPA)
        | ((try rw [hW8']); refine wpList_store_row rfl 29 _ _ rfl g2 (caC 1 100003 3 1 u g (.slice ax nx cx) (.slice ab 4 cb)) rfl rfl 29 _ HZ8.out sizeCall rfl (caC_one _ _ _ _ _ _ _ _ _ _ _ _) ?_; (try rw [hW9'])))
      have hnk : nx = K := by have h1 := HNX.out.1; have h2 := HK16.out; have h3 : g16.length = nx := h1; omega
      subst hnk
      have hB49 := HB79.out
      have hz9 := (hB49.block p0 (Array.getElem?_eq_some_iff.1 HZ4.out).1).trans HZ4.out
      have x0 := cell_of hz9 (i := 0) (v := .int .u32 u) rfl
      have x1 := cell_of hz9 (i := 1) (v := .int .u32 g) rfl
      have x2 := cell_of hz9 (i := 2) (v := .slice ag ng cg) rfl
      have HZP := hid hz9
      have HGS9 := hid (HGS4.out.later hB49)
      clear x40 x41 x42 hB49 hz9 HZ4 HZ8 hW8' hW9'
      go_wp2
      go_loopw [8] (fun i wr => ∃ k : Nat, i = .int .i64 k ∧ k ≤ nx ∧ Below W9.heap.size W9 wr) (fun i _ => nx - (intOf i).toNat)
      case atStart => exact ⟨0, rfl, Nat.zero_le _, Below.refl _ _⟩
      case round =>
        obtain ⟨k, rfl, hk, hbr⟩ := hrel
        have hzr := (hbr.block g2 (Array.getElem?_eq_some_iff.1 HZ9.out).1).trans HZ9.out
        have hpr := (hbr.block p0 (Array.getElem?_eq_some_iff.1 HZP.out).1).trans HZP.out
        have y2 := cell_of hzr (i := 6) (v := .slice ax nx cx) rfl
        have x2 := cell_of hpr (i := 2) (v := .slice ag ng cg) rfl
        have HBR := hid hbr
        by_cases hlt : k < nx
        · have hki : (k : Int) < (nx : Nat) := by omega
          have hkg : (k : Int) < (ng : Nat) := by have := HKN.out; omega
          have hkn : k < ng := by have := HKN.out; omega
          have hk0 : (0 : Int) ≤ (k : Int) := by omega
          obtain ⟨bx, ox, rfl, hcx, _⟩ := (HUT.out.later hbr) k (by have := HNX.out.1; omega)
          obtain ⟨bg, og, rfl, hcg, _⟩ := (HGS9.out.later hbr) k (by rw [HNN.out]; exact hkn)
          have hee : g16.getD k 0 = gs.getD k 0 := by
            have h16 : k < 16 := by have h1 := HK16.out; rw [← HG16.out, List.length_take] at h1; omega
            have hg : k < gs.length := by rw [HNN.out]; exact hkn
            rw [← HG16.out]; simp [List.getD, hg, h16]
          have hce : wr.cell? ⟨bx, ox + k, none⟩ = some (.int .u32 (gs.getD k 0)) := by rw [← hee]; exact hcx
          obtain ⟨v, hv⟩ : ∃ v, gs.getD k 0 = v := ⟨_, rfl⟩
          rw [hv] at hce hcg
          clear hcx hee hv hbr hzr hpr
          go_wp2
          go_quiet (fail)
          go_wp2
          go_roundw
          case rel => exact ⟨k + 1, by go_num, by omega, below_drewN HBR.out _⟩
          case measure => simp [intOf]; omega
        · have hki : ¬ ((k : Int) < (nx : Nat)) := by omega
          clear hbr hzr hpr
          go_wp2
          go_ret
          have hfin := HB9.out.trans (HBR.out.mono HB9.out.size)
          rw [hp0] at hfin
          exact ⟨rfl, hfin⟩
end Go.Proofs.YtgeecahpfjllgaaDoor
