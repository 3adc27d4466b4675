/- The document's call written. -/
import Derived.Test.YtgeecahpfjllgaaGreatDoorYnB
import Derived.Test.YtgeecahpfjllgaaGreatDoorYlC
namespace Go.Proofs.YtgeecahpfjllgaaGreatDoor
open Go.RowKit Go.Maps
set_option linter.unusedVariables false

theorem u32s_cells {w : World} {a : Option Addr} {l : List Int} (h : U32s w a l) {b off : Nat} (e : a = some ⟨b, off, none⟩) : ∀ j u, (u32v l)[j]? = some u → w.cell? ((⟨b, off, none⟩ : Addr).add j) = some u := fun j u hj => by
  have hl : j < l.length := by have := (List.getElem?_eq_some_iff.1 hj).1; simpa using this
  obtain ⟨b2, off2, e2, hc, _⟩ := h j hl
  rw [e] at e2
  obtain ⟨rfl, rfl⟩ : b2 = b ∧ off2 = off := by simp at e2; omega
  rw [add_addr]
  rw [u32v_get hl] at hj
  rw [hc, ← hj]
/-- 'append' of numbers to a row of five in full. -/
theorem five_push (w : World) (g : Nat) (vs gs : List Int) (hv : U32s w (some ⟨g, 0, none⟩) vs) (hv5 : vs.length = 5) (a : Option Addr) (n c : Nat) (hn : gs.length = n) (hm : U32s w a gs) (h16 : n ≤ 16) (ty : TypeId) :
    ∃ a' c' w', (Builtin.append_ #[23, 23] ty #[.slice (some ⟨g, 0, none⟩) 5 5, .slice a n c]).run Tryz.prog w = .ok (.slice a' (5 + n) c') w' ∧ U32s w' a' (vs ++ gs) ∧ Below w.heap.size w w' := by
  obtain ⟨i0, hi, hz0, hz1, hz2⟩ := info32
  by_cases hp : 0 < n
  · obtain ⟨b, off, e, _, _⟩ := hm 0 (by omega)
    rw [Nat.add_zero] at *
    subst e
    obtain ⟨v', w', hr, ho, hgr⟩ := run_append_arg_grows (P := Tryz.prog) w 23 ty 22 i0 _ 1 4 Tryz.underlying23 hi hz0 hz1 hz2 rfl (by omega) ⟨g, 0, none⟩ 5 5 (u32v vs) (by simp [hv5]) (u32s_cells hv rfl) ⟨b, off, none⟩ n c (u32v gs) (by simp [hn]) (u32s_cells hm rfl) (by omega) (by unfold maxLen; omega) (by omega)
    have ho2 : w'.ownsRow w.heap.size 22 1 v' (5 + n) (u32v (vs ++ gs)) := by rw [show u32v (vs ++ gs) = u32v vs ++ u32v gs by simp]; exact ho
    obtain ⟨a', c', rfl, hc', hlen', hut⟩ := UT.of_owns (T := fun _ => True) ho2 (fun x hx => by rcases List.mem_append.1 hx with h | h; exact hv.isU x h; exact hm.isU x h) (fun _ _ => trivial)
    exact ⟨a', c', w', hr, hut.toU, ⟨hgr.os, hgr.tape, hgr.output, hgr.size, fun k hk => hgr.block k hk (by simp)⟩⟩
  · obtain rfl : n = 0 := by omega
    obtain rfl : gs = [] := List.eq_nil_of_length_eq_zero hn
    have hs : Src Tryz.prog i0.size 23 (.slice a 0 c) 0 [] w := by
      cases a with
      | none => exact Src.ofNil _ Tryz.underlying23 c
      | some ad => exact Src.ofSlice _ Tryz.underlying23 ad 0 c [] (by simp) (fun j u hj => by simp at hj) (fun u hu => by simp at hu)
    exact ⟨some ⟨g, 0, none⟩, 5, w, run_append_nothing _ 23 23 ty 22 i0 Tryz.underlying23 hi _ _ _ (Nat.le_refl _) _ hs, by simpa using hv, Below.refl _ _⟩
theorem isU_five {u g k : Int} (hu : IsU u) (hg : IsU g) (hk : IsU k) : ∀ y ∈ [0, 0, u, g, k], IsU y := fun y hy => by
  simp only [List.mem_cons, List.mem_nil_iff, or_false] at hy
  rcases hy with rfl | rfl | rfl | rfl | rfl
  · unfold IsU; omega
  · unfold IsU; omega
  · exact hu
  · exact hg
  · exact hk
theorem isU_seven {x p v c : Int} (hx : IsU x) (hp : IsU p) (hv : IsU v) (hc : IsU c) : ∀ y ∈ [x, 0, 2, p, v, c, 1], IsU y := fun y hy => by
  simp only [List.mem_cons, List.mem_nil_iff, or_false] at hy
  rcases hy with rfl | rfl | rfl | rfl | rfl | rfl | rfl
  · exact hx
  · unfold IsU; omega
  · unfold IsU; omega
  · exact hp
  · exact hv
  · exact hc
  · unfold IsU; omega
set_option maxRecDepth 100000 in
set_option maxHeartbeats 4000000 in
theorem dWrite_any (w : World) (C : Ca) (hC : C.ok) (ag : Option Addr) (ng cg : Nat) (ab : Option Addr) (nb cb : Nat) (hng : C.cr.gids.length = ng) (hcg : ng ≤ cg) (hmg : ng ≤ maxLen) (hG : U32s w ag C.cr.gids) (hnb : C.body.length = nb) (hB : Bytes w ab C.body) (hnb2 : nb ≤ 200000) (m : Nat) (hm : (callL C).length = m) :
    Calls Tryz.prog 6 #[.agg (caC C.xid C.prog C.vers C.proc C.cr.uid C.cr.gid (.slice ag ng cg) (.slice ab nb cb))] w fun e w' => ∃ a2 c2, e = .returned (.slice a2 m c2) ∧ By w' (New w) a2 (callL C) ∧ Below w.heap.size w w' := by
  have hcw := callL_w C
  obtain ⟨xid, prog, vers, proc, ⟨u, g, gs⟩, body⟩ := C
  obtain ⟨hx, hp, hv, hc, hu, hg, hs⟩ := hC
  simp only at hx hp hv hc hu hg hs hng hG hnb hB hcw
  obtain ⟨CL, hCL⟩ : ∃ x, callL ⟨xid, prog, vers, proc, ⟨u, g, gs⟩, body⟩ = x := ⟨_, rfl⟩
  rw [hCL] at hm hcw ⊢
  obtain ⟨k, hk⟩ : ∃ k, min 16 ng = k := ⟨_, rfl⟩
  have hk16 : k ≤ 16 := by omega
  have hkc : k ≤ cg := by omega
  have hkn : k ≤ ng := by omega
  have hsys : nuL 4 ([0, 0, u, g, (k : Int)] ++ gs.take k) = sysL ⟨u, g, gs⟩ := by
    unfold sysL
    simp only [hng, hk]
    try simp
  have e0 : fuL ([] : List Int) = bytesBe 4 0 := by decide
  have hcw2 : nuL 4 [xid, 0, 2, prog, vers, proc, 1] ++ fuL (sysL ⟨u, g, gs⟩) ++ bytesBe 4 0 ++ bytesBe 4 0 ++ body = CL := by
    rw [hcw, e0]
    simp
  obtain ⟨SY, hSY⟩ : ∃ x, sysL ⟨u, g, gs⟩ = x := ⟨_, rfl⟩
  rw [hSY] at hsys hcw2
  have hsl : SY.length = 4 * (5 + k) := by rw [← hsys, nuL_len]; simp; omega
  obtain ⟨W1, hW1⟩ : ∃ W, W = w.alloc (.cells #[.int .u32 xid, .int .u32 prog, .int .u32 vers, .int .u32 proc, .int .u32 u, .int .u32 g, .slice ag ng cg, .slice ab nb cb] 32) := ⟨_, rfl⟩
  have b1 : Below w.heap.size w W1 := by rw [hW1]; exact below_alloc (Below.refl _ _) (Nat.le_refl _) _
  have z1 : W1.heap[w.heap.size]? = some (.cells (caC xid prog vers proc u g (.slice ag ng cg) (.slice ab nb cb)) 32 (0, 0)) := by rw [hW1]; exact alloc_new w _
  have hlt1 : w.heap.size < W1.heap.size := by rw [hW1]; simp
  have x0 := cell_of z1 (i := 0) (v := .int .u32 xid) rfl
  have x1 := cell_of z1 (i := 1) (v := .int .u32 prog) rfl
  have x2 := cell_of z1 (i := 2) (v := .int .u32 vers) rfl
  have x3 := cell_of z1 (i := 3) (v := .int .u32 proc) rfl
  have HR1 := hid (drow_new W1 [xid, 0, 2, prog, vers, proc, 1] (isU_seven hx hp hv hc) 7 rfl (by omega) 7 28 rfl)
  simp only [List.map_cons, List.map_nil] at HR1
  have qm : ∀ ats ty W, (Builtin.min_ ats ty #[.int .i64 16, .int .i64 (ng : Int)]).run Tryz.prog W = .ok (.int .i64 (k : Int)) W := fun ats ty W => by
    rw [run_min3]
    have : min (16 : Int) (ng : Int) = (k : Int) := by omega
    rw [this]
  have qs := cut_u32s ag ng cg k hkc
  have hw32 : IntKind.u32.wrap (k : Int) = k := IntWalk.u32_in _ (by omega)
  have HZ1 := hid z1
  have HB1 := hid b1
  have HLT := hid hlt1
  have HG := hid ((hG.later b1).take k)
  have HGL : Hid ((gs.take k).length = k) := hid (by rw [List.length_take]; omega)
  have HBO := hid (hB.later b1)
  have HI5 := hid (isU_five (u := u) (g := g) (k := (k : Int)) hu hg (by unfold IsU; omega))
  have HNB := hid hnb
  have HCW := hid hcw2
  have HM := hid hm
  have HSY := hid hsys
  have HSL := hid hsl
  have HK16 := hid hk16
  have HIS := hid (show ∀ x ∈ SY, IsB x by rw [← hsys]; exact nuL_isB 4 _)
  have hW1' := hW1.symm
  clear hx hp hv hc hu hg hs hng hG hnb hB hcw hcw2 hm hsys hSY hsl hCL hk hk16 hkn b1 z1 hW1 hlt1 e0
  generalize gs.take k = gk at *
  go_enter Tryz.func6, Tryz.ntmps6
  go_upto_region 8 with (first
    | (go_at_call 18
       refine HR1.out.mono ?_
       rintro e w2 ⟨a2, c2, rfl, hr2, hs2, hb2⟩
       clear x0 x1 x2 x3
       obtain ⟨p, hp⟩ : ∃ p, w2.heap.size = p := ⟨_, rfl⟩
       obtain ⟨W3, hW3⟩ : ∃ W, W = w2.alloc (.cells #[.slice a2 28 c2] 57) := ⟨_, rfl⟩
       have b3 : Below w2.heap.size w2 W3 := by rw [hW3]; exact below_alloc (Below.refl _ _) (Nat.le_refl _) _
       have X3 : WX W3 57 p (fun b => b = p ∨ blkV (.slice a2 28 c2) = some b) (nuL 4 [xid, 0, 2, prog, vers, proc, 1]) :=
         ⟨by decide, nuL_isB 4 _, ⟨.slice a2 28 c2, by rw [hW3, ← hp]; exact alloc_new w2 _, by rw [nuL_len]; exact hr2.later b3, fun b hb => .inr hb⟩, .inl rfl, fun b hb => by
           rcases hb with rfl | hb
           · rw [hW3, ← hp]; simp
           · exact (hr2.later b3).lt hb⟩
       have hlt2 : w.heap.size < p := by rw [← hp]; exact Nat.lt_of_lt_of_le HLT.out hb2.size
       have b13 : Below W1.heap.size W1 W3 := hb2.trans (b3.mono hb2.size)
       have HN3 := hid (show ∀ b, (b = p ∨ blkV (.slice a2 28 c2) = some b) → W1.heap.size ≤ b from fun b hb => by
         rcases hb with rfl | hb
         · rw [← hp]; exact hb2.size
         · exact hs2 b hb)
       have z3 : W3.heap[w.heap.size]? = some (.cells (caC xid prog vers proc u g (.slice ag ng cg) (.slice ab nb cb)) 32 (0, 0)) := (b13.block _ HLT.out).trans HZ1.out
       have y4 := cell_of z3 (i := 4) (v := .int .u32 u) rfl
       have y5 := cell_of z3 (i := 5) (v := .int .u32 g) rfl
       have y6 := cell_of z3 (i := 6) (v := .slice ag ng cg) rfl
       obtain ⟨W4, hW4⟩ : ∃ W, W = W3.alloc (.cells #[.int .u32 0, .int .u32 0, .int .u32 u, .int .u32 g, .int .u32 (k : Int)] 22) := ⟨_, rfl⟩
       have b4 : Below W3.heap.size W3 W4 := by rw [hW4]; exact below_alloc (Below.refl _ _) (Nat.le_refl _) _
       have u4 : U32s W4 (some ⟨W3.heap.size, 0, none⟩) [0, 0, u, g, (k : Int)] := by rw [hW4]; exact u32s_lit W3 [0, 0, u, g, (k : Int)] HI5.out
       have z4 : W4.heap[w.heap.size]? = some (.cells (caC xid prog vers proc u g (.slice ag ng cg) (.slice ab nb cb)) 32 (0, 0)) := (b4.block _ (Nat.lt_of_lt_of_le HLT.out b13.size)).trans z3
       have y7 := cell_of z4 (i := 6) (v := .slice ag ng cg) rfl
       obtain ⟨a5, c5, w5, hap, hu5, hb5⟩ := five_push W4 W3.heap.size _ gk u4 rfl ag k cg HGL.out (HG.out.later (b13.trans (b4.mono b13.size))) HK16.out 23
       have b35 : Below W3.heap.size W3 w5 := b4.trans (hb5.mono b4.size)
       have HR2 := hid (drow_any w5 a5 (5 + k) c5 ([0, 0, u, g, (k : Int)] ++ gk) (by rw [List.length_append, HGL.out]; rfl) (by have := HK16.out; omega) hu5 (4 * (5 + k)) rfl)
       rw [HSY.out] at HR2
       have HAP := hid hap
       have HX3 := hid X3
       have HB13 := hid b13
       have HB35 := hid b35
       have HP := hid hp
       have hW3' := hW3.symm
       have hW4' := hW4.symm
       clear HR1 hr2 hs2 hb2 hW3 hW4 b3 X3 hlt2 b13 z3 b4 u4 z4 hap hu5 hb5 b35
       try rw [hp] at hW3' ⊢)
    | (at_builtin; refine wpList_append_run rfl _ _ 23 rfl rfl rfl HAP.out ?_; clear HAP)
    | (go_at_call 18
       refine HR2.out.mono ?_
       rintro e w6 ⟨a6, c6, rfl, hr6, hs6, hb6⟩
       have b36 : Below W3.heap.size W3 w6 := HB35.out.trans (hb6.mono HB35.out.size)
       have X6 := HX3.out.later b36
       obtain ⟨q6, _, _⟩ := rw_by (S := New w5) hr6 HIS.out (fun b hb => hs6 b hb)
       have HY := hid (rWBytes_any X6 (4 * (5 + k)) c6 a6 SY HSL.out (fun W S9 hk9 => (q6.keep (fun b hb hl => hk9.block hl (fun e9 => by have := HX3.out.slt b e9; have h3 : w5.heap.size ≤ b := hb; have := HB35.out.size; omega))).bytes) (by have := HK16.out; omega) (by rw [nuL_len]; simp; have := HK16.out; omega))
       have HK6 := hid (Kp.below (S := (fun b => b = p ∨ blkV (.slice a2 28 c2) = some b)) b36)
       clear hr6 hs6 hb6 b36 X6 q6 HR2 HX3 HB35)
    | (go_at_call 19
       refine HY.out.mono ?_
       rintro e w7 ⟨rfl, S7, hx7, hk7⟩
       have HU1 := hid (rWU32_any hx7 0 (by unfold IsU; omega) (by simp only [List.length_append, nuL_len, fuL_len, HSL.out, List.length_cons, List.length_nil]; have := HK16.out; have := pad4_lt (4 * (5 + k)); omega))
       have HK7 := hid (HK6.out.trans hk7)
       clear hx7 hk7 HY HK6)
    | (go_at_call 20
       refine HU1.out.mono ?_
       rintro e w8 ⟨rfl, S8, hx8, hk8⟩
       have HU2 := hid (rWU32_any hx8 0 (by unfold IsU; omega) (by simp only [List.length_append, nuL_len, fuL_len, len_be, HSL.out, List.length_cons, List.length_nil]; have := HK16.out; have := pad4_lt (4 * (5 + k)); omega))
       have HK8 := hid (HK7.out.trans hk8)
       clear hx8 hk8 HU1 HK7)
    | (go_at_call 20
       refine HU2.out.mono ?_
       rintro e w9 ⟨rfl, S9, hx9, hk9⟩
       have HX9 := hid hx9
       have HK9 := hid (HK8.out.trans hk9)
       clear hx9 hk9 HU2 HK8))

  have hlp : w.heap.size < W3.heap.size := Nat.lt_of_lt_of_le HLT.out HB13.out.size
  have hn3 : ¬ (w.heap.size = p ∨ blkV (.slice a2 28 c2) = some w.heap.size) := fun e => by have := HN3.out _ e; have := HLT.out; omega
  have hz9 := (HK9.out.block hlp hn3).trans ((HB13.out.block _ HLT.out).trans HZ1.out)
  have hB9 : Bytes w9 ab body := by
    have h1 := (HBO.out.later HB13.out)
    exact (HBO.out.later (HK9.out.2.to_below HB13.out HB13.out.size HN3.out))
  have hW9 : Below w.heap.size w w9 := HB1.out.trans ((HK9.out.2.to_below HB13.out HB13.out.size HN3.out).mono HB1.out.size)
  have hS9 : ∀ b, S9 b → w.heap.size ≤ b := fun b hb => by
    have := HLT.out
    have := HB13.out.size
    rcases HK9.out.1 b hb with h | h
    · have := HN3.out b h; omega
    · omega
  have hX9 := HX9.out
  obtain ⟨L9, hL9⟩ : ∃ x, nuL 4 [xid, 0, 2, prog, vers, proc, 1] ++ fuL SY ++ bytesBe 4 0 ++ bytesBe 4 0 = x := ⟨_, rfl⟩
  have HCL : Hid (L9 ++ body = CL) := hid (by rw [← hL9, HCW.out])
  rw [hL9] at hX9
  have hlen9 : ∃ n9, L9.length = n9 ∧ n9 ≤ 900 := ⟨_, rfl, by rw [← hL9]; simp only [List.length_append, nuL_len, fuL_len, len_be, HSL.out, List.length_cons, List.length_nil]; have := HK16.out; have := pad4_lt (4 * (5 + k)); omega⟩
  obtain ⟨n9, hn9, hq9⟩ := hlen9
  obtain ⟨v9, k1, k2, k3⟩ := hX9.box
  obtain ⟨a9, c9, rfl⟩ := k2.shape
  rw [hn9] at k1 k2 k3
  have HNQ := hid (HK9.out.off hlp hn3)
  have k3' := k3
  have HNP := hid (hX9.ne k1 k2)
  have HIB := hid hX9.isB
  have HQ9 := hid k2
  have HS9 := hid (fun b hb => hS9 b (k3 b hb))
  have HB9 := hid hB9
  have HW9 := hid hW9
  have HN9 := hid hn9
  have HSS : Hid (w9.heap[w.heap.size]? = some (.cells (caC xid prog vers proc u g (.slice ag ng cg) (.slice ab nb cb)) 32 (0, 0)) ∧ w9.heap[p]? = some (.cells #[.slice a9 n9 c9] 57 (0, 0))) := hid ⟨hz9, k1⟩
  clear hlp hn3 hz9 hB9 hW9 hS9 hX9 hL9 k1 k2 k3 hn9 HX9
  try simp only [Act.put]
  refine wp_region_held_drew (S := fun W => W.heap[w.heap.size]? = some (.cells (caC xid prog vers proc u g (.slice ag ng cg) (.slice ab nb cb)) 32 (0, 0)) ∧ W.heap[p]? = some (.cells #[.slice a9 n9 c9] 57 (0, 0))) (by kernel_rfl) HSS.out (fun hS => ?_)
  obtain ⟨v0, hv0⟩ : ∃ W, W = w9.drew := ⟨_, rfl⟩
  rw [← hv0]
  have hB0 : Below w9.heap.size w9 v0 := by rw [hv0]; exact (Below.refl _ _).drew
  have hS0 : v0.heap[w.heap.size]? = some (.cells (caC xid prog vers proc u g (.slice ag ng cg) (.slice ab nb cb)) 32 (0, 0)) ∧ v0.heap[p]? = some (.cells #[.slice a9 n9 c9] 57 (0, 0)) := by rw [hv0]; exact HSS.out
  have hW0 := HW9.out.trans (hB0.mono HW9.out.size)
  obtain ⟨a8, c8, w8, hap, hy8, hc8, hb8, hm8⟩ := own_push (w := w) (HQ9.out.later hB0) HIB.out HS9.out hW0 body ab nb cb HNB.out (HB9.out.later hB0) (by omega) 26
  rw [HCL.out] at hy8
  have hs8 : w8.heap[w.heap.size]? = some (.cells (caC xid prog vers proc u g (.slice ag ng cg) (.slice ab nb cb)) 32 (0, 0)) ∧ w8.heap[p]? = some (.cells #[.slice a9 n9 c9] 57 (0, 0)) := ⟨(hm8.block _ (Array.getElem?_eq_some_iff.1 hS0.1).1 (fun e => HNQ.out (k3' _ e))).trans hS0.1, (hm8.block _ (Array.getElem?_eq_some_iff.1 hS0.2).1 HNP.out).trans hS0.2⟩
  have HAP9 := hid hap
  have HY8 := hid hy8
  have HB8 := hid hb8
  clear hv0 hB0 hW0 hap hy8 hc8 hb8 hm8
  refine nany_take 0 47 (.pointer (some ⟨p, 0, none⟩)) rfl rfl (by kernel_rfl) (by kernel_rfl) (by kernel_rfl) (fun _ _ _ h => h) (Or.inl ⟨by rfl, ?_⟩) hS0 ?_
  · rintro w' hS'
    go_simp
  simp only [List.setIfInBounds_toArray, List.set_cons_zero, List.set_cons_succ]
  refine nany_take 1 48 (.pointer (some ⟨p, 0, none⟩)) rfl rfl (by kernel_rfl) (by kernel_rfl) (by kernel_rfl) (fun _ _ _ h => h) (Or.inl ⟨by rfl, ?_⟩) hS0 ?_
  · rintro w' hS'
    go_simp
  simp only [List.setIfInBounds_toArray, List.set_cons_zero, List.set_cons_succ]
  refine nany_take 2 49 (.pointer (some ⟨p, 0, none⟩)) rfl rfl (by kernel_rfl) (by kernel_rfl) (by kernel_rfl) (fun _ _ _ h => h) (Or.inl ⟨by rfl, ?_⟩) hS0 ?_
  · rintro w' hS'
    go_simp
  simp only [List.setIfInBounds_toArray, List.set_cons_zero, List.set_cons_succ]
  refine nany_take 3 50 (.slice a9 n9 c9) rfl rfl (by kernel_rfl) (by kernel_rfl) (by kernel_rfl) (fun _ _ _ h => h) (Or.inl ⟨by rfl, ?_⟩) hS0 ?_
  · rintro w' hS'
    have y0 := cell_of hS'.2 (i := 0) (v := .slice a9 n9 c9) rfl
    go_simp
  simp only [List.setIfInBounds_toArray, List.set_cons_zero, List.set_cons_succ]
  refine nany_take 4 51 (.pointer (some ⟨w.heap.size, 7, none⟩)) rfl rfl (by kernel_rfl) (by kernel_rfl) (by kernel_rfl) (fun _ _ _ h => h) (Or.inl ⟨by rfl, ?_⟩) hS0 ?_
  · rintro w' hS'
    go_simp
  simp only [List.setIfInBounds_toArray, List.set_cons_zero, List.set_cons_succ]
  refine nany_take 5 52 (.slice ab nb cb) rfl rfl (by kernel_rfl) (by kernel_rfl) (by kernel_rfl) (fun _ _ _ h => h) (Or.inl ⟨by rfl, ?_⟩) hS0 ?_
  · rintro w' hS'
    have y7 := cell_of hS'.1 (i := 7) (v := .slice ab nb cb) rfl
    go_simp
  simp only [List.setIfInBounds_toArray, List.set_cons_zero, List.set_cons_succ]
  refine nany_one 6 (by kernel_rfl) ?_
  refine nop_value' 53 (v := .slice a8 (n9 + nb) c8) (w' := w8) rfl (by rfl) rfl (nop_append (.tmp 50) (.tmp 52) 26 26 rfl (by kernel_rfl) (by kernel_rfl) HAP9.out) ?_
  refine ⟨hs8, ?_⟩
  simp only [List.setIfInBounds_toArray, List.set_cons_zero, List.set_cons_succ]
  have hS8 := hs8
  clear hS0
  have hS0 := hS8
  refine nany_take 7 2 (.slice a8 (n9 + nb) c8) rfl rfl (by kernel_rfl) (by kernel_rfl) (by kernel_rfl) (fun _ _ _ h => h) (Or.inl ⟨by rfl, ?_⟩) hS0 ?_
  · rintro w' hS'
    go_simp
  simp only [List.setIfInBounds_toArray, List.set_cons_zero, List.set_cons_succ]
  refine wpAnyH_done (by kernel_rfl) ?_ _
  have hmm : n9 + nb = m := by rw [← HM.out, ← HCL.out, List.length_append, HN9.out, HNB.out]
  go_wp2
  go_ret
  rw [hmm]
  exact ⟨a8, c8, rfl, HY8.out, HB8.out⟩
end Go.Proofs.YtgeecahpfjllgaaGreatDoor
