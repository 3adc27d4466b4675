/- A call written. -/
import Derived.Test.YtbfdkbdjipiliaaDoorXfA
namespace Go.Proofs.YtbfdkbdjipiliaaDoor
open Go.RowKit Go.Maps
set_option linter.unusedVariables false

theorem rw_by {w : World} {S : Nat → Prop} {a : Option Addr} {n c : Nat} {l : List Int} (h : RW w 5 1 (.slice a n c) n (u8s l)) (hl : ∀ x ∈ l, IsB x) (hS : ∀ b, blkV (.slice a n c) = some b → S b) : By w S a l ∧ l.length = n ∧ (0 < n → n ≤ c) := by
  have hlen : l.length = n := by have := h.1; rw [u8s_len] at this; omega
  refine ⟨⟨hl, fun hp => ?_⟩, hlen, fun hp => ?_⟩
  · rcases h.2 with ⟨_, h0⟩ | ⟨b, off, cap, cur, e, hh, h1, _, _, h3⟩
    · omega
    · simp only [Value.slice.injEq] at e
      obtain ⟨rfl, _, _⟩ := e
      exact ⟨b, off, cur, (0, 0), rfl, hS b rfl, hh, fun i hi => (h3 i (by omega)).trans (u8s_get hi)⟩
  · rcases h.2 with ⟨_, h0⟩ | ⟨b, off, cap, cur, e, hh, h1, _, _, h3⟩
    · omega
    · simp only [Value.slice.injEq] at e
      omega
theorem Bytes.keepK {w w' : World} {S' : Nat → Prop} {a : Option Addr} {l : List Int} (h : Bytes w a l) (hk : Kp (fun _ => False) w S' w') : Bytes w' a l := fun i hi => by
  obtain ⟨b, off, e, hc, hb⟩ := h i hi
  exact ⟨b, off, e, hk.cell hc (fun e => e), hb⟩
abbrev caC (x p v k u g : Int) (sg sb : Value) : Array Value := #[.int .u32 x, .int .u32 p, .int .u32 v, .int .u32 k, .int .u32 u, .int .u32 g, sg, sb]
/-- What is done, and bytes behind it. -/
theorem done_push {w w2 : World} {g n c2 : Nat} {l : List Int} (ho : w2.ownsRow w.heap.size 5 1 (.slice (some ⟨g, 0, none⟩) n c2) n (u8s l)) (hl : ∀ x ∈ l, IsB x) (hg : w.heap.size ≤ g) (hb : Below w.heap.size w w2) (hn : l.length = n) (m : List Int) (a : Option Addr) (k c : Nat) (hm : Bytes w2 a m) (hk : m.length = k) (hmx : n + k ≤ 900000) (ty : TypeId) :
    ∃ a' c' w', (Builtin.append_ #[27, 27] ty #[.slice (some ⟨g, 0, none⟩) n c2, .slice a k c]).run Tryd.prog w2 = .ok (.slice a' (n + k) c') w' ∧ By w' (New w) a' (l ++ m) ∧ (0 < n + k → n + k ≤ c') ∧ Below w.heap.size w w' := by
  have hr := RW.of_owns ho
  have hr' : RW w2 5 1 (.slice (some ⟨g, 0, none⟩) n c2) l.length (u8s l) := by rw [hn]; exact hr
  obtain ⟨a', c', w', hrun, hc⟩ := (RWc.refl hr').push hn m a k c hk hm hmx ty
  have hlm : (l ++ m).length = n + k := by rw [List.length_append, hn, hk]
  have h1 := hc.1
  rw [hlm] at h1
  obtain ⟨b1, _, b3⟩ := rw_by (S := New w) h1 (app_isB hl hm.isB) (fun b hb2 => by
    rcases hc.2.2 with e | ⟨x, hx, e⟩
    · rw [e] at hb2; simp [blkV] at hb2; subst hb2; exact hg
    · rw [e] at hb2; simp at hb2; subst hb2; exact Nat.le_trans hb.size hx)
  exact ⟨a', c', w', hrun, b1, b3, hc.2.1.to_below hb hb.size (fun b hb2 => by simp [blkV] at hb2; subst hb2; exact hg)⟩
theorem callL_w (C : Ca) : callL C = nuL 4 [C.xid, 0, 2, C.prog, C.vers, C.proc] ++ bytesBe 4 1 ++ fuL (sysL C.cr) ++ bytesBe 4 0 ++ fuL [] ++ C.body := by
  have e : fuL ([] : List Int) = bytesBe 4 0 := by decide
  rw [e]
  unfold callL
  simp
set_option maxRecDepth 100000 in
set_option maxHeartbeats 4000000 in
theorem Write_any (w : World) (C : Ca) (hC : C.ok) (ag : Option Addr) (ng cg : Nat) (ab : Option Addr) (nb cb : Nat) (hng : C.cr.gids.length = ng) (hcg : ng ≤ cg) (hmg : ng ≤ maxLen) (hG : U32s w ag C.cr.gids) (hnb : C.body.length = nb) (hB : Bytes w ab C.body) (hnb2 : nb ≤ 200000) (m : Nat) (hm : (callL C).length = m) :
    Calls Tryd.prog 13 #[.agg (caC C.xid C.prog C.vers C.proc C.cr.uid C.cr.gid (.slice ag ng cg) (.slice ab nb cb))] w fun e w' => ∃ a2 c2, e = .returned (.slice a2 m c2) ∧ By w' (New w) a2 (callL C) ∧ m ≤ c2 ∧ Below w.heap.size w w' := by
  have hsl := sysL_len C.cr
  have hcw := callL_w C
  obtain ⟨xid, prog, vers, proc, ⟨u, g, gs⟩, body⟩ := C
  obtain ⟨hx, hp, hv, hc, hu, hg, hs⟩ := hC
  simp only at hx hp hv hc hu hg hs hng hG hnb hB hsl hcw
  obtain ⟨CL, hCL⟩ : ∃ x, callL ⟨xid, prog, vers, proc, ⟨u, g, gs⟩, body⟩ = x := ⟨_, rfl⟩
  rw [hCL] at hm hcw ⊢
  obtain ⟨ms, hms⟩ : ∃ x, (sysL ⟨u, g, gs⟩).length = x := ⟨_, rfl⟩
  obtain ⟨W1, hW1⟩ : ∃ W, W = w.alloc (.cells #[.int .u32 xid, .int .u32 prog, .int .u32 vers, .int .u32 proc, .int .u32 u, .int .u32 g, .slice ag ng cg, .slice ab nb cb] 46) := ⟨_, rfl⟩
  have b1 : Below w.heap.size w W1 := by rw [hW1]; exact below_alloc (Below.refl _ _) (Nat.le_refl _) _
  have z1 : W1.heap[w.heap.size]? = some (.cells (caC xid prog vers proc u g (.slice ag ng cg) (.slice ab nb cb)) 46 (0, 0)) := by rw [hW1]; exact alloc_new w _
  have hlt1 : w.heap.size < W1.heap.size := by rw [hW1]; simp
  have HNW := hid (NewWriter_any W1)
  have HZ1 := hid z1
  have HB1 := hid b1
  have HLT := hid hlt1
  have HG := hid (hG.later b1)
  have HBO := hid (hB.later b1)
  have HI := hid (And.intro hu hg)
  have HIX := hid (show ∀ x ∈ [xid, 0, 2, prog, vers, proc], IsU x from fun x hx' => by
    simp only [List.mem_cons, List.mem_nil_iff, or_false] at hx'
    rcases hx' with rfl | rfl | rfl | rfl | rfl | rfl
    · exact hx
    · unfold IsU; omega
    · unfold IsU; omega
    · exact hp
    · exact hv
    · exact hc)
  have HNG := hid hng
  have HNB := hid hnb
  have HCW := hid hcw
  have HM := hid hm
  have HMS := hid hms
  have hms2 : ms = 20 + 4 * min 16 gs.length := by rw [← hms]; exact hsl
  have HMS2 : Hid (ms ≤ 84) := hid (by have := Nat.min_le_left 16 gs.length; omega)
  have hW1' := hW1.symm
  clear hx hp hv hc hu hg hs hng hG hnb hB hsl hcw hm hms hms2 b1 z1 hW1 hCL hlt1
  go_enter Tryd.func13, Tryd.ntmps13
  go_upto_region 5 with (first
    | (go_at_call 19
       (try rw [hW1'])
       refine HNW.out.mono ?_
       rintro e w2 ⟨rfl, hx2, hb2⟩
       obtain ⟨p, hp⟩ : ∃ p, W1.heap.size = p := ⟨_, rfl⟩
       rw [hp] at hx2 ⊢
       have hK2 : Kp (fun _ => False) W1 (fun b => b = p) w2 := ⟨fun b hb => .inr (by rw [hb, hp]; exact Nat.le_refl _), Mods.of_below hb2⟩
       have hz2 := (hK2.block HLT.out (fun e => e)).trans HZ1.out
       have y0 := cell_of hz2 (i := 0) (v := .int .u32 xid) rfl
       have y1 := cell_of hz2 (i := 1) (v := .int .u32 prog) rfl
       have y2 := cell_of hz2 (i := 2) (v := .int .u32 vers) rfl
       have y3 := cell_of hz2 (i := 3) (v := .int .u32 proc) rfl
       have HU1 := hid (WU32_new hx2 [xid, 0, 2, prog, vers, proc] HIX.out 6 rfl (by omega) (by simp))
       simp only [List.map_cons, List.map_nil, List.nil_append] at HU1
       have HK2 := hid hK2
       clear hx2 hb2 hK2 hp HNW hz2)
    | (go_at_call 20
       refine HU1.out.mono ?_
       rintro e w3 ⟨rfl, S3, hx3, hk3⟩
       clear y0 y1 y2 y3
       have hk3' := HK2.out.trans hk3
       have hz3 := (hk3'.block HLT.out (fun e => e)).trans HZ1.out
       have y4 := cell_of hz3 (i := 4) (v := .int .u32 u) rfl
       have y5 := cell_of hz3 (i := 5) (v := .int .u32 g) rfl
       have y6 := cell_of hz3 (i := 6) (v := .slice ag ng cg) rfl
       have HX3 := hid hx3
       have HK3 := hid hk3'
       have HWX := hid (writeUnix_any w3 u g HI.out.1 HI.out.2 ag ng cg gs HNG.out hcg (HG.out.kp hk3' (fun _ _ _ e => e)) hmg ms HMS.out)
       clear hx3 hk3 hk3' HK2 HU1 hz3)
    | (go_at_call 28
       refine HWX.out.mono ?_
       rintro e w4 ⟨a4, c4, rfl, hy4, hc4, hb4⟩
       clear y4 y5 y6
       have hx4 := HX3.out.later hb4
       have hnew : ∀ W S9, Kp S3 w4 S9 W → Bytes W a4 (sysL ⟨u, g, gs⟩) := fun W S9 hk => (hy4.keep (fun b hb hl => hk.block hl (fun e => by have := HX3.out.slt b e; have : w3.heap.size ≤ b := hb; omega))).bytes
       have HP1 := hid (writeProof_any hx4 1 (by unfold IsU; omega) a4 ms c4 (sysL ⟨u, g, gs⟩) HMS.out hnew (by have := HMS2.out; omega) (by rw [nuL_len]; simp))
       have HK4 := hid (HK3.out.trans (Kp.below (S := S3) hb4))
       clear hx4 hnew hy4 hb4 HX3 HK3 HWX)
    | (go_at_call 27
       refine HP1.out.mono ?_
       rintro e w5 ⟨rfl, S5, hx5, hk5⟩
       have HP2 := hid (writeProof_any hx5 0 (by unfold IsU; omega) none 0 0 [] rfl (fun W S2 _ => Bytes.nil_ W none) (by omega) (by simp only [List.length_append, nuL_len, len_be, fuL_len, HMS.out, List.length_cons, List.length_nil]; have := HMS2.out; have := pad4_lt ms; omega))
       have HK5 := hid (HK4.out.trans hk5)
       clear hx5 hk5 HK4 HP1)
    | (go_at_call 27
       refine HP2.out.mono ?_
       rintro e w6 ⟨rfl, S6, hx6, hk6⟩
       have HK6 := hid (HK5.out.trans hk6)
       have HX6 := hid hx6
       clear hx6 hk6 HK5 HP2))
  have hz6 := (HK6.out.block HLT.out (fun e => e)).trans HZ1.out
  have HZ6 := hid hz6
  have HB6 := hid (HBO.out.keepK HK6.out)
  have hX6 := HX6.out
  have hb6 := HK6.out.2.to_below HB1.out HB1.out.size (fun b hb => hb.elim)
  have HW6 := hid hb6
  obtain ⟨L6, hL6⟩ : ∃ x, nuL 4 [xid, 0, 2, prog, vers, proc] ++ bytesBe 4 1 ++ fuL (sysL ⟨u, g, gs⟩) ++ bytesBe 4 0 ++ fuL [] = x := ⟨_, rfl⟩
  have hlen6 : ∃ n6, L6.length = n6 ∧ 0 < n6 ∧ n6 ≤ 600 := ⟨_, rfl, by rw [← hL6]; simp only [List.length_append, nuL_len, len_be, fuL_len, HMS.out, List.length_cons, List.length_nil]; omega, by rw [← hL6]; simp only [List.length_append, nuL_len, len_be, fuL_len, HMS.out, List.length_cons, List.length_nil]; have := HMS2.out; have := pad4_lt ms; have := pad4_lt 0; omega⟩
  obtain ⟨n6, hn6, hp6, hq6⟩ := hlen6
  have HI6 := hid hX6.isB
  have hX6' : WX w6 98 p S6 L6 := by rw [← hL6]; simpa only [List.append_assoc] using hX6
  have HD := hid (fun W (hb : Below w6.heap.size w6 W) => Done_own (hX6'.later hb) n6 hn6 hp6 (by omega))
  have HIB := hid hX6'.isB
  have HCL : Hid (L6 ++ body = CL) := hid (by rw [← hL6, HCW.out])
  have HN6 := hid hn6
  clear hX6 hX6' hz6 hb6 hL6 hn6 HX6
  try simp only [Act.put]
  refine wp_region_held_drew (S := fun W => W.heap[w.heap.size]? = some (.cells (caC xid prog vers proc u g (.slice ag ng cg) (.slice ab nb cb)) 46 (0, 0))) (by kernel_rfl) HZ6.out (fun hS => ?_)
  obtain ⟨v0, hv0⟩ : ∃ W, W = w6.drew := ⟨_, rfl⟩
  rw [← hv0]
  have hB0 : Below w6.heap.size w6 v0 := by rw [hv0]; exact (Below.refl _ _).drew
  have hS0 : v0.heap[w.heap.size]? = some (.cells (caC xid prog vers proc u g (.slice ag ng cg) (.slice ab nb cb)) 46 (0, 0)) := by rw [hv0]; exact HZ6.out
  have HD0 := hid (HD.out v0 hB0)
  have HB0 := hid hB0
  have HBV := hid (HB6.out.later hB0)
  clear hv0 hB0
  refine nany_take 0 25 (.pointer (some ⟨p, 0, none⟩)) rfl rfl (by kernel_rfl) (by kernel_rfl) (by kernel_rfl) (fun _ _ _ h => h) (Or.inl ⟨by rfl, ?_⟩) hS0 ?_
  · rintro w' hS'
    go_simp
  simp only [List.setIfInBounds_toArray, List.set_cons_zero, List.set_cons_succ]
  refine nany_take 2 27 (.pointer (some ⟨w.heap.size, 7, none⟩)) rfl rfl (by kernel_rfl) (by kernel_rfl) (by kernel_rfl) (fun _ _ _ h => h) (Or.inl ⟨by rfl, ?_⟩) hS0 ?_
  · rintro w' hS'
    go_simp
  simp only [List.setIfInBounds_toArray, List.set_cons_zero, List.set_cons_succ]
  refine nany_take 3 28 (.slice ab nb cb) rfl rfl (by kernel_rfl) (by kernel_rfl) (by kernel_rfl) (fun _ _ _ h => h) (Or.inl ⟨by rfl, ?_⟩) hS0 ?_
  · rintro w' hS'
    have y7 := cell_of hS' (i := 7) (v := .slice ab nb cb) rfl
    go_simp
  simp only [List.setIfInBounds_toArray, List.set_cons_zero, List.set_cons_succ]
  refine nany_one 1 (by kernel_rfl) ?_
  refine nop_callE 26 (f := 21) (args := #[.pointer (some ⟨p, 0, none⟩)]) (R := fun v w' => ∃ g2 c2, v = .slice (some ⟨g2, 0, none⟩) n6 c2 ∧ w'.ownsRow v0.heap.size 5 1 v n6 (u8s L6) ∧ v0.heap.size ≤ g2 ∧ Below v0.heap.size v0 w') rfl (by rfl) rfl (by go_simp) (HD0.out.mono (fun e w' h => let ⟨g2, c2, h1, h2, _, h4, _, h6⟩ := h; ⟨_, h1, g2, c2, rfl, h2, h4, h6⟩)) ?_
  rintro v7 w7 ⟨g2, c2, rfl, ho, hg2, hb7⟩
  have hs7 : w7.heap[w.heap.size]? = some (.cells (caC xid prog vers proc u g (.slice ag ng cg) (.slice ab nb cb)) 46 (0, 0)) := (hb7.block _ (Array.getElem?_eq_some_iff.1 hS0).1).trans hS0
  obtain ⟨a8, c8, w8, hap, hy8, hc8, hb8⟩ := done_push ho HIB.out hg2 hb7 HN6.out body ab nb cb (HBV.out.later hb7) HNB.out (by omega) 27
  rw [HCL.out] at hy8
  have hs8 : w8.heap[w.heap.size]? = some (.cells (caC xid prog vers proc u g (.slice ag ng cg) (.slice ab nb cb)) 46 (0, 0)) := (hb8.block _ (Array.getElem?_eq_some_iff.1 hS0).1).trans hS0
  have HY8 := hid hy8
  have HB8 := hid hb8
  have HC8 := hid hc8
  clear ho hg2 hb7 hy8 hb8 hc8
  refine ⟨hs7, ?_⟩
  simp only [List.setIfInBounds_toArray, List.set_cons_zero, List.set_cons_succ]
  refine nany_one 4 (by kernel_rfl) ?_
  refine nop_value' 29 (v := .slice a8 (n6 + nb) c8) (w' := w8) rfl (by rfl) rfl (nop_append (.tmp 26) (.tmp 28) 27 27 rfl (by kernel_rfl) (by kernel_rfl) hap) ?_
  refine ⟨hs8, ?_⟩
  simp only [List.setIfInBounds_toArray, List.set_cons_zero, List.set_cons_succ]
  have hS0 := hs8
  refine nany_take 5 2 (.slice a8 (n6 + nb) c8) rfl rfl (by kernel_rfl) (by kernel_rfl) (by kernel_rfl) (fun _ _ _ h => h) (Or.inl ⟨by rfl, ?_⟩) hS0 ?_
  · rintro w' hS'
    go_simp
  simp only [List.setIfInBounds_toArray, List.set_cons_zero, List.set_cons_succ]
  refine wpAnyH_done (by kernel_rfl) ?_ _
  have hmm : n6 + nb = m := by rw [← HM.out, ← HCL.out, List.length_append, HN6.out, HNB.out]
  go_wp2
  go_ret
  rw [hmm]
  have hc8 := HC8.out (by omega)
  rw [hmm] at hc8
  have hW := HW6.out.trans (HB0.out.mono HW6.out.size)
  exact ⟨a8, c8, rfl, HY8.out.weak (fun b hb _ => Nat.le_trans hW.size hb), hc8, hW.trans (HB8.out.mono hW.size)⟩
end Go.Proofs.YtbfdkbdjipiliaaDoor
