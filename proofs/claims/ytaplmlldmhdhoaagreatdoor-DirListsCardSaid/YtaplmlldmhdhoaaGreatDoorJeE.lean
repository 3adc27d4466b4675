/- alter, Take. -/
import Derived.Test.YtaplmlldmhdhoaaGreatDoorJeD
import Derived.Test.YtaplmlldmhdhoaaGreatDoorJbA
namespace Go.Proofs.YtaplmlldmhdhoaaGreatDoor
open Go.RowKit Go.Maps
set_option linter.unusedVariables false
variable {w : World} {pv n N D hi : Nat} {S T : Nat → Prop} {i : Int} {base : Value} {P : Int → Option (List Int)} {bc c : Nat → List Int} {ptr : Nat → Nat} {L : List Ln} {X : Array Value} {pe : Addr}
theorem kp_undrew {W W' : World} {S S' : Nat → Prop} (h : Kp S W.drew S' W') : Kp S W S' W' := ⟨h.1, h.2.os, h.2.tape, h.2.output, h.2.size, h.2.block⟩
theorem Read_line (hD : Dw w pv S N i base T bc n P c) (h : Dd N D hi c ptr L) (hX : InoIs X ((L.length * 32 : Nat) : Int) ptr) (p : Nat) (hp : p < L.length) :
    Calls Tryz.prog 36 #[ptrV pv, .agg X, .int .u64 ((p * 32 : Nat) : Int), n64 32] w fun e w' => ∃ g, e = .returned (.tuple #[.slice (some ⟨g, 0, none⟩) 32 32, .nilIface]) ∧ By w' (fun _ => True) (some ⟨g, 0, none⟩) (lineB (L.getD p noLn)) ∧ Below w.heap.size w w' := by
  have hc : Calls Tryz.prog 36 #[ptrV pv, .agg X, .int .u64 ((p * 32 : Nat) : Int), n64 32] w _ := Read_lines hD h hX p 1 (by omega) (by omega) (by omega)
  refine hc.mono ?_
  rintro e w' ⟨g, R, rfl, _, hg, hl, hb⟩
  have e1 := hl.line 0 (by omega)
  rw [Nat.zero_mul, List.drop_zero, List.take_of_length_le (by rw [hl.len]; omega), Nat.add_zero] at e1
  refine ⟨g, rfl, ?_, hb⟩
  rw [← e1]
  exact ⟨hl.isB, fun _ => ⟨g, 0, _, _, rfl, trivial, hg, fun j hj => by rw [Nat.zero_add, List.getElem?_toArray, u8s_get hj]⟩⟩
set_option maxRecDepth 100000 in
set_option maxHeartbeats 4000000 in
theorem alter_ok (hD : Dw w pv S N i base T bc n P c) (hd : Dd N D hi c ptr L) (hDD : planD N i = (D : Int)) (hX : InoIs X ((L.length * 32 : Nat) : Int) ptr) (hG : Gl w) (hn : n < 700000) (p : Nat) (hp : p < L.length) (hi0 : (L.getD p noLn).i ≠ 0) (a : Option Addr) (ln cp : Nat) (l : List Int) (hl : l.length = ln) (hl0 : 0 < ln) (hl2 : ln ≤ 32) (hlc : ln ≤ cp) (hy : By w (fun _ => True) a l) (c' : Nat → List Int) (hc' : c' = updN c (ptr (p / 16)) (layL (c (ptr (p / 16))) (p % 16 * 32) l)) :
    Calls Tryz.prog 17 #[ptrV pv, .agg X, n64 p, .slice a ln cp] w fun e w' => ∃ S' n' P', e = .returned .nilIface ∧ Dw w' pv S' N i base T bc n' P' c' ∧ n' ≤ n + 1000 ∧ Kp S w S' w' := by
  have hwr := write_one hd hp l (by omega) (by omega)
  rw [← hc'] at hwr
  have hm96 := hd.max
  have hXs := hX.sz
  obtain ⟨xo, hxo⟩ : ∃ x, x = L.getD p noLn := ⟨_, rfl⟩
  have hok : LnOk xo := by rw [hxo]; exact hd.ok p hp
  obtain ⟨b, hb⟩ : ∃ b, w.heap.size = b := ⟨_, rfl⟩
  obtain ⟨W1, hW1⟩ : ∃ W, W = w.alloc (.cells X 31) := ⟨_, rfl⟩
  have b1 : Below w.heap.size w W1 := by rw [hW1]; exact (Below.refl _ _).alloc (Nat.le_refl _) _
  have k1 : W1.heap[b]? = some (.cells X 31 (0, 0)) := by rw [hW1, ← hb]; exact alloc_new w _
  have HRD := Read_line (w := W1.drew) (hD.later b1.drew) hd hX p hp
  rw [← hxo] at HRD
  replace HRD := hid HRD
  have HX1 : Hid (W1.drew.heap[b]? = some (.cells X 31 (0, 0))) := hid k1
  have HDE := hid (fun (W : World) (g : Nat) (hy : By W (fun _ => True) (some ⟨g, 0, none⟩) (lineB xo)) => decoded_line W p g 0 32 xo hok (Nat.le_refl _) hy)
  have HFR := hid (fun (W : World) => isFree_no W (n64 p) xo.i (strOfNums xo.nm) (by rw [hxo]; exact hi0))
  have HWR0 := hid (fun (W : World) (hb : Below w.heap.size w W) => Write_ok (hD.later hb) (hG.later hb) hn X _ ptr hX (by omega) (by omega) D hDD (FU N hi) hd.bits (p * 32) l a ln cp hl hl0 (by omega) hlc (hy.later hb) (by omega) 1 (by omega) (FU N hi) ptr hwr)
  have HNB : Hid (¬ S b) := hid (fun h => by have := hD.s b h; omega)
  have HP : Hid (p < 97) := hid (by omega)
  have HXS := hid hXs
  have HB1 := hid b1
  have HB := hid hb
  clear hwr hm96 hXs hxo hok b1 k1 hD hd hDD hX hG hn hp hi0 hl hl0 hl2 hlc hy hc'
  go_enter Tryz.func17, Tryz.ntmps17
  go_upto_region 1 with (first | (rw [← hW1]; clear hW1) | (rw [hb]; clear hb))
  refine wp_region_held_drew (S := fun w' => w'.heap[b]? = some (.cells X 31 (0, 0))) (by kernel_rfl) HX1.out (fun hS => ?_)
  refine nany_take 0 12 (ptrV pv) rfl rfl (by kernel_rfl) (by kernel_rfl) (by kernel_rfl) (fun _ _ _ h => h) (Or.inl ⟨by rfl, ?_⟩) hS ?_
  · rintro w' hS'
    go_simp
  simp only [List.setIfInBounds_toArray, List.set_cons_zero, List.set_cons_succ]
  refine nany_take 1 13 (.agg X) rfl rfl (by kernel_rfl) (by kernel_rfl) (by kernel_rfl) (fun _ _ _ h => h) (Or.inl ⟨by rfl, ?_⟩) hS ?_
  · rintro w' hS'
    exact ex_load 31 (.tmp 5) rfl b rfl 31 X (0, 0) _ hS' Tryz.underlying31 (by rw [HXS.out]; exact sizeIno)
  simp only [List.setIfInBounds_toArray, List.set_cons_zero, List.set_cons_succ]
  refine nany_take 2 14 (n64 p) rfl rfl (by kernel_rfl) (by kernel_rfl) (by kernel_rfl) (fun _ _ _ h => h) (Or.inl ⟨by rfl, ?_⟩) hS ?_
  · rintro w' hS'
    go_simp
  simp only [List.setIfInBounds_toArray, List.set_cons_zero, List.set_cons_succ]
  refine nany_one 3 (by kernel_rfl) ?_
  refine nop_callE 15 (f := 23) (args := #[n64 p]) (R := fun v w' => v = .int .u64 ((p * 32 : Nat) : Int) ∧ w' = W1.drew) rfl (by rfl) rfl (by go_simp) ((startOf_any _ p (by have := HP.out; omega)).mono (fun e w' h => ⟨_, h.1, rfl, h.2⟩)) ?_
  rintro v w3 ⟨rfl, hw3⟩
  rw [hw3]
  clear hw3 w3
  refine ⟨hS, ?_⟩
  simp only [List.setIfInBounds_toArray, List.set_cons_zero, List.set_cons_succ]
  refine nany_one 4 (by kernel_rfl) ?_
  refine nop_callE 16 (f := 36) (args := #[ptrV pv, .agg X, .int .u64 ((p * 32 : Nat) : Int), n64 32]) (R := fun v w' => ∃ g, v = .tuple #[.slice (some ⟨g, 0, none⟩) 32 32, .nilIface] ∧ By w' (fun _ => True) (some ⟨g, 0, none⟩) (lineB xo) ∧ Below W1.heap.size W1 w') rfl (by rfl) rfl (by go_simp) (HRD.out.mono (fun e w' h => by obtain ⟨g, h1, h2, h3⟩ := h; exact ⟨_, h1, g, rfl, h2, below_undrew h3⟩)) ?_
  rintro v w4 ⟨g, rfl, hy4, hb4⟩
  have hS4 : w4.heap[b]? = some (.cells X 31 (0, 0)) := (hb4.block b (Array.getElem?_eq_some_iff.1 HX1.out).1).trans hS
  refine ⟨hS4, ?_⟩
  simp only [List.setIfInBounds_toArray, List.set_cons_zero, List.set_cons_succ]
  refine nany_take 5 11 (.tuple #[.slice (some ⟨g, 0, none⟩) 32 32, .nilIface]) rfl rfl (by kernel_rfl) (by kernel_rfl) (by kernel_rfl) (fun _ _ _ h => h) (Or.inl ⟨by rfl, ?_⟩) hS4 ?_
  · rintro w' hS'
    go_simp
  simp only [List.setIfInBounds_toArray, List.set_cons_zero, List.set_cons_succ]
  refine nany_take 6 17 (.slice (some ⟨g, 0, none⟩) 32 32) rfl rfl (by kernel_rfl) (by kernel_rfl) (by kernel_rfl) (fun _ _ _ h => h) (Or.inl ⟨by rfl, ?_⟩) hS4 ?_
  · rintro w' hS'
    go_simp
  simp only [List.setIfInBounds_toArray, List.set_cons_zero, List.set_cons_succ]
  refine nany_take 7 18 (.nilIface) rfl rfl (by kernel_rfl) (by kernel_rfl) (by kernel_rfl) (fun _ _ _ h => h) (Or.inl ⟨by rfl, ?_⟩) hS4 ?_
  · rintro w' hS'
    go_simp
  simp only [List.setIfInBounds_toArray, List.set_cons_zero, List.set_cons_succ]
  refine nany_take 8 9 (.slice (some ⟨g, 0, none⟩) 32 32) rfl rfl (by kernel_rfl) (by kernel_rfl) (by kernel_rfl) (fun _ _ _ h => h) (Or.inl ⟨by rfl, ?_⟩) hS4 ?_
  · rintro w' hS'
    go_simp
  simp only [List.setIfInBounds_toArray, List.set_cons_zero, List.set_cons_succ]
  refine nany_take 9 10 (.nilIface) rfl rfl (by kernel_rfl) (by kernel_rfl) (by kernel_rfl) (fun _ _ _ h => h) (Or.inl ⟨by rfl, ?_⟩) hS4 ?_
  · rintro w' hS'
    go_simp
  simp only [List.setIfInBounds_toArray, List.set_cons_zero, List.set_cons_succ]
  refine wpAnyH_done (by kernel_rfl) ?_ _
  have hDE := HDE.out w4 g hy4
  replace hDE := hid hDE
  have HB4 := hid hb4
  have HS4 := hid hS4
  clear hS hy4 hb4 hS4 HDE HRD
  go_wp2_with fail
  refine hDE.out.mono ?_
  rintro e w5 ⟨rfl, hb5⟩
  have hfr := hid (HFR.out w5)
  have HB5 := hid hb5
  clear hb5 hDE HFR
  unfold lnV
  go_wp2_with fail
  refine hfr.out.mono ?_
  rintro e w6 ⟨rfl, hb6⟩
  have hB16 : Below W1.heap.size W1 w6 := HB4.out.trans ((HB5.out.trans (hb6.mono HB5.out.size)).mono HB4.out.size)
  have hB6 : Below w.heap.size w w6 := HB1.out.trans (hB16.mono HB1.out.size)
  have HB6 := hid hB6
  have HX6 : Hid (w6.drew.heap[b]? = some (.cells X 31 (0, 0))) := hid ((hB16.block b (Array.getElem?_eq_some_iff.1 HX1.out).1).trans HX1.out)
  have HWR := hid (HWR0.out w6.drew hB6.drew)
  clear hb6 hB16 hB6 hfr
  go_upto_region 6 with fail
  refine wp_region_held_drew (S := fun w' => w'.heap[b]? = some (.cells X 31 (0, 0))) (by kernel_rfl) HX6.out (fun hS => ?_)
  refine nany_take 0 28 (ptrV pv) rfl rfl (by kernel_rfl) (by kernel_rfl) (by kernel_rfl) (fun _ _ _ h => h) (Or.inl ⟨by rfl, ?_⟩) hS ?_
  · rintro w' hS'
    go_simp
  simp only [List.setIfInBounds_toArray, List.set_cons_zero, List.set_cons_succ]
  refine nany_take 1 29 (.agg X) rfl rfl (by kernel_rfl) (by kernel_rfl) (by kernel_rfl) (fun _ _ _ h => h) (Or.inl ⟨by rfl, ?_⟩) hS ?_
  · rintro w' hS'
    exact ex_load 31 (.tmp 5) rfl b rfl 31 X (0, 0) _ hS' Tryz.underlying31 (by rw [HXS.out]; exact sizeIno)
  simp only [List.setIfInBounds_toArray, List.set_cons_zero, List.set_cons_succ]
  refine nany_take 2 30 (n64 p) rfl rfl (by kernel_rfl) (by kernel_rfl) (by kernel_rfl) (fun _ _ _ h => h) (Or.inl ⟨by rfl, ?_⟩) hS ?_
  · rintro w' hS'
    go_simp
  simp only [List.setIfInBounds_toArray, List.set_cons_zero, List.set_cons_succ]
  refine nany_take 4 32 (.slice a ln cp) rfl rfl (by kernel_rfl) (by kernel_rfl) (by kernel_rfl) (fun _ _ _ h => h) (Or.inl ⟨by rfl, ?_⟩) hS ?_
  · rintro w' hS'
    go_simp
  simp only [List.setIfInBounds_toArray, List.set_cons_zero, List.set_cons_succ]
  refine nany_one 3 (by kernel_rfl) ?_
  refine nop_callE 31 (f := 23) (args := #[n64 p]) (R := fun v w' => v = .int .u64 ((p * 32 : Nat) : Int) ∧ w' = w6.drew) rfl (by rfl) rfl (by go_simp) ((startOf_any _ p (by have := HP.out; omega)).mono (fun e w' h => ⟨_, h.1, rfl, h.2⟩)) ?_
  rintro v w3 ⟨rfl, hw3⟩
  rw [hw3]
  clear hw3 w3
  refine ⟨hS, ?_⟩
  simp only [List.setIfInBounds_toArray, List.set_cons_zero, List.set_cons_succ]
  refine nany_one 5 (by kernel_rfl) ?_
  refine nop_callE 33 (f := 22) (args := #[ptrV pv, .agg X, .int .u64 ((p * 32 : Nat) : Int), .slice a ln cp]) (R := fun v w' => ∃ X', v = .tuple #[.agg X', .nilIface] ∧ ∃ S' n' P', Dw w' pv S' N i base T bc n' P' c' ∧ n' ≤ n + 1000 ∧ Kp S w6 S' w') rfl (by rfl) rfl (by go_simp) (HWR.out.mono (fun e w' h => by obtain ⟨X', h1, _, S', n', P', h2, h3, h4⟩ := h; exact ⟨_, h1, X', rfl, S', n', P', h2, h3, kp_undrew h4⟩)) ?_
  rintro v w8 ⟨X', rfl, S', n', P', hd8, hn8, hk8⟩
  have hS8 : w8.heap[b]? = some (.cells X 31 (0, 0)) := (hk8.block (Array.getElem?_eq_some_iff.1 HX6.out).1 HNB.out).trans hS
  refine ⟨hS8, ?_⟩
  simp only [List.setIfInBounds_toArray, List.set_cons_zero, List.set_cons_succ]
  refine nany_take 6 27 (.tuple #[.agg X', .nilIface]) rfl rfl (by kernel_rfl) (by kernel_rfl) (by kernel_rfl) (fun _ _ _ h => h) (Or.inl ⟨by rfl, ?_⟩) hS8 ?_
  · rintro w' hS'
    go_simp
  simp only [List.setIfInBounds_toArray, List.set_cons_zero, List.set_cons_succ]
  refine nany_take 7 34 (.agg X') rfl rfl (by kernel_rfl) (by kernel_rfl) (by kernel_rfl) (fun _ _ _ h => h) (Or.inl ⟨by rfl, ?_⟩) hS8 ?_
  · rintro w' hS'
    go_simp
  simp only [List.setIfInBounds_toArray, List.set_cons_zero, List.set_cons_succ]
  refine nany_take 8 35 (.nilIface) rfl rfl (by kernel_rfl) (by kernel_rfl) (by kernel_rfl) (fun _ _ _ h => h) (Or.inl ⟨by rfl, ?_⟩) hS8 ?_
  · rintro w' hS'
    go_simp
  simp only [List.setIfInBounds_toArray, List.set_cons_zero, List.set_cons_succ]
  refine nany_take 9 10 (.nilIface) rfl rfl (by kernel_rfl) (by kernel_rfl) (by kernel_rfl) (fun _ _ _ h => h) (Or.inl ⟨by rfl, ?_⟩) hS8 ?_
  · rintro w' hS'
    go_simp
  simp only [List.setIfInBounds_toArray, List.set_cons_zero, List.set_cons_succ]
  refine wpAnyH_done (by kernel_rfl) ?_ _
  have HD8 := hid hd8
  have HN8 := hid hn8
  have HK8 : Hid (Kp S w S' w8) := hid ((Kp.below HB6.out).trans hk8)
  clear hS hS8 hd8 hn8 hk8
  go_wp2
  go_ret
  exact ⟨S', n', P', rfl, HD8.out, HN8.out, HK8.out⟩
set_option maxRecDepth 100000 in
set_option maxHeartbeats 1000000 in
theorem isPlace_yes (w : World) (hX : InoIs X ((L.length * 32 : Nat) : Int) ptr) (hl : L.length ≤ 96) (p : Nat) (hp : p < L.length) : Calls Tryz.prog 16 #[.agg X, n64 p] w fun e w' => e = .returned (.bool true) ∧ Below w.heap.size w w' := by
  obtain ⟨b, hb⟩ : ∃ b, w.heap.size = b := ⟨_, rfl⟩
  obtain ⟨W1, hW1⟩ : ∃ W, W = w.alloc (.cells X 31) := ⟨_, rfl⟩
  have b1 : Below w.heap.size w W1 := by rw [hW1]; exact (Below.refl _ _).alloc (Nat.le_refl _) _
  have k1 : W1.heap[b]? = some (.cells X 31 (0, 0)) := by rw [hW1, ← hb]; exact alloc_new w _
  have HPL := hid (places_any W1 X ptr L.length hX hl)
  have hlt : (p : Int) < L.length := by omega
  have h0 : (0 : Int) ≤ p := by omega
  have HXS := hid hX.sz
  have HK := hid k1
  have HB1 := hid b1
  have HBW := hid hb
  clear hX hl hp b1 k1
  go_enter Tryz.func16, Tryz.ntmps16
  go_wp2_with (first | (rw [← hW1]; clear hW1) | (rw [hb]; clear hb) | (refine load_rowG rfl 31 _ rfl b rfl 31 X (0, 0) _ HK.out Tryz.underlying31 (by rw [HXS.out]; exact sizeIno) ?_))
  refine HPL.out.mono ?_
  rintro e w2 ⟨rfl, hb2⟩
  have HB2 := hid (HB1.out.trans (hb2.mono HB1.out.size))
  clear hb2 HPL
  go_wp2
  go_ret
  exact ⟨rfl, HB2.out⟩
set_option maxRecDepth 100000 in
set_option maxHeartbeats 4000000 in
theorem Take_ok (hD : Dw w pv S N i base T bc n P c) (hd : Dd N D hi c ptr L) (hDD : planD N i = (D : Int)) (hX : InoIs X ((L.length * 32 : Nat) : Int) ptr) (hG : Gl w) (hn : n < 700000) (p : Nat) (hp2 : 2 ≤ p) (hp : p < L.length) (hi0 : (L.getD p noLn).i ≠ 0) :
    Calls Tryz.prog 8 #[ptrV pv, .agg X, n64 p] w fun e w' => ∃ c' S' n' P', e = .returned .nilIface ∧ Dd N D hi c' ptr (L.set p noLn) ∧ (∀ k, k ≠ ptr (p / 16) → c' k = c k) ∧ Dw w' pv S' N i base T bc n' P' c' ∧ n' ≤ n + 1000 ∧ Kp S w S' w' := by
  obtain ⟨c', hc'⟩ : ∃ c', c' = updN c (ptr (p / 16)) (layL (c (ptr (p / 16))) (p % 16 * 32) (List.replicate 32 0)) := ⟨_, rfl⟩
  have hset : Dd N D hi c' ptr (L.set p noLn) := by rw [hc']; exact hd.set hp noLn noLn_ok (List.replicate 32 0) (by simp) (by rw [List.drop_eq_nil_of_le (by rw [lineB_len (hd.ok p hp)]; simp), List.append_nil, lineB_no])
  have hoff : ∀ k, k ≠ ptr (p / 16) → c' k = c k := fun k hk => by rw [hc']; exact updN_other _ _ hk
  have hm96 := hd.max
  have hXs := hX.sz
  have mk : ∀ W : World, (Instr.makeSlice 59 (.int .i64 32) (.int .i64 32)).run Tryz.prog W = .ok (.slice (some ⟨W.heap.size, 0, none⟩) 32 32) (W.alloc (.cells (madeCells #[.int .u8 0] 32) 5)) := run_make_row' (P := Tryz.prog) 59 5 (.int .u8 0) 1 Tryz.underlying59 info5 rfl .i64 .i64 32 (by omega) (by omega)
  obtain ⟨b, hb⟩ : ∃ b, w.heap.size = b := ⟨_, rfl⟩
  obtain ⟨W1, hW1⟩ : ∃ W, W = w.alloc (.cells X 31) := ⟨_, rfl⟩
  have b1 : Below w.heap.size w W1 := by rw [hW1]; exact (Below.refl _ _).alloc (Nat.le_refl _) _
  have k1 : W1.heap[b]? = some (.cells X 31 (0, 0)) := by rw [hW1, ← hb]; exact alloc_new w _
  have HIP := hid (isPlace_yes W1 hX hm96 p hp)
  have HAL0 := hid (fun (W : World) (g : Nat) (hb : Below w.heap.size w W) (hy : By W (fun _ => True) (some ⟨g, 0, none⟩) (List.replicate 32 0)) => alter_ok (hD.later hb) hd hDD hX (hG.later hb) hn p hp hi0 (some ⟨g, 0, none⟩) 32 32 (List.replicate 32 0) (by simp) (by omega) (by omega) (Nat.le_refl _) hy c' hc')
  have HNB : Hid (¬ S b) := hid (fun h => by have := hD.s b h; omega)
  have HRES := hid (And.intro hset hoff)
  have HK1 := hid k1
  have HB1 := hid b1
  have HXS := hid hXs
  have HB := hid hb
  have e0 : ((p : Int) == 0) = false := by rw [beq_eq_false_iff_ne]; omega
  have e1 : ((p : Int) == 1) = false := by rw [beq_eq_false_iff_ne]; omega
  clear hc' hset hoff hm96 hXs b1 k1 hD hd hDD hX hG hn hp2 hp hi0
  go_enter Tryz.func8, Tryz.ntmps8
  go_wp2_with (first | (rw [← hW1]; clear hW1) | (rw [hb]; clear hb) | (refine load_rowG rfl 31 _ rfl b rfl 31 X (0, 0) _ HK1.out Tryz.underlying31 (by rw [HXS.out]; exact sizeIno) ?_))
  refine HIP.out.mono ?_
  rintro e w2 ⟨rfl, hb2⟩
  have hB2 : Below w.heap.size w w2 := HB1.out.trans (hb2.mono HB1.out.size)
  have x2 : w2.heap[b]? = some (.cells X 31 (0, 0)) := (hb2.block b (Array.getElem?_eq_some_iff.1 HK1.out).1).trans HK1.out
  obtain ⟨g5, hg5⟩ : ∃ g, w2.drew.heap.size = g := ⟨_, rfl⟩
  obtain ⟨w5, hw5⟩ : ∃ W, W = w2.drew.alloc (.cells (madeCells #[.int .u8 0] 32) 5) := ⟨_, rfl⟩
  have b5 : Below w2.drew.heap.size w2.drew w5 := by rw [hw5]; exact (Below.refl _ _).alloc (Nat.le_refl _) _
  have hB5 : Below w.heap.size w w5 := hB2.trans ((below_undrew b5).mono hB2.size)
  have hy5 : By w5 (fun _ => True) (some ⟨g5, 0, none⟩) (List.replicate 32 0) := by
    have := zerosN_by w2.drew 32
    rw [← hw5, hg5] at this
    exact this
  have HX3 : Hid (w2.drew.heap[b]? = some (.cells X 31 (0, 0))) := hid x2
  have HX5 : Hid (w5.heap[b]? = some (.cells X 31 (0, 0))) := hid ((b5.block b (Array.getElem?_eq_some_iff.1 x2).1).trans x2)
  have HAL := hid (HAL0.out w5 g5 hB5 hy5)
  have HB5 := hid hB5
  have HW5 := hid hw5
  have HG5 := hid hg5
  clear hb2 hB2 x2 hg5 hw5 b5 hB5 hy5 HIP
  go_upto_region 3 with fail
  refine wp_region_held_drew (S := fun w' => w'.heap[b]? = some (.cells X 31 (0, 0))) (by kernel_rfl) HX3.out (fun hS => ?_)
  refine nany_take 0 20 (ptrV pv) rfl rfl (by kernel_rfl) (by kernel_rfl) (by kernel_rfl) (fun _ _ _ h => h) (Or.inl ⟨by rfl, ?_⟩) hS ?_
  · rintro w' hS'
    go_simp
  simp only [List.setIfInBounds_toArray, List.set_cons_zero, List.set_cons_succ]
  refine nany_take 1 21 (.agg X) rfl rfl (by kernel_rfl) (by kernel_rfl) (by kernel_rfl) (fun _ _ _ h => h) (Or.inl ⟨by rfl, ?_⟩) hS ?_
  · rintro w' hS'
    exact ex_load 31 (.tmp 4) rfl b rfl 31 X (0, 0) _ hS' Tryz.underlying31 (by rw [HXS.out]; exact sizeIno)
  simp only [List.setIfInBounds_toArray, List.set_cons_zero, List.set_cons_succ]
  refine nany_take 2 22 (n64 p) rfl rfl (by kernel_rfl) (by kernel_rfl) (by kernel_rfl) (fun _ _ _ h => h) (Or.inl ⟨by rfl, ?_⟩) hS ?_
  · rintro w' hS'
    go_simp
  simp only [List.setIfInBounds_toArray, List.set_cons_zero, List.set_cons_succ]
  refine nany_one 3 (by kernel_rfl) ?_
  refine nop_value' 23 (v := .slice (some ⟨g5, 0, none⟩) 32 32) (w' := w5) rfl (by rfl) rfl (by rw [HW5.out, ← HG5.out]; go_simp) ?_
  refine ⟨HX5.out, ?_⟩
  simp only [List.setIfInBounds_toArray, List.set_cons_zero, List.set_cons_succ]
  refine nany_one 4 (by kernel_rfl) ?_
  refine nop_callE 24 (f := 17) (args := #[ptrV pv, .agg X, n64 p, .slice (some ⟨g5, 0, none⟩) 32 32]) (R := fun v w' => v = .nilIface ∧ ∃ S' n' P', Dw w' pv S' N i base T bc n' P' c' ∧ n' ≤ n + 1000 ∧ Kp S w5 S' w') rfl (by rfl) rfl (by go_simp) (HAL.out.mono (fun e w' h => by obtain ⟨S', n', P', h1, h2, h3, h4⟩ := h; exact ⟨_, h1, rfl, S', n', P', h2, h3, h4⟩)) ?_
  rintro v w8 ⟨rfl, S', n', P', hd8, hn8, hk8⟩
  have hS8 : w8.heap[b]? = some (.cells X 31 (0, 0)) := (hk8.block (Array.getElem?_eq_some_iff.1 HX5.out).1 HNB.out).trans HX5.out
  refine ⟨hS8, ?_⟩
  simp only [List.setIfInBounds_toArray, List.set_cons_zero, List.set_cons_succ]
  refine nany_take 5 6 (.nilIface) rfl rfl (by kernel_rfl) (by kernel_rfl) (by kernel_rfl) (fun _ _ _ h => h) (Or.inl ⟨by rfl, ?_⟩) hS8 ?_
  · rintro w' hS'
    go_simp
  simp only [List.setIfInBounds_toArray, List.set_cons_zero, List.set_cons_succ]
  refine wpAnyH_done (by kernel_rfl) ?_ _
  have HD8 := hid hd8
  have HN8 := hid hn8
  have HK8 : Hid (Kp S w S' w8) := hid ((Kp.below HB5.out).trans hk8)
  clear hS hS8 hd8 hn8 hk8
  go_wp2
  go_ret
  exact ⟨c', S', n', P', rfl, HRES.out.1, HRES.out.2, HD8.out, HN8.out, HK8.out⟩
end Go.Proofs.YtaplmlldmhdhoaaGreatDoor
