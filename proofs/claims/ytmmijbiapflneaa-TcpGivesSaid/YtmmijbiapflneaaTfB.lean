/- The answer to the other side's Syn; a row of one segment. -/
import Derived.Test.YtmmijbiapflneaaTfA
namespace Go.Proofs.Ytmmijbiapflneaa
open Go.RowKit Go.Maps
set_option linter.unusedVariables false
def answerS (c : Cn) : Sg := { segOf c 18 c.U [] with mss := 1460 }
abbrev zSg : Array Value := sgC 0 0 0 0 0 0 0 (.slice none 0 0)
theorem mss_cells (f t s a l w m : Int) (v : Value) (k : Int) : (sgC f t s a l w m v).setIfInBounds 6 (.int .i64 k) = sgC f t s a l w k v := by simp [sgC]
set_option maxRecDepth 100000 in
set_option maxHeartbeats 4000000 in
theorem answer_any {w : World} {p : Nat} {S : Nat → Prop} {c : Cn} {vc vm vw : Value} (h : CnX w p S c vc vm vw) (ho : c.came.length ≤ 16384) :
    Calls Try.prog 28 #[.pointer (some ⟨p, 0, none⟩)] w fun e w' => ∃ a2 c2, e = .returned (.agg (sgC c.fr c.to_ c.U c.R 18 (ownW c) 1460 (.slice a2 0 c2))) ∧ By w' (New w) a2 [] ∧ Below w.heap.size w w' := by
  obtain ⟨W1, hW1, h1, b1⟩ := boxS w zSg 30
  obtain ⟨g, hg⟩ : ∃ g, w.heap.size = g := ⟨_, rfl⟩
  rw [hg] at h1
  have hX := h.later b1
  have p5 := cell_of hX.box (i := 5) (v := .int .u32 c.U) rfl
  have HSE := hid (segment_any hX ho 18 c.U none 0 0 [] rfl (by omega) (Bytes.nil_ _ _))
  obtain ⟨fr, hfr⟩ : ∃ x, c.fr = x := ⟨_, rfl⟩
  obtain ⟨to_, hto⟩ : ∃ x, c.to_ = x := ⟨_, rfl⟩
  obtain ⟨R, hR⟩ : ∃ x, c.R = x := ⟨_, rfl⟩
  obtain ⟨wn, hwn⟩ : ∃ x, ownW c = x := ⟨_, rfl⟩
  obtain ⟨U, hU⟩ : ∃ x, c.U = x := ⟨_, rfl⟩
  rw [hfr, hto, hR, hwn, hU] at HSE
  rw [hU] at p5
  rw [hfr, hto, hR, hwn, hU]
  have H1 := hid h1
  have HB1 := hid b1
  have HG := hid hg
  have HW := hW1.symm
  clear h1 b1 hW1 hX h ho hfr hto hR hwn hU
  go_enter Try.func28, Try.ntmps28
  go_wp2_with (first
    | (go_at_call 27; refine HSE.out.mono ?_; rintro e w2 ⟨a2, c2, rfl, hy2, hc2, hb2⟩
       have hlt1 := (Array.getElem?_eq_some_iff.1 H1.out).1
       have h21 := (hb2.block g hlt1).trans H1.out
       have b2 := HB1.out.trans (hb2.mono HB1.out.size)
       obtain ⟨W3, hW3, h3, b3⟩ := boxS w2 zSg 30
       obtain ⟨g3, hg3⟩ : ∃ g, w2.heap.size = g := ⟨_, rfl⟩
       have hlt2 := (Array.getElem?_eq_some_iff.1 h21).1
       have hne : g ≠ g3 := by omega
       have hge3 : w.heap.size ≤ g3 := by have := b2.size; omega
       have h31 := (b3.block g hlt2).trans h21
       rw [hg3] at h3
       obtain ⟨W4, hW4⟩ : ∃ W, W = W3.setRow g3 (sgC fr to_ U R 18 wn 0 (.slice a2 0 c2)) := ⟨_, rfl⟩
       have h4 : W4.heap[g3]? = some (.cells (sgC fr to_ U R 18 wn 0 (.slice a2 0 c2)) 30 (0, 0)) := by rw [hW4]; exact setRow_heap _ _ _ _ _ _ h3
       have h41 : W4.heap[g]? = some (.cells zSg 30 (0, 0)) := by rw [hW4]; exact (setRow_other _ _ _ _ hne).trans h31
       have b13 := b2.trans (b3.mono b2.size)
       have b4 : Below w.heap.size w W4 := by rw [hW4]; exact (setRow_mods _ _ _).to_below b13 b13.size (fun x hx => by rw [hx]; exact hge3)
       have c46 := cell_of h4 (i := 6) (v := .int .i64 0) rfl
       have f46 := froz_of h4 6
       obtain ⟨W5, hW5, h5, b5, k5, s5⟩ := setP h4 6 (.int .i64 1460) w.heap.size w b4 hge3
       rw [mss_cells] at h5
       have h51 := (k5 g hne).trans h41
       have hyW3 := hy2.later b3
       have hyW4 : By W4 (fun b => w.heap.size ≤ b ∧ b < w2.heap.size) a2 [] := By.nil _ _ _
       have H3 := hid h3
       have H5 := hid h5
       have H51 := hid h51
       have HB5 := hid b5
       clear hlt1 h21 b2 h3 b3 hlt2 h31 h4 h41 b13 b4 h5 b5 k5 s5 h51 hyW3 hyW4 hy2 hc2 hb2 hne hge3 HSE p5
       have HW3 := hW3.symm
       have HW4 := hW4.symm
       have HW5 := hW5.symm
       clear hW3 hW4 hW5)
    | (refine wpList_store_row rfl 30 _ _ rfl g3 (sgC fr to_ U R 18 wn 0 (.slice a2 0 c2)) rfl rfl 30 _ H3.out sizeSg rfl (sgC_one _ _ _ _ _ _ _ _ _ _) ?_; rw [HW4])
    | (refine wpList_load_row rfl 30 _ rfl g3 rfl 30 _ (0, 0) _ H5.out Try.underlying30 rfl sizeSg ?_)
    | (refine wpList_store_row rfl 30 _ _ rfl g (sgC fr to_ U R 18 wn 1460 (.slice a2 0 c2)) rfl rfl 30 _ H51.out sizeSg rfl (sgC_one _ _ _ _ _ _ _ _ _ _) ?_))
  refine bodyPost_ret (results_c rfl _ _ g (sgC fr to_ U R 18 wn 1460 (.slice a2 0 c2)) _ _ rfl (setRow_heap _ g _ _ _ _ H51.out) Try.underlying30 sizeSg) rfl ⟨a2, c2, rfl, By.nil _ _ _, ?_⟩
  have hbw := (setRow_mods W5 g (sgC fr to_ U R 18 wn 1460 (.slice a2 0 c2))).to_below HB5.out HB5.out.size (fun x hx => by rw [hx, HG.out]; exact Nat.le_refl _)
  first | exact hbw | (rw [HG.out] at hbw; exact hbw)
/-- A row of one segment, behind nil. -/
theorem SL.one (w2 : World) (x : Sx) (B : Nat) (hB : B ≤ w2.heap.size) (hx : By w2 (fun b => B ≤ b) x.a x.p.dat) (hxc : x.p.dat.length ≤ x.c) (W3 : World) (hW3 : W3 = w2.alloc (.cells (sgA x.p x.a x.p.dat.length x.c) 30)) :
    ∃ a c w4, (Builtin.append_ #[31, 31] 31 #[.slice none 0 0, .slice (some ⟨w2.heap.size, 0, none⟩) 1 1]).run Try.prog W3 = .ok (.slice a 1 c) w4 ∧ SL w4 30 B (.slice a 1 c) [x] ∧ Below w2.heap.size w2 w4 := by
  have h3 : W3.heap[w2.heap.size]? = some (.cells (sgA x.p x.a x.p.dat.length x.c) 30 (0, 0)) := by rw [hW3]; exact alloc_new w2 _
  have b3 : Below w2.heap.size w2 W3 := by rw [hW3]; exact below_alloc (Below.refl _ _) (Nat.le_refl _) _
  obtain ⟨a, c, w4, hr, hsl, hm⟩ := SL.push W3 31 31 30 B Try.underlying31 infoSG (by decide) (.slice none 0 0) [] (SL.nil _ _ _) x (Nat.le_trans hB b3.size) (hx.later b3) hxc (by simp) ⟨w2.heap.size, 0, none⟩ 1 (fun j u hj => by
    rw [add_addr, Nat.zero_add]
    refine cell_of h3 ?_
    have e : (sxV x) = (sgA x.p x.a x.p.dat.length x.c).toList := rfl
    rw [e, Array.getElem?_toList] at hj
    exact hj)
  exact ⟨a, c, w4, hr, hsl, hm.to_below b3 b3.size (fun b hb => by simp [blkV] at hb)⟩
end Go.Proofs.Ytmmijbiapflneaa
