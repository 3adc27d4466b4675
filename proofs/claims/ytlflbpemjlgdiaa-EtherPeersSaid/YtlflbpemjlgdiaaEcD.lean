/- bytes.Clone; Parse. -/
import Derived.Test.YtlflbpemjlgdiaaEcC
import Derived.Deep.Upon
namespace Go.Proofs.Ytlflbpemjlgdiaa
open Go.RowKit Go.Maps
set_option linter.unusedVariables false

abbrev frC (m : Mac) (k : Mac) (kind : Int) (v : Value) : Array Value := #[.int .u8 m.a, .int .u8 m.b, .int .u8 m.c, .int .u8 m.d, .int .u8 m.e, .int .u8 m.f, .int .u8 k.a, .int .u8 k.b, .int .u8 k.c, .int .u8 k.d, .int .u8 k.e, .int .u8 k.f, .int .i64 kind, v]
def mac0 : Mac := ⟨0, 0, 0, 0, 0, 0⟩
theorem sizeFr : (Try.prog.info? 25).map (·.size) = some 14 := by kernel_rfl
theorem frC_one (m k : Mac) (kind : Int) (v : Value) (hv : v.oneCell' = true) : (frC m k kind v).all (·.oneCell') = true := by
  have h1 : (frC m k kind v).all (·.oneCell') = (v.oneCell') := by simp [Value.oneCell']
  rw [h1, hv]
/-- A frame's kind. -/
def kindOf (l : List Int) : Int := beOf ((l.drop 12).take 2)
theorem kindOf_bd (l : List Int) (h : ∀ x ∈ l, IsB x) (hk : 14 ≤ l.length) : 0 ≤ kindOf l ∧ kindOf l < 65536 := by
  have := be_cut_bd l 12 2 h (by omega)
  unfold kindOf; omega
/-- 'append([]byte{}, d...)', whatever d is. -/
theorem twinY (W : World) (a : Option Addr) (n c : Nat) (d : List Int) (hn : d.length = n) (hl : n ≤ 900000) (h : Bytes W a d) (ty : TypeId) :
    ∃ a2 c2 w2, (Builtin.append_ #[22, 22] ty #[.slice (some ⟨W.heap.size, 0, none⟩) 0 0, .slice a n c]).run Try.prog (W.alloc (.cells #[] 5)) = .ok (.slice a2 n c2) w2 ∧ By w2 (New W) a2 d ∧ n ≤ c2 ∧ Below W.heap.size W w2 := by
  have hb1 : Below W.heap.size W (W.alloc (.cells #[] 5)) := (Below.refl _ _).alloc (Nat.le_refl _) _
  by_cases hp : 0 < n
  · have hg : Gr (W.alloc (.cells #[] 5)) W.heap.size (.slice (some ⟨W.heap.size, 0, none⟩) 0 0) [] := by
      refine ⟨fun x hx => by simp at hx, .inl ⟨by simp, .inr ⟨W.heap.size, 0, #[], rfl, Nat.le_refl _, alloc_new W _, by simp, by simp, by simp, by simp⟩⟩⟩
    obtain ⟨b, off, rfl, hcur⟩ := h.open_ (by omega)
    obtain ⟨a2, c2, w2, hap, hg2, ho2, hb2, _, _⟩ := hg.push (by simp) d h.isB (by omega) ⟨b, off, none⟩ n c hn (fun j u hj => by
      have hj2 : j < d.length := by have := (List.getElem?_eq_some_iff.1 hj).1; simpa using this
      rw [u8s_get hj2] at hj
      rw [add_addr]
      refine cell_later hb1 ?_
      rw [hcur j hj2]
      simpa using hj) (by simp; omega) ty
    simp only [List.length_nil, Nat.zero_add, List.nil_append] at hap hg2 ho2
    obtain ⟨a3, c3, e3, h3, _, h4⟩ := By.of_owns (S := New W) ho2 h.isB (fun g hg => (owns_lt ho2 hg).2)
    simp only [Value.slice.injEq, true_and] at e3
    obtain ⟨rfl, rfl⟩ := e3
    exact ⟨a2, c2, w2, hap, h4, h3, hb1.trans hb2⟩
  · obtain rfl : n = 0 := by omega
    obtain rfl : d = [] := List.eq_nil_of_length_eq_zero hn
    refine ⟨some ⟨W.heap.size, 0, none⟩, 0, W.alloc (.cells #[] 5), ?_, By.nil _ _ _, Nat.le_refl _, hb1⟩
    obtain ⟨i0, hi, hz0, hz1, hz2⟩ := info5b
    have hs : Src Try.prog i0.size 22 (.slice a 0 c) 0 [] (W.alloc (.cells #[] 5)) := by
      cases a with
      | none => exact Src.ofNil _ Try.underlying22 c
      | some ad => exact Src.ofSlice _ Try.underlying22 ad 0 c [] (by simp) (fun j u hj => by simp at hj) (fun u hu => by simp at hu)
    exact run_append_nothing _ 22 22 ty 5 i0 Try.underlying22 hi _ 0 0 (Nat.le_refl _) _ hs
set_option maxRecDepth 100000 in
set_option maxHeartbeats 1000000 in
theorem Clone_y (w : World) (a : Addr) (n c : Nat) (l : List Int) (hn : l.length = n) (hl : n ≤ 900000) (hb : Bytes w (some a) l) :
    Calls Try.prog 26 #[.slice (some a) n c] w fun e w' => ∃ a2 c2, e = .returned (.slice a2 n c2) ∧ By w' (New w) a2 l ∧ n ≤ c2 ∧ Below w.heap.size w w' := by
  obtain ⟨a2, c2, w2, hap, hy, hc, hb2⟩ := twinY w (some a) n c l hn hl hb 22
  have qT : ∀ (w : World) (a : Option Addr) (n c n' c' : Nat), (binOp .eql 22 (.slice a n c) (.slice none n' c')).run Try.prog w = .ok (.bool a.isNone) w := fun w a n c n' c' => Lib.run_eql_slice_nil w _ _ a n c n' c' Try.underlying22
  have HY := hid hy
  have HB2 := hid hb2
  clear hy hb2 hb hn
  go_enter Try.func26, Try.ntmps26
  go_wp2_with (at_builtin; refine wpList_append_run rfl _ _ 22 rfl rfl rfl hap ?_)
  go_ret
  exact ⟨a2, c2, rfl, HY.out, hc, HB2.out⟩
set_option maxRecDepth 100000 in
set_option maxHeartbeats 1000000 in
theorem Parse_size (w : World) (a : Option Addr) (n c : Nat) (hn : n < 14 ∨ 1514 < n) :
    Calls Try.prog 8 #[.slice a n c] w fun e w' => e = .returned (.tuple #[.agg (frC mac0 mac0 0 (.slice none 0 0)), .int .i64 14]) ∧ Below w.heap.size w w' := by
  obtain ⟨g, hg⟩ : ∃ g, w.heap.size = g := ⟨_, rfl⟩
  obtain ⟨W1, hW1⟩ : ∃ W, W = w.alloc (.cells #[.int .u8 0, .int .u8 0, .int .u8 0, .int .u8 0, .int .u8 0, .int .u8 0, .int .u8 0, .int .u8 0, .int .u8 0, .int .u8 0, .int .u8 0, .int .u8 0, .int .i64 0, .slice none 0 0] 25) := ⟨_, rfl⟩
  have b1 : Below w.heap.size w W1 := by rw [hW1]; exact below_alloc (Below.refl _ _) (Nat.le_refl _) _
  have h1 : W1.heap[g]? = some (.cells (frC mac0 mac0 0 (.slice none 0 0)) 25 (0, 0)) := by rw [hW1, ← hg]; exact alloc_new w _
  have H1 := hid h1
  have HB1 := hid b1
  have HG := hid hg
  clear h1 b1
  have HW := hW1.symm
  clear hW1
  by_cases hs : n < 14
  · have hsi : (n : Int) < 14 := by omega
    go_enter Try.func8, Try.ntmps8
    go_wp2_with (refine wpList_store_row rfl 25 _ _ rfl g (frC mac0 mac0 0 (.slice none 0 0)) rfl rfl 25 _ H1.out sizeFr rfl (frC_one _ _ _ _ rfl) ?_)
    refine bodyPost_ret (results_ct rfl _ _ g (frC mac0 mac0 0 (.slice none 0 0)) _ _ rfl (setRow_heap _ g _ _ _ _ H1.out) Try.underlying25 sizeFr) rfl ⟨rfl, ?_⟩
    have hbw := (setRow_mods W1 g (frC mac0 mac0 0 (.slice none 0 0))).to_below HB1.out HB1.out.size (fun x hx => by rw [hx, HG.out]; exact Nat.le_refl _)
    first | exact hbw | (rw [HG.out] at hbw; exact hbw)
  · have hsi : ¬ ((n : Int) < 14) := by omega
    have hsj : (1514 : Int) < n := by omega
    go_enter Try.func8, Try.ntmps8
    go_wp2_with (refine wpList_store_row rfl 25 _ _ rfl g (frC mac0 mac0 0 (.slice none 0 0)) rfl rfl 25 _ H1.out sizeFr rfl (frC_one _ _ _ _ rfl) ?_)
    refine bodyPost_ret (results_ct rfl _ _ g (frC mac0 mac0 0 (.slice none 0 0)) _ _ rfl (setRow_heap _ g _ _ _ _ H1.out) Try.underlying25 sizeFr) rfl ⟨rfl, ?_⟩
    have hbw := (setRow_mods W1 g (frC mac0 mac0 0 (.slice none 0 0))).to_below HB1.out HB1.out.size (fun x hx => by rw [hx, HG.out]; exact Nat.le_refl _)
    first | exact hbw | (rw [HG.out] at hbw; exact hbw)
set_option maxRecDepth 100000 in
set_option maxHeartbeats 1000000 in
theorem Parse_ok (w : World) (a : Option Addr) (n c : Nat) (l : List Int) (hn : l.length = n) (h14 : 14 ≤ n) (h15 : n ≤ 1514) (hnc : n ≤ c) (hb : Bytes w a l) :
    Calls Try.prog 8 #[.slice a n c] w fun e w' => ∃ a2 c2, e = .returned (.tuple #[.agg (frC (macOf l) (macOf (l.drop 6)) (kindOf l) (.slice a2 (n - 14) c2)), .int .i64 0]) ∧ By w' (New w) a2 (l.drop 14) ∧ n - 14 ≤ c2 ∧ Below w.heap.size w w' := by
  obtain ⟨g, hg⟩ : ∃ g, w.heap.size = g := ⟨_, rfl⟩
  obtain ⟨W1, hW1⟩ : ∃ W, W = w.alloc (.cells #[.int .u8 0, .int .u8 0, .int .u8 0, .int .u8 0, .int .u8 0, .int .u8 0, .int .u8 0, .int .u8 0, .int .u8 0, .int .u8 0, .int .u8 0, .int .u8 0, .int .i64 0, .slice none 0 0] 25) := ⟨_, rfl⟩
  have b1 : Below w.heap.size w W1 := by rw [hW1]; exact below_alloc (Below.refl _ _) (Nat.le_refl _) _
  have h1 : W1.heap[g]? = some (.cells (frC mac0 mac0 0 (.slice none 0 0)) 25 (0, 0)) := by rw [hW1, ← hg]; exact alloc_new w _
  have HBE := hid (be_in W1 a n c l 12 2 hn hnc (by unfold maxLen; omega) rfl (by omega) (hb.later b1))
  have hkd := kindOf_bd l hb.isB (by omega)
  obtain ⟨b, off, rfl, hcell⟩ := hb.open_ (by omega)
  clear hcell
  obtain ⟨a0, s0, c0⟩ := cutL b off n c 0 (by omega) hnc
  obtain ⟨a6, s6, c6⟩ := cutL b off n c 6 (by omega) hnc
  obtain ⟨a14, s14, c14, e14⟩ := cutLs b off n c 14 (by omega) hnc
  have HF0 : Hid (∀ W, Below w.heap.size w W → Calls Try.prog 25 #[.slice a0 n c] W fun e w' => e = .returned (.agg (macC (macOf l))) ∧ Below W.heap.size W w') := hid (fun W h => firstSix_any W a0 n c l hn (by omega) (c0 W l hn (hb.later h)))
  have HF6 : Hid (∀ W, Below w.heap.size w W → Calls Try.prog 25 #[.slice a6 (n - 6) (c - 6)] W fun e w' => e = .returned (.agg (macC (macOf (l.drop 6)))) ∧ Below W.heap.size W w') := hid (fun W h => firstSix_any W a6 (n - 6) (c - 6) (l.drop 6) (by simp; omega) (by omega) (c6 W l hn (hb.later h)))
  obtain ⟨ad, rfl⟩ := e14
  have HCL : Hid (∀ W, Below w.heap.size w W → Calls Try.prog 26 #[.slice (some ad) (n - 14) (c - 14)] W fun e w' => ∃ a2 c2, e = .returned (.slice a2 (n - 14) c2) ∧ By w' (New W) a2 (l.drop 14) ∧ n - 14 ≤ c2 ∧ Below W.heap.size W w') := hid (fun W h => Clone_y W ad (n - 14) (c - 14) (l.drop 14) (by simp; omega) (by omega) (c14 W l hn (hb.later h)))
  have s0' : ∀ W : World, (Instr.slice 22 (.slice (some ⟨b, off, none⟩) n c) (some (.int .i64 0)) none none).run Try.prog W = .ok (.slice a0 n c) W := fun W => by simpa using s0 W
  have s6' : ∀ W : World, (Instr.slice 22 (.slice (some ⟨b, off, none⟩) n c) (some (.int .i64 6)) none none).run Try.prog W = .ok (.slice a6 (n - 6) (c - 6)) W := s6
  have s14' : ∀ W : World, (Instr.slice 22 (.slice (some ⟨b, off, none⟩) n c) (some (.int .i64 14)) none none).run Try.prog W = .ok (.slice (some ad) (n - 14) (c - 14)) W := s14
  clear s0 s6 s14 c0 c6 c14
  unfold kindOf at hkd ⊢
  generalize beOf ((l.drop 12).take 2) = kd at *
  generalize macOf (l.drop 6) = m2 at *
  generalize macOf l = m1 at *
  have H1 := hid h1
  have HB1 := hid b1
  have HG := hid hg
  have hwk : IntKind.i64.wrap kd = kd := IntWalk.i64_in _ (by omega)
  have hsi : ¬ ((n : Int) < 14) := by omega
  have hsj : ¬ ((1514 : Int) < n) := by omega
  clear h1 b1 hb hn
  have HW := hW1.symm
  clear hW1
  go_enter Try.func8, Try.ntmps8
  go_upto_region 4 with (first
      | (go_at_call 24; refine HBE.out.mono ?_; rintro e w2 ⟨rfl, hb2⟩; have HB2 := hid (HB1.out.trans (hb2.mono HB1.out.size)); have H2 := hid ((hb2.block g (Array.getElem?_eq_some_iff.1 H1.out).1).trans H1.out); clear hb2))
  refine wp_region_held_drew (S := fun _ => True) (by kernel_rfl) trivial (fun hS => ?_)
  refine nany_take 0 20 (.slice (some ⟨b, off, none⟩) n c) rfl rfl (by kernel_rfl) (by kernel_rfl) (by kernel_rfl) (fun _ _ _ h => h) (Or.inl ⟨by rfl, ?_⟩) trivial ?_
  · rintro w' -
    go_simp
  simp only [List.setIfInBounds_toArray, List.set_cons_zero, List.set_cons_succ]
  refine nany_take 1 21 (.slice a0 n c) rfl rfl (by kernel_rfl) (by kernel_rfl) (by kernel_rfl) (fun _ _ _ h => h) (Or.inl ⟨by rfl, ?_⟩) trivial ?_
  · rintro w' -
    go_simp
  simp only [List.setIfInBounds_toArray, List.set_cons_zero, List.set_cons_succ]
  refine nany_take 3 23 (.slice (some ⟨b, off, none⟩) n c) rfl rfl (by kernel_rfl) (by kernel_rfl) (by kernel_rfl) (fun _ _ _ h => h) (Or.inl ⟨by rfl, ?_⟩) trivial ?_
  · rintro w' -
    go_simp
  simp only [List.setIfInBounds_toArray, List.set_cons_zero, List.set_cons_succ]
  refine nany_take 4 24 (.slice a6 (n - 6) (c - 6)) rfl rfl (by kernel_rfl) (by kernel_rfl) (by kernel_rfl) (fun _ _ _ h => h) (Or.inl ⟨by rfl, ?_⟩) trivial ?_
  · rintro w' -
    go_simp
  simp only [List.setIfInBounds_toArray, List.set_cons_zero, List.set_cons_succ]
  refine nany_take 6 26 (.int .u64 kd) rfl rfl (by kernel_rfl) (by kernel_rfl) (by kernel_rfl) (fun _ _ _ h => h) (Or.inl ⟨by rfl, ?_⟩) trivial ?_
  · rintro w' -
    go_simp
  simp only [List.setIfInBounds_toArray, List.set_cons_zero, List.set_cons_succ]
  refine nany_take 7 27 (.int .i64 kd) rfl rfl (by kernel_rfl) (by kernel_rfl) (by kernel_rfl) (fun _ _ _ h => h) (Or.inl ⟨by rfl, ?_⟩) trivial ?_
  · rintro w' -
    go_simp
  simp only [List.setIfInBounds_toArray, List.set_cons_zero, List.set_cons_succ]
  refine nany_take 8 28 (.slice (some ⟨b, off, none⟩) n c) rfl rfl (by kernel_rfl) (by kernel_rfl) (by kernel_rfl) (fun _ _ _ h => h) (Or.inl ⟨by rfl, ?_⟩) trivial ?_
  · rintro w' -
    go_simp
  simp only [List.setIfInBounds_toArray, List.set_cons_zero, List.set_cons_succ]
  refine nany_take 9 29 (.slice (some ad) (n - 14) (c - 14)) rfl rfl (by kernel_rfl) (by kernel_rfl) (by kernel_rfl) (fun _ _ _ h => h) (Or.inl ⟨by rfl, ?_⟩) trivial ?_
  · rintro w' -
    go_simp
  simp only [List.setIfInBounds_toArray, List.set_cons_zero, List.set_cons_succ]
  refine nany_one 2 (by kernel_rfl) ?_
  refine nop_callE 22 (f := 25) (args := #[.slice a0 n c]) (R := fun v w' => v = .agg (macC m1) ∧ Below w2.heap.size w2 w') rfl (by rfl) rfl (by go_simp) ((HF0.out w2.drew (HB2.out.drew)).mono (fun e w' h => ⟨_, h.1, rfl, below_undrew h.2⟩)) ?_
  rintro v w3 ⟨rfl, hb3⟩
  refine ⟨trivial, ?_⟩
  have HB3 := hid (HB2.out.trans (hb3.mono HB2.out.size))
  have H3 := hid ((hb3.block g (Array.getElem?_eq_some_iff.1 H2.out).1).trans H2.out)
  clear hb3
  simp only [List.setIfInBounds_toArray, List.set_cons_zero, List.set_cons_succ]
  refine nany_one 5 (by kernel_rfl) ?_
  refine nop_callE 25 (f := 25) (args := #[.slice a6 (n - 6) (c - 6)]) (R := fun v w' => v = .agg (macC m2) ∧ Below w3.heap.size w3 w') rfl (by rfl) rfl (by go_simp) ((HF6.out w3 HB3.out).mono (fun e w' h => ⟨_, h.1, rfl, h.2⟩)) ?_
  rintro v w4 ⟨rfl, hb4⟩
  refine ⟨trivial, ?_⟩
  have HB4 := hid (HB3.out.trans (hb4.mono HB3.out.size))
  have H4 := hid ((hb4.block g (Array.getElem?_eq_some_iff.1 H3.out).1).trans H3.out)
  clear hb4
  simp only [List.setIfInBounds_toArray, List.set_cons_zero, List.set_cons_succ]
  refine nany_one 10 (by kernel_rfl) ?_
  refine nop_callE 30 (f := 26) (args := #[.slice (some ad) (n - 14) (c - 14)]) (R := fun v w' => ∃ a2 c2, v = .slice a2 (n - 14) c2 ∧ By w' (New w4) a2 (l.drop 14) ∧ n - 14 ≤ c2 ∧ Below w4.heap.size w4 w') rfl (by rfl) rfl (by go_simp) ((HCL.out w4 HB4.out).mono (fun e w' h => by obtain ⟨a2, c2, h1, h2⟩ := h; exact ⟨_, h1, a2, c2, rfl, h2⟩)) ?_
  rintro v w5 ⟨a2, c2, rfl, hy5, hc5, hb5⟩
  refine ⟨trivial, ?_⟩
  have HB5 := hid (HB4.out.trans (hb5.mono HB4.out.size))
  have H5 := hid ((hb5.block g (Array.getElem?_eq_some_iff.1 H4.out).1).trans H4.out)
  clear hb5
  simp only [List.setIfInBounds_toArray, List.set_cons_zero, List.set_cons_succ]
  refine nany_take 11 31 (.agg (frC m1 m2 kd (.slice a2 (n - 14) c2))) rfl rfl (by kernel_rfl) (by kernel_rfl) (by kernel_rfl) (fun _ _ _ h => h) (Or.inl ⟨by rfl, ?_⟩) trivial ?_
  · rintro w' -
    go_simp
  simp only [List.setIfInBounds_toArray, List.set_cons_zero, List.set_cons_succ]
  refine nany_one 12 (by kernel_rfl) ?_
  refine nop_skip (w' := w5.setRow g (frC m1 m2 kd (.slice a2 (n - 14) c2))) rfl (by rfl) rfl (ex_store 25 _ _ rfl g (frC m1 m2 kd (.slice a2 (n - 14) c2)) rfl rfl 25 _ H5.out sizeFr rfl (frC_one _ _ _ _ rfl)) ?_
  refine ⟨trivial, ?_⟩
  refine nany_take 13 3 (.int .i64 0) rfl rfl (by kernel_rfl) (by kernel_rfl) (by kernel_rfl) (fun _ _ _ h => h) (Or.inl ⟨by rfl, ?_⟩) trivial ?_
  · rintro w' -
    go_simp
  simp only [List.setIfInBounds_toArray, List.set_cons_zero, List.set_cons_succ]
  refine wpAnyH_done (by kernel_rfl) ?_ _
  have HY5 := hid hy5
  have HC5 := hid hc5
  clear hy5 hc5
  go_wp2
  have hbw := (setRow_mods w5 g (frC m1 m2 kd (.slice a2 (n - 14) c2))).to_below HB5.out HB5.out.size (fun x hx => by rw [hx, HG.out]; exact Nat.le_refl _)
  refine bodyPost_ret (results_ct rfl _ _ g (frC m1 m2 kd (.slice a2 (n - 14) c2)) _ _ rfl (setRow_heap _ g _ _ _ _ H5.out) Try.underlying25 sizeFr) rfl ⟨a2, c2, rfl, ?_, HC5.out, hbw⟩
  refine (HY5.out.keep (fun x hx hl => setRow_other w5 g x _ (fun e => ?_))).weak (fun x hx _ => Nat.le_trans HB4.out.size hx)
  have h4 := (Array.getElem?_eq_some_iff.1 H4.out).1
  subst e
  exact absurd h4 (Nat.not_lt.2 hx)
end Go.Proofs.Ytlflbpemjlgdiaa
