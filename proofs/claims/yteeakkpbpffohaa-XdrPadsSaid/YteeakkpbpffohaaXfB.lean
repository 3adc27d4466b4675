/- Bytes are followed by just as many noughts as make them a multiple of four: the law's walk. -/
import Derived.Test.YteeakkpbpffohaaXfA
namespace Go.Proofs.Yteeakkpbpffohaa
open Go.RowKit Go.Maps
set_option linter.unusedVariables false

theorem wl_none {P : Program} {w : World} {ops : Array Oper} {rest : List Oper} {o : Oper} {a : Act} {Q : Exit → Act → World → Prop} (hgd : o.guard = none) (hd : o.dst = none) {w' : World} (hrun : (execOp a.eval o).run P w = .ok .skip w') (h : wpList P ops Q rest a w') : wpList P ops Q (o :: rest) a w := by
  refine wpList_plain hgd fun K hK => ?_
  unfold Oper.wp
  rw [hrun]
  have h2 : wpList P ops Q rest (a.put o.dst undef) w' := by rw [nput_none hd]; exact h
  exact hK _ _ h2
theorem ex_slice {o : Oper} {ev : Operand → Value} {W : World} (x lo hi : Operand) (ho : o.op = .slice 22 x (some lo) (some hi) none) {X L H V : Value} (hx : ev x = X) (hlo : ev lo = L) (hhi : ev hi = H) (hr : (Instr.slice 22 X (some L) (some H) none).run Try.prog W = .ok V W) :
    (execOp ev o).run Try.prog W = .ok (.value V) W := by
  unfold execOp
  simp only [ho, hx, hlo, hhi, Option.map_some, Option.map_none, Sem.run_bind, run_sliceAt_slice _ _ _ _ _ _ (show Try.prog.underlying 22 = some (.slice (Try.prog.elem 22)) by kernel_rfl), hr, Result.andThen_ok, Sem.run_pure]
set_option maxRecDepth 100000 in
set_option maxHeartbeats 16000000 in
theorem XdrPads_walk (w : World) (a d : Option Addr) (n c nm dc : Nat) (lb lm : List Int) (at_ y : Int) (hat : II16 at_) (hy : IsB y) (hn : lb.length = n) (hm : n ≤ maxLen) (hc : n ≤ c) (hb : Bytes w a lb) (hnm : lm.length = nm) (hmm : nm ≤ maxLen) (hdc : nm ≤ dc) (hd : Bytes w d lm) :
    Calls Try.prog 7 #[.slice a n c, .int .i64 at_, .int .u8 y, .slice d nm dc] w fun e w' => e = .returned (.bool true) ∧ Below w.heap.size w w' := by
  have HK := hid (known_any w)
  have HN := hid hn
  have HNM := hid hnm
  have HB := hid hb
  have HD := hid hd
  have HYB := hid hy
  unfold maxLen at hm hmm
  unfold II16 at hat
  unfold IsB at hy
  clear hn hnm hb hd
  by_cases hbn : n ≤ 3000
  rotate_left
  · have hbi : (3000 : Int) < n := by omega
    go_enter Try.func7, Try.ntmps7
    go_wp2_with (go_at_call 8; refine HK.out.mono ?_; rintro e w1 ⟨rfl, hb1⟩; have HB1 := hid hb1; clear hb1)
    go_ret
    exact ⟨rfl, HB1.out⟩
  have hbi : ¬ ((3000 : Int) < n) := by omega
  by_cases hbm : nm ≤ 3000
  rotate_left
  · have hbj : (3000 : Int) < nm := by omega
    go_enter Try.func7, Try.ntmps7
    go_wp2_with (go_at_call 8; refine HK.out.mono ?_; rintro e w1 ⟨rfl, hb1⟩; have HB1 := hid hb1; clear hb1)
    go_ret
    exact ⟨rfl, HB1.out⟩
  have hbj : ¬ ((3000 : Int) < nm) := by omega
  have hp4 := pad4_lt n
  have HP4N := hid (show pad4 lb.length = pad4 n by rw [HN.out])
  have hrm : n % 4 < 4 := Nat.mod_lt _ (by omega)
  obtain ⟨rm, hrm2⟩ : ∃ x, n % 4 = x := ⟨_, rfl⟩
  obtain ⟨p4, hp⟩ : ∃ x, pad4 n = x := ⟨_, rfl⟩
  have t1 : ((n : Int)).tmod 4 = (rm : Int) := by rw [Int.tmod_eq_emod_of_nonneg (by omega)]; omega
  have t1' : ((n : Int)) % 4 = (rm : Int) := by omega
  have hpr : (4 - rm) % 4 = p4 := by rw [← hp, ← hrm2]; rfl
  rw [hrm2] at hrm
  rw [hp] at hp4 HP4N
  have t2 : (4 - (rm : Int)).tmod 4 = (p4 : Int) := by rw [Int.tmod_eq_emod_of_nonneg (by omega)]; omega
  have t2' : (4 - (rm : Int)) % 4 = (p4 : Int) := by omega
  have v1 : IntKind.i64.wrap (rm : Int) = rm := IntWalk.i64_in _ (by omega)
  have v2 : IntKind.i64.wrap (4 - (rm : Int)) = 4 - (rm : Int) := IntWalk.i64_in _ (by omega)
  have v3 : IntKind.i64.wrap (p4 : Int) = p4 := IntWalk.i64_in _ (by omega)
  clear hpr hrm2 hp
  obtain ⟨F, hF⟩ : ∃ x, fuL lb = x := ⟨_, rfl⟩
  obtain ⟨nF, hnF⟩ : ∃ x, F.length = x := ⟨_, rfl⟩
  have hnF2 : nF = 4 + (n + p4) := by rw [← hnF, ← hF, fuL_len, HP4N.out, HN.out]
  have HFI := hid (show ∀ x ∈ F, IsB x by rw [← hF]; exact fuL_isB lb HB.out.isB)
  have HFD := hid (show (F.drop 4).take n = lb by rw [← hF, fuL, List.drop_left' (len_be _ _), pdL, List.take_left' HN.out])
  have HF := hid hF
  have HNF := hid hnF
  have HNF2 := hid hnF2
  have v4 : IntKind.i64.wrap (4 + (n : Int)) = 4 + (n : Int) := IntWalk.i64_in _ (by omega)
  have v5 : IntKind.i64.wrap (4 + (n : Int) + p4) = nF := by rw [hnF2]; have := IntWalk.i64_in (4 + (n : Int) + p4) (by omega); rw [this]; omega
  have v6 : (4 : Int) + n + p4 = nF := by omega
  have v5' : IntKind.i64.wrap (4 + ((n : Int) + p4)) = nF := by rw [show (4 : Int) + (n + p4) = 4 + n + p4 by omega]; exact v5
  have v6' : (4 : Int) + (n + p4) = nF := by omega
  have hnf1 : 0 < nF := by omega
  have hnf4 : 4 + n ≤ nF := by omega
  have hnf9 : nF ≤ 4000 := by omega
  have v7 : IntKind.i64.wrap (nF : Int) = nF := IntWalk.i64_in _ (by omega)
  clear hF hnF hnF2
  go_enter Try.func7, Try.ntmps7
  go_upto_region 11 with (first
    | (go_at_call 8
       refine HK.out.mono ?_
       rintro e w1 ⟨rfl, hb1⟩
       have HB1 := hid hb1
       have HNW := hid (NewWriter_any w1)
       clear hb1 HK)
    | (go_at_call 15
       refine HNW.out.mono ?_
       rintro e w2 ⟨rfl, hx, hb2⟩
       obtain ⟨pw, hpw⟩ : ∃ x, w1.heap.size = x := ⟨_, rfl⟩
       have HPW := hid hpw
       rw [hpw] at hx ⊢
       obtain ⟨W3, hW3⟩ : ∃ W, W = w2.alloc (.cells #[.slice a n c] 22) := ⟨_, rfl⟩
       have b3 : Below w2.heap.size w2 W3 := by rw [hW3]; exact below_alloc (Below.refl _ _) (Nat.le_refl _) _
       have r3 : W3.cell? ⟨w2.heap.size, 0, none⟩ = some (.slice a n c) := by rw [hW3, new_cell _ _ _ _ 0 (by simp)]; rfl
       have hx3 := hx.later b3
       have hBL3 := (HB1.out.trans (hb2.mono HB1.out.size)).trans (b3.mono (Nat.le_trans HB1.out.size hb2.size))
       have hlt := hx.slt pw rfl
       have hwb : w.heap.size ≤ pw := by rw [← hpw]; exact HB1.out.size
       have HWB := hid (WBytes_any hx3 1 1 (some ⟨w2.heap.size, 0, none⟩) [lb] rfl (by omega) (rowsK_one HN.out r3 (by show ¬ w2.heap.size = pw; omega) (fun W S2 hk => HB.out.later (hk.below0 hBL3 (fun b hb => by have h9 : b = pw := hb; rw [h9]; exact hwb)).1)) (fun k => by have := pad4_lt lb.length; have := HN.out; rcases k with _ | k <;> simp [fuL_len] <;> omega) (by have := HN.out; simp; omega))
       have HBL3 := hid hBL3
       have HWB2 := hid hwb
       have hW3' := hW3.symm
       clear hx hb2 b3 r3 hx3 hBL3 hlt hwb hW3 hpw HNW)
    | (go_at_call 25
       (try rw [hW3'])
       refine HWB.out.mono ?_
       rintro e w4 ⟨rfl, S4, hx4, hk4⟩
       simp only [List.flatMap_cons, List.flatMap_nil, List.append_nil, List.nil_append] at hx4
       rw [HF.out] at hx4
       have hbl4 := (hk4.below0 HBL3.out (fun b hb => by have h9 : b = pw := hb; rw [h9]; exact HWB2.out)).1
       have HDN := hid (Done_own hx4 nF HNF.out (by have := HNF2.out; omega) (by have := HNF2.out; omega))
       have HBL4 := hid hbl4
       clear hx4 hk4 hbl4 HWB hW3')
    | (go_at_call 17
       refine HDN.out.mono ?_
       rintro e w5 ⟨g, c7, rfl, ho, hc7, hg1, hg2, hb5⟩
       have HOW := hid ho
       have HBL5 := hid (HBL4.out.trans (hb5.mono HBL4.out.size))
       have HC7 := hid hc7
       have HG2 := hid hg2
       have HG0 := hid (Nat.le_trans HBL4.out.size hg1)
       clear ho hb5 hc7 hg1 hg2 HDN))
  try simp only [Act.put]
  obtain ⟨a3, hcut3, hby3⟩ := cut_lh (some ⟨g, 0, none⟩) nF c7 4 (4 + n) (by omega) (by omega) HC7.out
  have hFb := owns_bytes HOW.out HFI.out
  have HFB := hid hFb
  have hbs := hby3 w5 F HNF.out hFb
  rw [show 4 + n - 4 = n by omega, HFD.out] at hbs
  have HBS := hid hbs
  have hcutS : ∀ W, (Instr.slice 22 (.slice (some ⟨g, 0, none⟩) nF c7) (some (.int .i64 4)) (some (.int .i64 (4 + (n : Int)))) none).run Try.prog W = .ok (.slice a3 n (c7 - 4)) W := fun W => by
    have := hcut3 W
    rw [show 4 + n - 4 = n by omega] at this
    exact_mod_cast this
  obtain ⟨d7, hd7⟩ : ∃ x, c7 - 4 = x := ⟨_, rfl⟩
  rw [hd7] at hcutS
  clear hcut3 hby3 hFb hbs hd7
  refine wp_region_held_drew (S := fun W => Below w5.heap.size w5 W) (by kernel_rfl) ((Below.refl _ _).drew) (fun hS => ?_)
  obtain ⟨v0, hv0⟩ : ∃ W, W = w5.drew := ⟨_, rfl⟩
  rw [← hv0] at hS ⊢
  clear hv0
  refine nany_take 0 40 (.slice (some ⟨g, 0, none⟩) nF c7) rfl rfl (by kernel_rfl) (by kernel_rfl) (by kernel_rfl) (fun _ _ _ h => h) (Or.inl ⟨by rfl, ?_⟩) hS ?_
  · rintro w' hS'
    go_simp
  simp only [List.setIfInBounds_toArray, List.set_cons_zero, List.set_cons_succ]
  refine nany_take 1 41 (.int .i64 nF) rfl rfl (by kernel_rfl) (by kernel_rfl) (by kernel_rfl) (fun _ _ _ h => h) (Or.inl ⟨by rfl, ?_⟩) hS ?_
  · rintro w' hS'
    go_simp
  simp only [List.setIfInBounds_toArray, List.set_cons_zero, List.set_cons_succ]
  refine nany_take 2 42 (.slice a n c) rfl rfl (by kernel_rfl) (by kernel_rfl) (by kernel_rfl) (fun _ _ _ h => h) (Or.inl ⟨by rfl, ?_⟩) hS ?_
  · rintro w' hS'
    go_simp
  simp only [List.setIfInBounds_toArray, List.set_cons_zero, List.set_cons_succ]
  refine nany_take 3 43 (.int .i64 n) rfl rfl (by kernel_rfl) (by kernel_rfl) (by kernel_rfl) (fun _ _ _ h => h) (Or.inl ⟨by rfl, ?_⟩) hS ?_
  · rintro w' hS'
    go_simp
  simp only [List.setIfInBounds_toArray, List.set_cons_zero, List.set_cons_succ]
  refine nany_take 4 44 (.int .i64 (4 + (n : Int))) rfl rfl (by kernel_rfl) (by kernel_rfl) (by kernel_rfl) (fun _ _ _ h => h) (Or.inl ⟨by rfl, ?_⟩) hS ?_
  · rintro w' hS'
    go_simp
  simp only [List.setIfInBounds_toArray, List.set_cons_zero, List.set_cons_succ]
  refine nany_take 5 45 (.int .i64 p4) rfl rfl (by kernel_rfl) (by kernel_rfl) (by kernel_rfl) (fun _ _ _ h => h) (Or.inl ⟨by rfl, ?_⟩) hS ?_
  · rintro w' hS'
    go_simp
  simp only [List.setIfInBounds_toArray, List.set_cons_zero, List.set_cons_succ]
  refine nany_take 6 46 (.int .i64 nF) rfl rfl (by kernel_rfl) (by kernel_rfl) (by kernel_rfl) (fun _ _ _ h => h) (Or.inl ⟨by rfl, ?_⟩) hS ?_
  · rintro w' hS'
    go_simp
  simp only [List.setIfInBounds_toArray, List.set_cons_zero, List.set_cons_succ]
  refine nany_take 7 47 (.bool false) rfl rfl (by kernel_rfl) (by kernel_rfl) (by kernel_rfl) (fun _ _ _ h => h) (Or.inl ⟨by rfl, ?_⟩) hS ?_
  · rintro w' hS'
    go_simp
  simp only [List.setIfInBounds_toArray, List.set_cons_zero, List.set_cons_succ]
  refine nany_take 8 48 (.bool false) rfl rfl (by kernel_rfl) (by kernel_rfl) (by kernel_rfl) (fun _ _ _ h => h) (Or.inl ⟨by rfl, ?_⟩) hS ?_
  · rintro w' hS'
    go_simp
  simp only [List.setIfInBounds_toArray, List.set_cons_zero, List.set_cons_succ]
  refine nany_take 9 49 (.slice (some ⟨g, 0, none⟩) nF c7) rfl rfl (by kernel_rfl) (by kernel_rfl) (by kernel_rfl) (fun _ _ _ h => h) (Or.inl ⟨by rfl, ?_⟩) hS ?_
  · rintro w' hS'
    go_simp
  simp only [List.setIfInBounds_toArray, List.set_cons_zero, List.set_cons_succ]
  refine nany_take 10 50 (.slice a n c) rfl rfl (by kernel_rfl) (by kernel_rfl) (by kernel_rfl) (fun _ _ _ h => h) (Or.inl ⟨by rfl, ?_⟩) hS ?_
  · rintro w' hS'
    go_simp
  simp only [List.setIfInBounds_toArray, List.set_cons_zero, List.set_cons_succ]
  refine nany_take 11 51 (.int .i64 n) rfl rfl (by kernel_rfl) (by kernel_rfl) (by kernel_rfl) (fun _ _ _ h => h) (Or.inl ⟨by rfl, ?_⟩) hS ?_
  · rintro w' hS'
    go_simp
  simp only [List.setIfInBounds_toArray, List.set_cons_zero, List.set_cons_succ]
  refine nany_take 12 52 (.int .i64 (4 + (n : Int))) rfl rfl (by kernel_rfl) (by kernel_rfl) (by kernel_rfl) (fun _ _ _ h => h) (Or.inl ⟨by rfl, ?_⟩) hS ?_
  · rintro w' hS'
    go_simp
  simp only [List.setIfInBounds_toArray, List.set_cons_zero, List.set_cons_succ]
  refine nany_take 13 53 (.slice a3 n d7) rfl rfl (by kernel_rfl) (by kernel_rfl) (by kernel_rfl) (fun _ _ _ h => h) (Or.inl ⟨by rfl, ?_⟩) hS ?_
  · rintro w' hS'
    exact ex_slice (.tmp 49) (.const (.int .i64 4)) (.tmp 52) rfl rfl rfl rfl (hcutS _)
  simp only [List.setIfInBounds_toArray, List.set_cons_zero, List.set_cons_succ]
  refine nany_take 14 54 (.string (strOfNums lb)) rfl rfl (by kernel_rfl) (by kernel_rfl) (by kernel_rfl) (fun _ _ _ h => h) (Or.inl ⟨by rfl, ?_⟩) hS ?_
  · rintro w' hS'
    have hc9 := conv0 (HBS.out.later hS') (cap := d7) HN.out
    go_simp
  simp only [List.setIfInBounds_toArray, List.set_cons_zero, List.set_cons_succ]
  refine nany_take 15 55 (.slice a n c) rfl rfl (by kernel_rfl) (by kernel_rfl) (by kernel_rfl) (fun _ _ _ h => h) (Or.inl ⟨by rfl, ?_⟩) hS ?_
  · rintro w' hS'
    go_simp
  simp only [List.setIfInBounds_toArray, List.set_cons_zero, List.set_cons_succ]
  refine nany_take 16 56 (.string (strOfNums lb)) rfl rfl (by kernel_rfl) (by kernel_rfl) (by kernel_rfl) (fun _ _ _ h => h) (Or.inl ⟨by rfl, ?_⟩) hS ?_
  · rintro w' hS'
    have hc9 := conv0 ((HB.out.later HBL5.out).later hS') (cap := c) HN.out
    go_simp
  simp only [List.setIfInBounds_toArray, List.set_cons_zero, List.set_cons_succ]
  refine nany_take 17 57 (.bool false) rfl rfl (by kernel_rfl) (by kernel_rfl) (by kernel_rfl) (fun _ _ _ h => h) (Or.inl ⟨by rfl, ?_⟩) hS ?_
  · rintro w' hS'
    go_simp
  simp only [List.setIfInBounds_toArray, List.set_cons_zero, List.set_cons_succ]
  refine nany_take 18 58 (.bool false) rfl rfl (by kernel_rfl) (by kernel_rfl) (by kernel_rfl) (fun _ _ _ h => h) (Or.inl ⟨by rfl, ?_⟩) hS ?_
  · rintro w' hS'
    go_simp
  simp only [List.setIfInBounds_toArray, List.set_cons_zero, List.set_cons_succ]
  refine wpAnyH_done (by kernel_rfl) ?_ _
  have HS0 := hid hS
  have HBL6 := hid (HBL5.out.trans (hS.mono HBL5.out.size))
  obtain ⟨a8, c8, w8, ap1, ow8, b8⟩ := twinO v0 (some ⟨g, 0, none⟩) nF c7 F HNF.out (by omega) (by omega) (HFB.out.later hS) 22
  obtain ⟨a9, c9, w9, ap2, go9, b9⟩ := GO.push (B := v0.heap.size) (w := w8) (a0 := a8) (k := nF) (c0 := c8) (l := F) ⟨HFI.out, by rw [HNF.out]; exact ow8⟩ HNF.out b8.size lm d nm dc HNM.out ((HD.out.later HBL6.out).later b8) (by omega) 22
  have hbg : Bytes w9 a9 (F ++ lm) := by
    obtain ⟨a', c', e9, _, hby⟩ := go9.by_ (S := fun _ => True) (fun _ _ => trivial)
    simp only [Value.slice.injEq] at e9
    obtain ⟨rfl, _, _⟩ := e9
    exact hby.bytes
  have HBL9 := hid (HBL6.out.trans ((b8.trans b9).mono HBL6.out.size))
  have HS9 := hid (HS0.out.trans ((b8.trans b9).mono HS0.out.size))
  have HNR := hid (NewReader_any w9 a9 (nF + nm) c9 (F ++ lm) (by rw [List.length_append, HNF.out, HNM.out]) (by omega) hbg)
  have HA1 := hid ap1
  have HA2 := hid ap2
  clear hS ow8 b8 go9 b9 hbg ap1 ap2 hcutS
  go_upto_region 14 with (first
    | (at_builtin; refine wpList_append_run2 rfl (.tmp 59) (.tmp 60) 22 22 rfl (by kernel_rfl) (by kernel_rfl) HA1.out ?_; clear HA1)
    | (at_builtin; refine wpList_append_run2 rfl (.tmp 61) (.tmp 62) 22 22 rfl (by kernel_rfl) (by kernel_rfl) HA2.out ?_; clear HA2)
    | (go_at_call 9
       refine HNR.out.mono ?_
       rintro e w10 ⟨p, rfl, hp, hx, _, hb10, _⟩
       have HX := hid (hx (fun b => b = p) rfl (fun b h1 h2 e => by have h3 : b = p := e; omega))
       have HBL10 := hid (HBL9.out.trans (hb10.mono HBL9.out.size))
       have HS10 := hid (HS9.out.trans (hb10.mono HS9.out.size))
       have HPP := hid (Nat.le_trans HBL9.out.size hp)
       have HPG := hid (Nat.le_trans HS9.out.size hp)
       clear hp hx hb10 HNR))
  try simp only [Act.put]
  have hcn := cntP_at lm lb (by have := HN.out; omega) n (by rw [HN.out])
  rw [HF.out, HN.out] at hcn
  have e1 : ansV ⟨F ++ lm, 0, 0⟩ [] (cntP (F ++ lm) 0 n) = lb := by rw [hcn]; rfl
  have e2 : ansR ⟨F ++ lm, 0, 0⟩ (cntP (F ++ lm) 0 n) = ⟨F ++ lm, nF, 0⟩ := by
    rw [hcn]
    show (⟨F ++ lm, 4 + (n + pad4 n), 0⟩ : Rd) = _
    have h1 : pad4 n = p4 := by have := HP4N.out; rw [HN.out] at this; exact this
    rw [h1, HNF2.out]
  have HRB : Hid (∀ W, RX W 68 (fun b => b = p) p ⟨F ++ lm, 0, 0⟩ → Calls Try.prog 29 #[.pointer (some ⟨p, 0, none⟩), .int .i64 n] W fun e w' => (∃ a2 c2, e = .returned (.slice a2 n c2) ∧ Bytes w' a2 lb) ∧ RX w' 68 (fun b => b = p) p ⟨F ++ lm, nF, 0⟩ ∧ Mods (fun b => b = p) W w') := hid (fun W hW => by
    refine (RBytes_any hW n (by unfold II16; omega)).mono ?_
    rintro e w' ⟨⟨a2, c2, g1, g2, g3⟩, g4, g5⟩
    simp only at g1 g2 g4
    rw [e1] at g1 g2
    rw [e2] at g4
    rw [HN.out] at g1
    exact ⟨⟨a2, c2, g1, g2.bytes⟩, g4, g5⟩)
  clear hcn e1 e2
  refine wp_region_held_drew (S := fun W => Below w.heap.size w W) (by kernel_rfl) (HBL10.out.drew) (fun hS => ?_)
  obtain ⟨v1_, hv1⟩ : ∃ W, W = w10.drew := ⟨_, rfl⟩
  rw [← hv1] at hS ⊢
  have HX1 := hid (show RX v1_ 68 (fun b => b = p) p ⟨F ++ lm, 0, 0⟩ by rw [hv1]; exact HX.out.later (Below.refl _ _).drew)
  have HS11 := hid (show Below w5.heap.size w5 v1_ by rw [hv1]; exact HS10.out.drew)
  clear hv1
  refine nany_take 0 65 (.pointer (some ⟨p, 0, none⟩)) rfl rfl (by kernel_rfl) (by kernel_rfl) (by kernel_rfl) (fun _ _ _ h => h) (Or.inl ⟨by rfl, ?_⟩) hS ?_
  · rintro w' hS'
    go_simp
  simp only [List.setIfInBounds_toArray, List.set_cons_zero, List.set_cons_succ]
  refine nany_take 1 66 (.slice a n c) rfl rfl (by kernel_rfl) (by kernel_rfl) (by kernel_rfl) (fun _ _ _ h => h) (Or.inl ⟨by rfl, ?_⟩) hS ?_
  · rintro w' hS'
    go_simp
  simp only [List.setIfInBounds_toArray, List.set_cons_zero, List.set_cons_succ]
  refine nany_take 2 67 (.int .i64 n) rfl rfl (by kernel_rfl) (by kernel_rfl) (by kernel_rfl) (fun _ _ _ h => h) (Or.inl ⟨by rfl, ?_⟩) hS ?_
  · rintro w' hS'
    go_simp
  simp only [List.setIfInBounds_toArray, List.set_cons_zero, List.set_cons_succ]
  refine nany_take 5 70 (.slice a n c) rfl rfl (by kernel_rfl) (by kernel_rfl) (by kernel_rfl) (fun _ _ _ h => h) (Or.inl ⟨by rfl, ?_⟩) hS ?_
  · rintro w' hS'
    go_simp
  simp only [List.setIfInBounds_toArray, List.set_cons_zero, List.set_cons_succ]
  refine nany_take 6 71 (.string (strOfNums lb)) rfl rfl (by kernel_rfl) (by kernel_rfl) (by kernel_rfl) (fun _ _ _ h => h) (Or.inl ⟨by rfl, ?_⟩) hS ?_
  · rintro w' hS'
    have hc9 := conv0 (HB.out.later hS') (cap := c) HN.out
    go_simp
  simp only [List.setIfInBounds_toArray, List.set_cons_zero, List.set_cons_succ]
  refine nany_one 3 (by kernel_rfl) ?_
  refine nop_callE 68 (f := 29) (args := #[.pointer (some ⟨p, 0, none⟩), .int .i64 n]) (R := fun v w' => (∃ a2 c2, v = .slice a2 n c2 ∧ Bytes w' a2 lb) ∧ RX w' 68 (fun b => b = p) p ⟨F ++ lm, nF, 0⟩ ∧ Mods (fun b => b = p) v1_ w') rfl (by rfl) rfl (by go_simp) ((HRB.out v1_ HX1.out).mono (fun e w' h => by obtain ⟨⟨a2, c2, g1, g2⟩, g4, g5⟩ := h; exact ⟨_, g1, ⟨a2, c2, rfl, g2⟩, g4, g5⟩)) ?_
  rintro v5_ v6_ ⟨⟨a2, c2, rfl, hy6⟩, hx6, hm6⟩
  have hS6 := hm6.to_below hS hS.size (fun b hb => by have h9 : b = p := hb; rw [h9]; exact HPP.out)
  have HS12 := hid (hm6.to_below HS11.out HS11.out.size (fun b hb => by have h9 : b = p := hb; rw [h9]; exact HPG.out))
  clear hS
  have hS := hS6
  refine ⟨hS, ?_⟩
  simp only [List.setIfInBounds_toArray, List.set_cons_zero, List.set_cons_succ]
  have HX6 := hid hx6
  have hcv := conv0 hy6 (cap := c2) HN.out
  clear hx6 hm6 hy6
  refine nany_one 4 (by kernel_rfl) ?_
  refine nop_value' 69 (v := .string (strOfNums lb)) (w' := v6_) rfl (by rfl) rfl (by go_simp) ?_
  refine ⟨hS, ?_⟩
  simp only [List.setIfInBounds_toArray, List.set_cons_zero, List.set_cons_succ]
  clear hcv
  refine nany_take 7 72 (.bool false) rfl rfl (by kernel_rfl) (by kernel_rfl) (by kernel_rfl) (fun _ _ _ h => h) (Or.inl ⟨by rfl, ?_⟩) hS ?_
  · rintro w' hS'
    go_simp
  simp only [List.setIfInBounds_toArray, List.set_cons_zero, List.set_cons_succ]
  refine nany_take 8 73 (.bool false) rfl rfl (by kernel_rfl) (by kernel_rfl) (by kernel_rfl) (fun _ _ _ h => h) (Or.inl ⟨by rfl, ?_⟩) hS ?_
  · rintro w' hS'
    go_simp
  simp only [List.setIfInBounds_toArray, List.set_cons_zero, List.set_cons_succ]
  refine nany_take 9 74 (.pointer (some ⟨p, 0, none⟩)) rfl rfl (by kernel_rfl) (by kernel_rfl) (by kernel_rfl) (fun _ _ _ h => h) (Or.inl ⟨by rfl, ?_⟩) hS ?_
  · rintro w' hS'
    go_simp
  simp only [List.setIfInBounds_toArray, List.set_cons_zero, List.set_cons_succ]
  refine nany_take 11 76 (.slice (some ⟨g, 0, none⟩) nF c7) rfl rfl (by kernel_rfl) (by kernel_rfl) (by kernel_rfl) (fun _ _ _ h => h) (Or.inl ⟨by rfl, ?_⟩) hS ?_
  · rintro w' hS'
    go_simp
  simp only [List.setIfInBounds_toArray, List.set_cons_zero, List.set_cons_succ]
  refine nany_take 12 77 (.int .i64 nF) rfl rfl (by kernel_rfl) (by kernel_rfl) (by kernel_rfl) (fun _ _ _ h => h) (Or.inl ⟨by rfl, ?_⟩) hS ?_
  · rintro w' hS'
    go_simp
  simp only [List.setIfInBounds_toArray, List.set_cons_zero, List.set_cons_succ]
  refine nany_one 10 (by kernel_rfl) ?_
  refine nop_callE 75 (f := 11) (args := #[.pointer (some ⟨p, 0, none⟩)]) (R := fun v w' => v = .int .i64 nF ∧ w' = v6_) rfl (by rfl) rfl (by go_simp) ((RAt_any HX6.out).mono (fun e w' h => ⟨_, h.1, rfl, h.2⟩)) ?_
  rintro v v7 ⟨rfl, hv7⟩
  subst hv7
  refine ⟨hS, ?_⟩
  simp only [List.setIfInBounds_toArray, List.set_cons_zero, List.set_cons_succ]
  refine nany_take 13 78 (.bool false) rfl rfl (by kernel_rfl) (by kernel_rfl) (by kernel_rfl) (fun _ _ _ h => h) (Or.inl ⟨by rfl, ?_⟩) hS ?_
  · rintro w' hS'
    go_simp
  simp only [List.setIfInBounds_toArray, List.set_cons_zero, List.set_cons_succ]
  refine nany_take 14 79 (.bool false) rfl rfl (by kernel_rfl) (by kernel_rfl) (by kernel_rfl) (fun _ _ _ h => h) (Or.inl ⟨by rfl, ?_⟩) hS ?_
  · rintro w' hS'
    go_simp
  simp only [List.setIfInBounds_toArray, List.set_cons_zero, List.set_cons_succ]
  refine nany_take 15 80 (.bool false) rfl rfl (by kernel_rfl) (by kernel_rfl) (by kernel_rfl) (fun _ _ _ h => h) (Or.inl ⟨by rfl, ?_⟩) hS ?_
  · rintro w' hS'
    go_simp
  simp only [List.setIfInBounds_toArray, List.set_cons_zero, List.set_cons_succ]
  refine nany_take 16 81 (.pointer (some ⟨p, 0, none⟩)) rfl rfl (by kernel_rfl) (by kernel_rfl) (by kernel_rfl) (fun _ _ _ h => h) (Or.inl ⟨by rfl, ?_⟩) hS ?_
  · rintro w' hS'
    go_simp
  simp only [List.setIfInBounds_toArray, List.set_cons_zero, List.set_cons_succ]
  refine nany_take 18 83 (.slice d nm dc) rfl rfl (by kernel_rfl) (by kernel_rfl) (by kernel_rfl) (fun _ _ _ h => h) (Or.inl ⟨by rfl, ?_⟩) hS ?_
  · rintro w' hS'
    go_simp
  simp only [List.setIfInBounds_toArray, List.set_cons_zero, List.set_cons_succ]
  refine nany_take 19 84 (.int .i64 nm) rfl rfl (by kernel_rfl) (by kernel_rfl) (by kernel_rfl) (fun _ _ _ h => h) (Or.inl ⟨by rfl, ?_⟩) hS ?_
  · rintro w' hS'
    go_simp
  simp only [List.setIfInBounds_toArray, List.set_cons_zero, List.set_cons_succ]
  refine nany_one 17 (by kernel_rfl) ?_
  refine nop_callE 82 (f := 12) (args := #[.pointer (some ⟨p, 0, none⟩)]) (R := fun v w' => v = .int .i64 (nm : Int) ∧ Below v7.heap.size v7 w') rfl (by rfl) rfl (by go_simp) ((RLeft_any HX6.out).mono (fun e w' h => ⟨_, by have h1 := h.1; rw [show (⟨F ++ lm, nF, 0⟩ : Rd).l.length - (⟨F ++ lm, nF, 0⟩ : Rd).k = nm by show (F ++ lm).length - nF = nm; rw [List.length_append, HNF.out, HNM.out]; omega] at h1; exact h1, rfl, h.2⟩)) ?_
  rintro v v8 ⟨rfl, hb8⟩
  have hS8 := hS.trans (hb8.mono hS.size)
  clear hS
  have hS := hS8
  refine ⟨hS, ?_⟩
  simp only [List.setIfInBounds_toArray, List.set_cons_zero, List.set_cons_succ]
  have HX8 := hid (HX6.out.later hb8)
  have HS13 := hid (HS12.out.trans (hb8.mono HS12.out.size))
  clear hb8
  refine nany_take 20 85 (.bool false) rfl rfl (by kernel_rfl) (by kernel_rfl) (by kernel_rfl) (fun _ _ _ h => h) (Or.inl ⟨by rfl, ?_⟩) hS ?_
  · rintro w' hS'
    go_simp
  simp only [List.setIfInBounds_toArray, List.set_cons_zero, List.set_cons_succ]
  refine nany_take 21 86 (.bool false) rfl rfl (by kernel_rfl) (by kernel_rfl) (by kernel_rfl) (fun _ _ _ h => h) (Or.inl ⟨by rfl, ?_⟩) hS ?_
  · rintro w' hS'
    go_simp
  simp only [List.setIfInBounds_toArray, List.set_cons_zero, List.set_cons_succ]
  refine nany_take 22 87 (.bool false) rfl rfl (by kernel_rfl) (by kernel_rfl) (by kernel_rfl) (fun _ _ _ h => h) (Or.inl ⟨by rfl, ?_⟩) hS ?_
  · rintro w' hS'
    go_simp
  simp only [List.setIfInBounds_toArray, List.set_cons_zero, List.set_cons_succ]
  refine nany_take 23 88 (.pointer (some ⟨p, 0, none⟩)) rfl rfl (by kernel_rfl) (by kernel_rfl) (by kernel_rfl) (fun _ _ _ h => h) (Or.inl ⟨by rfl, ?_⟩) hS ?_
  · rintro w' hS'
    go_simp
  simp only [List.setIfInBounds_toArray, List.set_cons_zero, List.set_cons_succ]
  refine nany_one 24 (by kernel_rfl) ?_
  refine nop_callE 89 (f := 14) (args := #[.pointer (some ⟨p, 0, none⟩)]) (R := fun v w' => v = .int .i64 0 ∧ w' = v8) rfl (by rfl) rfl (by go_simp) ((RErr_any HX8.out).mono (fun e w' h => ⟨_, h.1, rfl, h.2⟩)) ?_
  rintro v v9 ⟨rfl, hv9⟩
  subst hv9
  refine ⟨hS, ?_⟩
  simp only [List.setIfInBounds_toArray, List.set_cons_zero, List.set_cons_succ]
  refine nany_take 25 90 (.bool false) rfl rfl (by kernel_rfl) (by kernel_rfl) (by kernel_rfl) (fun _ _ _ h => h) (Or.inl ⟨by rfl, ?_⟩) hS ?_
  · rintro w' hS'
    go_simp
  simp only [List.setIfInBounds_toArray, List.set_cons_zero, List.set_cons_succ]
  refine nany_take 26 91 (.bool false) rfl rfl (by kernel_rfl) (by kernel_rfl) (by kernel_rfl) (fun _ _ _ h => h) (Or.inl ⟨by rfl, ?_⟩) hS ?_
  · rintro w' hS'
    go_simp
  simp only [List.setIfInBounds_toArray, List.set_cons_zero, List.set_cons_succ]
  refine wpAnyH_done (by kernel_rfl) ?_ _
  have HBLA := hid hS
  clear hS hS6 hS8
  by_cases hn0 : n = 0
  · have hz : p4 = 0 := by omega
    have hng : ¬ ((0 : Int) < n) := by omega
    clear hn0
    subst hz
    go_wp2
    go_ret
    exact ⟨rfl, HBLA.out⟩
  have hng : (0 : Int) < n := by omega
  have HNR3 := hid (NewReader_any v9 (some ⟨g, 0, none⟩) nF c7 F HNF.out (by omega) (HFB.out.later HS13.out))
  have hlong := cntP_long lb (by have := HN.out; omega) ((n : Int) - 1) (by have := HN.out; omega)
  rw [HF.out] at hlong
  have e1 : ansV ⟨F, 0, 0⟩ [] (cntP F 0 ((n : Int) - 1)) = [] := by rw [hlong]; rfl
  have e2 : ansR ⟨F, 0, 0⟩ (cntP F 0 ((n : Int) - 1)) = ⟨F, 0, 5⟩ := by rw [hlong]; rfl
  have HE1' := hid e1
  have HE2' := hid e2
  have wn1 : IntKind.i64.wrap ((n : Int) - 1) = (n : Int) - 1 := IntWalk.i64_in _ (by omega)
  clear hlong e1 e2
  go_upto_region 20 with (first
    | (go_at_call 9
       refine HNR3.out.mono ?_
       rintro e y1 ⟨p3, rfl, hp3, hx3, _, hb3, _⟩
       have hX3 := hx3 (fun b => b = p3) rfl (fun b h1 h2 e => by have h3 : b = p3 := e; omega)
       have hRB := RBytes_any hX3 ((n : Int) - 1) (by unfold II16; omega)
       simp only at hRB
       rw [HE1'.out, HE2'.out] at hRB
       have HRB3 := hid hRB
       have HBY := hid (HBLA.out.trans (hb3.mono HBLA.out.size))
       have HSY := hid (HS13.out.trans (hb3.mono HS13.out.size))
       have HP3 := hid (Nat.le_trans HBLA.out.size hp3)
       have HP3' := hid (Nat.le_trans HS13.out.size hp3)
       clear hp3 hx3 hb3 hX3 hRB)
    | (go_at_call 29
       refine HRB3.out.mono ?_
       rintro e y2 ⟨⟨a5', c5', rfl, _, _⟩, hx3, hm3⟩
       have HER3 := hid (RErr_any hx3)
       have HAR3 := hid (RAt_any hx3)
       have HBY2 := hid (hm3.to_below HBY.out HBY.out.size (fun b hb => by have h9 : b = p3 := hb; rw [h9]; exact HP3.out))
       have HSY2 := hid (hm3.to_below HSY.out HSY.out.size (fun b hb => by have h9 : b = p3 := hb; rw [h9]; exact HP3'.out))
       (try simp only [List.length_nil])
       clear hx3 hm3)
    | (go_at_call 14
       refine HER3.out.mono ?_
       rintro e y3 ⟨rfl, hx3⟩
       subst hx3)
    | (go_at_call 11
       refine HAR3.out.mono ?_
       rintro e y4 ⟨rfl, hx4⟩
       subst hx4))
  clear HRB3 HER3 HAR3 HNR3
  by_cases hz : p4 = 0
  · subst hz
    go_wp2
    go_ret
    exact ⟨rfl, HBY2.out⟩
  have hz1 : ¬ ((p4 : Int) = 0) := by omega
  have hz2 : ((p4 : Int) == 0) = false := by simpa using hz1
  by_cases hy0 : y = 0
  · subst hy0
    go_wp2
    go_ret
    exact ⟨rfl, HBY2.out⟩
  have hy1 : (y == 0) = false := by simpa using hy0
  have hrl : (at_.tmod p4).natAbs < p4 := by
    rw [Int.natAbs_tmod]
    exact Nat.mod_lt _ (by simp; omega)
  obtain ⟨r, hr⟩ : ∃ r, at_.tmod p4 = r := ⟨_, rfl⟩
  rw [hr] at hrl
  have wr_ : IntKind.i64.wrap r = r := IntWalk.i64_in _ (by omega)
  have wr2 : IntKind.i64.wrap (at_.tmod p4) = r := by rw [hr]; exact wr_
  by_cases hneg : r < 0
  · obtain ⟨kk, hkk⟩ : ∃ kk : Nat, 0 - r = kk := ⟨r.natAbs, by omega⟩
    have HKK := hid (show kk < p4 by omega)
    have wkk : IntKind.i64.wrap (0 - r) = kk := by rw [hkk]; exact IntWalk.i64_in _ (by omega)
    have wkk2 : IntKind.i64.wrap (-r) = kk := by rw [show -r = 0 - r by omega]; exact wkk
    clear hrl hkk
    have hidx : ∃ idx : Nat, (nF : Int) - 1 - kk = idx ∧ idx < nF ∧ idx = 4 + n + (p4 - 1 - kk) := ⟨4 + n + (p4 - 1 - kk), by have := HKK.out; have := HNF2.out; omega, by have := HKK.out; have := HNF2.out; omega, rfl⟩
    obtain ⟨idx, hi1, hi2, hi3⟩ := hidx
    have u1 : IntKind.i64.wrap ((nF : Int) - 1) = (nF : Int) - 1 := IntWalk.i64_in _ (by omega)
    have u2 : IntKind.i64.wrap (idx : Int) = idx := IntWalk.i64_in _ (by omega)
    have how := owns_keep HOW.out (w' := y4) (fun b hb => by simp [Value.ownBlock] at hb; subst hb; exact HSY2.out.block g HG2.out)
    obtain ⟨curS, hcurS, _, _, hszS, _, _⟩ := owns_block how
    have HST := hid hcurS
    have HSZ := hid (show idx < curS.size by rw [hszS]; omega)
    have how2 := owns_set how (g := g) rfl idx (.int .u8 y)
    rw [show (u8s F).set idx (.int .u8 y) = u8s (F.set idx y) by simp [List.map_set]] at how2
    have hFI2 : ∀ x ∈ F.set idx y, IsB x := by rw [← HF.out]; exact fuL_set_isB lb HB.out.isB idx y HYB.out
    obtain ⟨V1, hV1⟩ : ∃ W, W = (y4).setCell ⟨g, idx, none⟩ (.int .u8 y) := ⟨_, rfl⟩
    rw [← hV1] at how2
    have hbV : Below w.heap.size w V1 := by rw [hV1]; exact ((Mods.refl (fun b => b = g) _).setCell g idx _ rfl).to_below HBY2.out HBY2.out.size (fun b hb => by rw [hb]; exact HG0.out)
    have HBV := hid hbV
    have HNR2 := hid (NewReader_any V1 (some ⟨g, 0, none⟩) nF c7 (F.set idx y) (by rw [List.length_set, HNF.out]) (by omega) (owns_bytes how2 hFI2))
    have hbad := cntP_bad lb (by have := HN.out; omega) n (by rw [HN.out]) (p4 - 1 - kk) (by rw [HP4N.out]; have := HKK.out; omega) y hy0
    rw [HF.out, HN.out, ← hi3] at hbad
    have e1 : ansV ⟨F.set idx y, 0, 0⟩ [] (cntP (F.set idx y) 0 n) = [] := by rw [hbad]; rfl
    have e2 : ansR ⟨F.set idx y, 0, 0⟩ (cntP (F.set idx y) 0 n) = ⟨F.set idx y, 0, 15⟩ := by rw [hbad]; rfl
    have HE1 := hid e1
    have HE2 := hid e2
    have hV1' := hV1.symm
    clear how how2 hcurS hszS hFI2 hbV hbad e1 e2 hV1 hi2 hi3
    go_wp2_with (first
      | (refine wl_none rfl rfl (ex_store5 (.tmp 134) (.tmp 133) rfl g idx y (by kernel_rfl) (by kernel_rfl) HST.out HSZ.out) ?_; rw [hV1'])
      | (go_at_call 9
         (try rw [hV1'])
         refine HNR2.out.mono ?_
         rintro e x1 ⟨p2, rfl, hp2, hx2, _, hb2, _⟩
         have hX2 := hx2 (fun b => b = p2) rfl (fun b h1 h2 e => by have h3 : b = p2 := e; omega)
         have hRB := RBytes_any hX2 n (by unfold II16; omega)
         simp only at hRB
         rw [HE1.out, HE2.out] at hRB
         have HRB2 := hid hRB
         have HBX := hid (HBV.out.trans (hb2.mono HBV.out.size))
         have HP2 := hid (Nat.le_trans HBV.out.size hp2)
         clear hp2 hx2 hb2 hX2 hRB)
      | (go_at_call 29
         refine HRB2.out.mono ?_
         rintro e x2 ⟨⟨a5, c5, rfl, _, _⟩, hx3, hm3⟩
         have HER := hid (RErr_any hx3)
         have HAR := hid (RAt_any hx3)
         have q1 : ∀ R : Rs Int, ansV (⟨F.set idx y, 0, 15⟩ : Rd) 0 R = 0 := fun R => by simp [ansV]
         have q2 : ∀ R : Rs Int, ansR (⟨F.set idx y, 0, 15⟩ : Rd) R = ⟨F.set idx y, 0, 15⟩ := fun R => by simp [ansR]
         have hU := RU32_any hx3
         rw [q1, q2] at hU
         have HUR := hid hU
         have HBX2 := hid (hm3.to_below HBX.out HBX.out.size (fun b hb => by have h9 : b = p2 := hb; rw [h9]; exact HP2.out))
         (try simp only [List.length_nil])
         clear hx3 hm3 hU q1 q2)
      | (go_at_call 14
         refine HER.out.mono ?_
         rintro e x3 ⟨rfl, hx3⟩
         subst hx3)
      | (go_at_call 11
         refine HAR.out.mono ?_
         rintro e x4 ⟨rfl, hx4⟩
         subst hx4)
      | (go_at_call 30
         refine HUR.out.mono ?_
         rintro e x5 ⟨rfl, hx5, hm5⟩
         have HER5 := hid (RErr_any hx5)
         have HBX5 := hid (hm5.to_below HBX2.out HBX2.out.size (fun b hb => by have h9 : b = p2 := hb; rw [h9]; exact HP2.out))
         clear hx5 hm5)
      | (go_at_call 14
         refine HER5.out.mono ?_
         rintro e x6 ⟨rfl, hx6⟩
         subst hx6))
    go_ret
    exact ⟨rfl, HBX5.out⟩
  · obtain ⟨kk, rfl⟩ := Int.eq_ofNat_of_zero_le (show 0 ≤ r by omega)
    have HKK := hid (show kk < p4 by omega)
    clear hrl
    have hidx : ∃ idx : Nat, (nF : Int) - 1 - kk = idx ∧ idx < nF ∧ idx = 4 + n + (p4 - 1 - kk) := ⟨4 + n + (p4 - 1 - kk), by have := HKK.out; have := HNF2.out; omega, by have := HKK.out; have := HNF2.out; omega, rfl⟩
    obtain ⟨idx, hi1, hi2, hi3⟩ := hidx
    have u1 : IntKind.i64.wrap ((nF : Int) - 1) = (nF : Int) - 1 := IntWalk.i64_in _ (by omega)
    have u2 : IntKind.i64.wrap (idx : Int) = idx := IntWalk.i64_in _ (by omega)
    have how := owns_keep HOW.out (w' := y4) (fun b hb => by simp [Value.ownBlock] at hb; subst hb; exact HSY2.out.block g HG2.out)
    obtain ⟨curS, hcurS, _, _, hszS, _, _⟩ := owns_block how
    have HST := hid hcurS
    have HSZ := hid (show idx < curS.size by rw [hszS]; omega)
    have how2 := owns_set how (g := g) rfl idx (.int .u8 y)
    rw [show (u8s F).set idx (.int .u8 y) = u8s (F.set idx y) by simp [List.map_set]] at how2
    have hFI2 : ∀ x ∈ F.set idx y, IsB x := by rw [← HF.out]; exact fuL_set_isB lb HB.out.isB idx y HYB.out
    obtain ⟨V1, hV1⟩ : ∃ W, W = (y4).setCell ⟨g, idx, none⟩ (.int .u8 y) := ⟨_, rfl⟩
    rw [← hV1] at how2
    have hbV : Below w.heap.size w V1 := by rw [hV1]; exact ((Mods.refl (fun b => b = g) _).setCell g idx _ rfl).to_below HBY2.out HBY2.out.size (fun b hb => by rw [hb]; exact HG0.out)
    have HBV := hid hbV
    have HNR2 := hid (NewReader_any V1 (some ⟨g, 0, none⟩) nF c7 (F.set idx y) (by rw [List.length_set, HNF.out]) (by omega) (owns_bytes how2 hFI2))
    have hbad := cntP_bad lb (by have := HN.out; omega) n (by rw [HN.out]) (p4 - 1 - kk) (by rw [HP4N.out]; have := HKK.out; omega) y hy0
    rw [HF.out, HN.out, ← hi3] at hbad
    have e1 : ansV ⟨F.set idx y, 0, 0⟩ [] (cntP (F.set idx y) 0 n) = [] := by rw [hbad]; rfl
    have e2 : ansR ⟨F.set idx y, 0, 0⟩ (cntP (F.set idx y) 0 n) = ⟨F.set idx y, 0, 15⟩ := by rw [hbad]; rfl
    have HE1 := hid e1
    have HE2 := hid e2
    have hV1' := hV1.symm
    clear how how2 hcurS hszS hFI2 hbV hbad e1 e2 hV1 hi2 hi3
    go_wp2_with (first
      | (refine wl_none rfl rfl (ex_store5 (.tmp 134) (.tmp 133) rfl g idx y (by kernel_rfl) (by kernel_rfl) HST.out HSZ.out) ?_; rw [hV1'])
      | (go_at_call 9
         (try rw [hV1'])
         refine HNR2.out.mono ?_
         rintro e x1 ⟨p2, rfl, hp2, hx2, _, hb2, _⟩
         have hX2 := hx2 (fun b => b = p2) rfl (fun b h1 h2 e => by have h3 : b = p2 := e; omega)
         have hRB := RBytes_any hX2 n (by unfold II16; omega)
         simp only at hRB
         rw [HE1.out, HE2.out] at hRB
         have HRB2 := hid hRB
         have HBX := hid (HBV.out.trans (hb2.mono HBV.out.size))
         have HP2 := hid (Nat.le_trans HBV.out.size hp2)
         clear hp2 hx2 hb2 hX2 hRB)
      | (go_at_call 29
         refine HRB2.out.mono ?_
         rintro e x2 ⟨⟨a5, c5, rfl, _, _⟩, hx3, hm3⟩
         have HER := hid (RErr_any hx3)
         have HAR := hid (RAt_any hx3)
         have q1 : ∀ R : Rs Int, ansV (⟨F.set idx y, 0, 15⟩ : Rd) 0 R = 0 := fun R => by simp [ansV]
         have q2 : ∀ R : Rs Int, ansR (⟨F.set idx y, 0, 15⟩ : Rd) R = ⟨F.set idx y, 0, 15⟩ := fun R => by simp [ansR]
         have hU := RU32_any hx3
         rw [q1, q2] at hU
         have HUR := hid hU
         have HBX2 := hid (hm3.to_below HBX.out HBX.out.size (fun b hb => by have h9 : b = p2 := hb; rw [h9]; exact HP2.out))
         (try simp only [List.length_nil])
         clear hx3 hm3 hU q1 q2)
      | (go_at_call 14
         refine HER.out.mono ?_
         rintro e x3 ⟨rfl, hx3⟩
         subst hx3)
      | (go_at_call 11
         refine HAR.out.mono ?_
         rintro e x4 ⟨rfl, hx4⟩
         subst hx4)
      | (go_at_call 30
         refine HUR.out.mono ?_
         rintro e x5 ⟨rfl, hx5, hm5⟩
         have HER5 := hid (RErr_any hx5)
         have HBX5 := hid (hm5.to_below HBX2.out HBX2.out.size (fun b hb => by have h9 : b = p2 := hb; rw [h9]; exact HP2.out))
         clear hx5 hm5)
      | (go_at_call 14
         refine HER5.out.mono ?_
         rintro e x6 ⟨rfl, hx6⟩
         subst hx6))
    go_ret
    exact ⟨rfl, HBX5.out⟩
end Go.Proofs.Yteeakkpbpffohaa
