/- fresh: what goes out of the bytes that wait. -/
import Derived.Test.YtmmijbiapflneaaTkC
namespace Go.Proofs.Ytmmijbiapflneaa
open Go.RowKit Go.Maps
set_option linter.unusedVariables false
theorem ex_append {P : Program} {o : Oper} {ev : Operand → Value} {w w' : World} (s x : Operand) (t : TypeId) (ho : o.op = .call { callee := .builtin .append, args := #[s, x], argTypes := #[t, t] }) (ty : TypeId) (hty : o.type = ty) {v y v' : Value} (hs : ev s = v) (hx : ev x = y)
    (hrun : (Builtin.append_ #[t, t] ty #[v, y]).run P w = .ok v' w') : (execOp ev o).run P w = .ok (.value v') w' := by
  subst hty
  unfold execOp
  simp only [ho, resolve, invoke, builtin, Sem.run_bind, Sem.run_pure, Result.andThen_ok, List.map_toArray, List.map_cons, List.map_nil, hs, hx, hrun]
theorem Kp.row {S : Nat → Prop} {w wr W6 w7 : World} {v : Value} (hk : Kp S w S wr) (hb : Below wr.heap.size wr W6) (hm : Mods (fun b => blkV v = some b) W6 w7) (hge : ∀ b, blkV v = some b → w.heap.size ≤ b) : Kp S w S w7 :=
  ⟨fun _ h => .inl h, (hk.2.below hb).trans hm (fun b hb => .inr (hge b hb))⟩
set_option maxRecDepth 100000 in
set_option maxHeartbeats 32000000 in
theorem fresh_any {w : World} {p : Nat} {S : Nat → Prop} {c : Cn} {vc vm vw : Value} (h : CnX w p S c vc vm vw) (hcl : c.came.length ≤ 16384) (hM : 1 ≤ c.M ∧ c.M ≤ 65535) (hU : IsU c.U) (A0 : Nat) (hN : c.N = a32 c.U A0) (hA0 : A0 ≤ c.waits.length) (hl : c.waits.length ≤ 65536) (hwb : ∀ x ∈ c.waits, IsB x) :
    Calls Try.prog 30 #[.pointer (some ⟨p, 0, none⟩)] w fun e w' => ∃ v L, e = .returned v ∧ SL w' 30 w.heap.size v L ∧ L.map (·.p) = (freshL c (c.waits.length - A0) A0).1 ∧ CnX w' p S (fN c (freshL c (c.waits.length - A0) A0).2) vc vm vw ∧ Kp S w S w' := by
  have hfN : fN c A0 = c := by unfold fN; rw [← hN]
  obtain ⟨aw, kw, rfl⟩ := len_waits h
  have hkw : c.waits.length ≤ kw := by
    rcases h.rw_.2 with ⟨e, h0⟩ | ⟨b, off, cap, cur, e, _, h1, _⟩
    · omega
    · simp only [Value.slice.injEq] at e
      omega
  have HSN : Hid (∀ W (A : Nat) , A ≤ c.waits.length → CnX W p S (fN c A) vc vm (.slice aw c.waits.length kw) → Calls Try.prog 31 #[.pointer (some ⟨p, 5, none⟩)] W fun e w' => e = .returned (.int .i64 (A : Int)) ∧ Below W.heap.size W w') := hid (fun W A hA hx => by
    have := sent_any hx
    rwa [sent_fN hU hA hl] at this)
  have HSGG : Hid (∀ W (A : Nat) fl a3 nD cD DD, CnX W p S (fN c A) vc vm (.slice aw c.waits.length kw) → DD.length = nD → nD ≤ 65536 → Bytes W a3 DD → Calls Try.prog 27 #[.pointer (some ⟨p, 0, none⟩), .int .i64 fl, .int .u32 (a32 c.U A), .slice a3 nD cD] W fun e w' => ∃ a2 c2, e = .returned (.agg (sgC c.fr c.to_ (a32 c.U A) c.R fl (ownW c) 0 (.slice a2 nD c2))) ∧ By w' (New W) a2 DD ∧ nD ≤ c2 ∧ Below W.heap.size W w') := hid (fun W A fl a3 nD cD DD hx hD hn hb => segment_any hx hcl fl (a32 c.U A) a3 nD cD DD hD (by omega) hb)
  have HBW : Hid (∀ W A, CnX W p S (fN c A) vc vm (.slice aw c.waits.length kw) → Bytes W aw c.waits) := hid (fun W A hx => RW.bytes hx.rw_ rfl hwb)
  have HSB : Hid (∀ b, S b → b < w.heap.size) := hid h.slt
  have HPW : Hid (p < w.heap.size) := hid (h.slt p h.sp)
  obtain ⟨wl, hwl⟩ : ∃ x, c.waits.length = x := ⟨_, rfl⟩
  have HWL := hid hwl
  have HX0 := hid (show CnX w p S (fN c A0) vc vm (.slice aw wl kw) by rw [hfN, ← hwl]; exact h)
  obtain ⟨TOT, hTOT⟩ : ∃ x, (freshL c (c.waits.length - A0) A0).1 = x := ⟨_, rfl⟩
  obtain ⟨FA, hFA⟩ : ∃ x, (freshL c (c.waits.length - A0) A0).2 = x := ⟨_, rfl⟩
  rw [hTOT, hFA]
  have HT0 := hid hTOT
  have HF0 := hid hFA
  rw [hwl] at HSN HSGG HBW hkw hA0 hl ⊢
  have HFIN : Hid (∀ W v L A, SL W 30 w.heap.size v L → L.map (·.p) = TOT → CnX W p S (fN c A) vc vm (.slice aw wl kw) → Kp S w S W → A = FA → ∃ v' L', Ending.returned v = Ending.returned v' ∧ SL W 30 w.heap.size v' L' ∧ L'.map (·.p) = TOT ∧ CnX W p S (fN c FA) vc vm (.slice aw wl kw) ∧ Kp S w S W) := hid (fun W v L A h1 h2 h3 h4 h5 => by subst h5; exact ⟨v, L, rfl, h1, h2, h3, h4⟩)
  obtain ⟨Q, hQ⟩ : ∃ Q : Ending → World → Prop, (fun e w' => ∃ v L, e = .returned v ∧ SL w' 30 w.heap.size v L ∧ L.map (·.p) = TOT ∧ CnX w' p S (fN c FA) vc vm (.slice aw wl kw) ∧ Kp S w S w') = Q := ⟨_, rfl⟩
  have HQQ : Hid (∀ W v L A, SL W 30 w.heap.size v L → L.map (·.p) = TOT → CnX W p S (fN c A) vc vm (.slice aw wl kw) → Kp S w S W → A = FA → Q (.returned v) W) := hid (fun W v L A h1 h2 h3 h4 h5 => by rw [← hQ]; exact HFIN.out W v L A h1 h2 h3 h4 h5)
  rw [hQ]
  clear h hfN hN hTOT hFA hcl hU hwb hwl HFIN hQ
  go_enter Try.func30, Try.ntmps30
  go_wp2_with (go_at_call 31; refine (HSN.out _ A0 hA0 HX0.out).mono ?_; rintro e w2 ⟨rfl, hb2⟩; have HX2 := hid (HX0.out.later hb2); have HK2 := hid (Kp.below (S := S) hb2); clear hb2 HX0)
  go_loopw [3, 4, 5, 6] (fun v3 v4 _ _ wr => ∃ (A : Nat) (L : List Sx), v4 = .int .i64 (A : Int) ∧ A ≤ wl ∧ L.length ≤ A ∧ SL wr 30 w.heap.size v3 L ∧ L.map (·.p) ++ (freshL c (wl - A) A).1 = TOT ∧ (freshL c (wl - A) A).2 = FA ∧ CnX wr p S (fN c A) vc vm (.slice aw wl kw) ∧ Kp S w S wr) (fun _ v4 _ _ _ => wl - (RowKit.intOf v4).toNat)
  case atStart => exact ⟨A0, [], rfl, hA0, by simp, SL.nil _ _ _, by rw [← HWL.out]; exact HT0.out, by rw [← HWL.out]; exact HF0.out, HX2.out, HK2.out⟩
  case round =>
    obtain ⟨A, L, rfl, hA, hLA, hsl, htot, hfin, hx, hk⟩ := hrel
    clear HX2 HK2 hA0 HT0 HF0
    obtain ⟨av, cv, rfl⟩ := hsl.slice
    have HX := hid hx
    have HKr := hid hk
    have HSLr := hid hsl
    have HLA := hid hLA
    have HTO := hid htot
    have HFI := hid hfin
    have HWB := hid hk.2.size
    have p7 := cell_of hx.box (i := 7) (v := .slice aw wl kw) rfl
    have p8 := cell_of hx.box (i := 8) (v := .int .i64 c.W) rfl
    have p9 := cell_of hx.box (i := 9) (v := .int .i64 c.M) rfl
    have p6 := cell_of hx.box (i := 6) (v := .int .u32 (a32 c.U A)) rfl
    by_cases hlt : A < wl
    · by_cases hAW : (A : Int) < c.W
      · have hltc : A < c.waits.length := by rw [HWL.out]; exact hlt
        obtain ⟨e1, e2, e3, e4⟩ := endC_bd hM.1 hltc hAW
        obtain ⟨E, hE⟩ : ∃ E : Nat, endC c A = E := ⟨(endC c A).toNat, by omega⟩
        rw [hE] at e1 e2 e3 e4
        rw [HWL.out] at e2
        have hstep := freshL_step hM.1 hltc hAW
        rw [hE, Int.toNat_natCast, HWL.out] at hstep
        rw [hstep] at htot hfin
        obtain ⟨nD, hnD⟩ : ∃ x, x = E - A := ⟨_, rfl⟩
        obtain ⟨cD, hcD⟩ : ∃ x, x = kw - A := ⟨_, rfl⟩
        obtain ⟨a3, hcut, hby3⟩ := cut_lh aw wl kw A E (by omega) (by omega) hkw
        obtain ⟨DD, hDD⟩ : ∃ x, x = (c.waits.drop A).take (E - A) := ⟨_, rfl⟩
        rw [← hnD, ← hcD] at hcut
        have hDl : DD.length = nD := by rw [hDD, List.length_take, List.length_drop, HWL.out]; omega
        have HND := hid hDl
        obtain ⟨AM, hAM⟩ : ∃ x, (A : Int) + c.M = x := ⟨_, rfl⟩
        have wAM : IntKind.i64.wrap ((A : Int) + c.M) = AM := by rw [IntWalk.i64_in _ (by omega)]; exact hAM
        have hmin3 : ∀ ats ty W, (Builtin.min_ ats ty #[.int .i64 (wl : Int), .int .i64 AM, .int .i64 c.W]).run Try.prog W = .ok (.int .i64 (E : Int)) W := fun ats ty W => by
          rw [min3_run, ← hAM]
          have := hE
          unfold endC at this
          rw [HWL.out] at this
          rw [this]
        have wED : IntKind.i64.wrap ((E : Int) - (A : Int)) = (nD : Int) := by rw [IntWalk.i64_in _ (by omega)]; omega
        have uD := wrapU_nat nD (by omega)
        have uA := wrapU_add (a32 c.U A) nD
        have hNE : a32 (a32 c.U A) nD = a32 c.U E := by unfold a32; omega
        rw [hNE] at uA
        have HSEG : Hid (segF c A = ⟨c.fr, c.to_, a32 c.U A, c.R, if (E : Int) = (wl : Int) then 24 else 16, ownW c, 0, DD⟩) := hid (by unfold segF segOf; rw [hE, HWL.out, hDD, Int.toNat_natCast])
        have HSG0 : Hid (∀ fl W, CnX W p S (fN c A) vc vm (.slice aw wl kw) → Below wr.heap.size wr W → Calls Try.prog 27 #[.pointer (some ⟨p, 0, none⟩), .int .i64 fl, .int .u32 (a32 c.U A), .slice a3 nD cD] W fun e w' => ∃ a2 c2, e = .returned (.agg (sgC c.fr c.to_ (a32 c.U A) c.R fl (ownW c) 0 (.slice a2 nD c2))) ∧ By w' (New W) a2 DD ∧ nD ≤ c2 ∧ Below W.heap.size W w') := hid (fun fl W hx hb => HSGG.out W A fl a3 nD cD DD hx hDl (by omega) (by rw [hDD]; exact hby3 W c.waits HWL.out (HBW.out W A hx)))
        obtain ⟨NA, hNA⟩ : ∃ x, a32 c.U A = x := ⟨_, rfl⟩
        obtain ⟨NE, hNEE⟩ : ∃ x, a32 c.U E = x := ⟨_, rfl⟩
        rw [hNA] at HSG0 p6 uA HSEG
        rw [hNEE] at uA
        have HNE := hid hNEE
        have HSNE : Hid (∀ W, CnX W p S (fN c E) vc vm (.slice aw wl kw) → Calls Try.prog 31 #[.pointer (some ⟨p, 5, none⟩)] W fun e w' => e = .returned (.int .i64 (E : Int)) ∧ Below W.heap.size W w') := hid (fun W hx => HSN.out W E (by omega) hx)
        have HTO2 := hid htot
        have HFI2 := hid hfin
        have HAE : Hid (A < E ∧ E ≤ wl ∧ E ≤ 65536) := hid ⟨by omega, by omega, by omega⟩
        have HLL : Hid (L.length ≤ 65536) := hid (by omega)
        have HLAA := hid hLA
        have hor := or168
        clear hx hk hsl htot hfin hstep hDD hDl hby3 hAM hE e1 e2 e3 e4 hnD hcD hNE hNA hNEE hLA hltc HTO HFI HLA HSN HSGG HBW hl
        have HLA := HLL
        by_cases hfl : (E : Int) = (wl : Int)
        · have hEw : E = wl := by omega
          rw [if_pos hfl] at HSEG
          have hfe : ((E : Int) == (wl : Int)) = true := by simpa using hfl
          have HSG := hid (HSG0.out 24)
          clear hfl HSG0 hEw
          go_upto_region 5 with fail
          go_region
          go_upto_region 9 with fail
          try simp only [Act.put]
          refine wp_region_held_drew (S := (fun w' => w'.cell? ⟨p, 6, none⟩ = some (.int .u32 NA) ∧ w'.cell? ⟨p, 7, none⟩ = some (.slice aw wl kw))) (by kernel_rfl) ⟨p6, p7⟩ (fun hS => ?_)
          obtain ⟨v0, hv0⟩ : ∃ W, W = wr.drew.drew := ⟨_, rfl⟩
          rw [← hv0] at hS ⊢
          have HX0 := hid (show CnX v0 p S (fN c A) vc vm (.slice aw wl kw) by rw [hv0]; exact HX.out.later (below_drewN (Below.refl _ _) 2))
          have HB0 := hid (show Below wr.heap.size wr v0 by rw [hv0]; exact below_drewN (Below.refl _ _) 2)
          clear hv0
          refine nany_take 0 61 (.slice av L.length cv) rfl rfl (by kernel_rfl) (by kernel_rfl) (by kernel_rfl) (fun _ _ _ h => h) (Or.inl ⟨by rfl, ?_⟩) hS ?_
          · rintro w' hS'
            first | go_simp | (go_simp; exact hS'.1) | (go_simp; exact hS'.2)
          simp only [List.setIfInBounds_toArray, List.set_cons_zero, List.set_cons_succ]
          refine nany_take 1 62 (.pointer (some ⟨p, 0, none⟩)) rfl rfl (by kernel_rfl) (by kernel_rfl) (by kernel_rfl) (fun _ _ _ h => h) (Or.inl ⟨by rfl, ?_⟩) hS ?_
          · rintro w' hS'
            first | go_simp | (go_simp; exact hS'.1) | (go_simp; exact hS'.2)
          simp only [List.setIfInBounds_toArray, List.set_cons_zero, List.set_cons_succ]
          refine nany_take 2 63 (.int .i64 24) rfl rfl (by kernel_rfl) (by kernel_rfl) (by kernel_rfl) (fun _ _ _ h => h) (Or.inl ⟨by rfl, ?_⟩) hS ?_
          · rintro w' hS'
            first | go_simp | (go_simp; exact hS'.1) | (go_simp; exact hS'.2)
          simp only [List.setIfInBounds_toArray, List.set_cons_zero, List.set_cons_succ]
          refine nany_take 3 64 (.pointer (some ⟨p, 0, none⟩)) rfl rfl (by kernel_rfl) (by kernel_rfl) (by kernel_rfl) (fun _ _ _ h => h) (Or.inl ⟨by rfl, ?_⟩) hS ?_
          · rintro w' hS'
            first | go_simp | (go_simp; exact hS'.1) | (go_simp; exact hS'.2)
          simp only [List.setIfInBounds_toArray, List.set_cons_zero, List.set_cons_succ]
          refine nany_take 4 65 (.pointer (some ⟨p, 0, none⟩)) rfl rfl (by kernel_rfl) (by kernel_rfl) (by kernel_rfl) (fun _ _ _ h => h) (Or.inl ⟨by rfl, ?_⟩) hS ?_
          · rintro w' hS'
            first | go_simp | (go_simp; exact hS'.1) | (go_simp; exact hS'.2)
          simp only [List.setIfInBounds_toArray, List.set_cons_zero, List.set_cons_succ]
          refine nany_take 5 66 (.pointer (some ⟨p, 5, none⟩)) rfl rfl (by kernel_rfl) (by kernel_rfl) (by kernel_rfl) (fun _ _ _ h => h) (Or.inl ⟨by rfl, ?_⟩) hS ?_
          · rintro w' hS'
            first | go_simp | (go_simp; exact hS'.1) | (go_simp; exact hS'.2)
          simp only [List.setIfInBounds_toArray, List.set_cons_zero, List.set_cons_succ]
          refine nany_take 6 67 (.pointer (some ⟨p, 6, none⟩)) rfl rfl (by kernel_rfl) (by kernel_rfl) (by kernel_rfl) (fun _ _ _ h => h) (Or.inl ⟨by rfl, ?_⟩) hS ?_
          · rintro w' hS'
            first | go_simp | (go_simp; exact hS'.1) | (go_simp; exact hS'.2)
          simp only [List.setIfInBounds_toArray, List.set_cons_zero, List.set_cons_succ]
          refine nany_take 7 68 (.int .u32 NA) rfl rfl (by kernel_rfl) (by kernel_rfl) (by kernel_rfl) (fun _ _ _ h => h) (Or.inl ⟨by rfl, ?_⟩) hS ?_
          · rintro w' hS'
            first | go_simp | (go_simp; exact hS'.1) | (go_simp; exact hS'.2)
          simp only [List.setIfInBounds_toArray, List.set_cons_zero, List.set_cons_succ]
          refine nany_take 8 69 (.pointer (some ⟨p, 0, none⟩)) rfl rfl (by kernel_rfl) (by kernel_rfl) (by kernel_rfl) (fun _ _ _ h => h) (Or.inl ⟨by rfl, ?_⟩) hS ?_
          · rintro w' hS'
            first | go_simp | (go_simp; exact hS'.1) | (go_simp; exact hS'.2)
          simp only [List.setIfInBounds_toArray, List.set_cons_zero, List.set_cons_succ]
          refine nany_take 9 70 (.pointer (some ⟨p, 0, none⟩)) rfl rfl (by kernel_rfl) (by kernel_rfl) (by kernel_rfl) (fun _ _ _ h => h) (Or.inl ⟨by rfl, ?_⟩) hS ?_
          · rintro w' hS'
            first | go_simp | (go_simp; exact hS'.1) | (go_simp; exact hS'.2)
          simp only [List.setIfInBounds_toArray, List.set_cons_zero, List.set_cons_succ]
          refine nany_take 10 71 (.pointer (some ⟨p, 5, none⟩)) rfl rfl (by kernel_rfl) (by kernel_rfl) (by kernel_rfl) (fun _ _ _ h => h) (Or.inl ⟨by rfl, ?_⟩) hS ?_
          · rintro w' hS'
            first | go_simp | (go_simp; exact hS'.1) | (go_simp; exact hS'.2)
          simp only [List.setIfInBounds_toArray, List.set_cons_zero, List.set_cons_succ]
          refine nany_take 11 72 (.pointer (some ⟨p, 7, none⟩)) rfl rfl (by kernel_rfl) (by kernel_rfl) (by kernel_rfl) (fun _ _ _ h => h) (Or.inl ⟨by rfl, ?_⟩) hS ?_
          · rintro w' hS'
            first | go_simp | (go_simp; exact hS'.1) | (go_simp; exact hS'.2)
          simp only [List.setIfInBounds_toArray, List.set_cons_zero, List.set_cons_succ]
          refine nany_take 12 73 (.slice aw wl kw) rfl rfl (by kernel_rfl) (by kernel_rfl) (by kernel_rfl) (fun _ _ _ h => h) (Or.inl ⟨by rfl, ?_⟩) hS ?_
          · rintro w' hS'
            first | go_simp | (go_simp; exact hS'.1) | (go_simp; exact hS'.2)
          simp only [List.setIfInBounds_toArray, List.set_cons_zero, List.set_cons_succ]
          refine nany_take 13 74 (.int .i64 A) rfl rfl (by kernel_rfl) (by kernel_rfl) (by kernel_rfl) (fun _ _ _ h => h) (Or.inl ⟨by rfl, ?_⟩) hS ?_
          · rintro w' hS'
            first | go_simp | (go_simp; exact hS'.1) | (go_simp; exact hS'.2)
          simp only [List.setIfInBounds_toArray, List.set_cons_zero, List.set_cons_succ]
          refine nany_take 14 75 (.int .i64 E) rfl rfl (by kernel_rfl) (by kernel_rfl) (by kernel_rfl) (fun _ _ _ h => h) (Or.inl ⟨by rfl, ?_⟩) hS ?_
          · rintro w' hS'
            first | go_simp | (go_simp; exact hS'.1) | (go_simp; exact hS'.2)
          simp only [List.setIfInBounds_toArray, List.set_cons_zero, List.set_cons_succ]
          refine nany_take 15 76 (.slice a3 nD cD) rfl rfl (by kernel_rfl) (by kernel_rfl) (by kernel_rfl) (fun _ _ _ h => h) (Or.inl ⟨by rfl, ?_⟩) hS ?_
          · rintro w' -
            go_simp
          simp only [List.setIfInBounds_toArray, List.set_cons_zero, List.set_cons_succ]
          refine nany_one 16 (by kernel_rfl) ?_
          refine nop_callE 77 (f := 27) (args := #[.pointer (some ⟨p, 0, none⟩), .int .i64 24, .int .u32 NA, .slice a3 nD cD]) (R := fun v w' => ∃ a2 c2, v = .agg (sgC c.fr c.to_ NA c.R 24 (ownW c) 0 (.slice a2 nD c2)) ∧ By w' (New v0) a2 DD ∧ nD ≤ c2 ∧ Below v0.heap.size v0 w') rfl (by rfl) rfl (by go_simp) ((HSG.out v0 HX0.out HB0.out).mono (fun e w' h => by obtain ⟨a2, c2, h1, h2⟩ := h; exact ⟨_, h1, a2, c2, rfl, h2⟩)) ?_
          rintro v v5 ⟨a2, c2, rfl, hy5, hc5, hb5⟩
          have hS5 := And.intro (cell_later hb5 hS.1) (cell_later hb5 hS.2)
          refine ⟨hS5, ?_⟩
          simp only [List.setIfInBounds_toArray, List.set_cons_zero, List.set_cons_succ]
          obtain ⟨W6, hW6⟩ : ∃ W, W = v5.alloc (.cells (sgC c.fr c.to_ NA c.R 24 (ownW c) 0 (.slice a2 nD c2)) 30) := ⟨_, rfl⟩
          have b6 : Below v5.heap.size v5 W6 := by rw [hW6]; exact below_alloc (Below.refl _ _) (Nat.le_refl _) _
          have h6 : W6.heap[v5.heap.size]? = some (.cells (sgC c.fr c.to_ NA c.R 24 (ownW c) 0 (.slice a2 nD c2)) 30 (0, 0)) := by rw [hW6]; exact alloc_new v5 _
          have hS6 := And.intro (cell_later b6 hS5.1) (cell_later b6 hS5.2)
          have b05 := HB0.out.trans (hb5.mono HB0.out.size)
          have b06 := b05.trans (b6.mono b05.size)
          refine nany_one 17 (by kernel_rfl) ?_
          refine nop_value' 78 (v := .slice (some ⟨v5.heap.size, 0, none⟩) 1 1) (w' := W6) rfl (by rfl) rfl (by rw [hW6]; go_simp) ?_
          refine ⟨hS6, ?_⟩
          simp only [List.setIfInBounds_toArray, List.set_cons_zero, List.set_cons_succ]
          have hwB := HWB.out
          have hpw := HPW.out
          obtain ⟨a7, c7, w7, hrun, hsl7, hm7⟩ := SL.push W6 31 31 30 w.heap.size Try.underlying31 infoSG (by decide) (.slice av L.length cv) L (HSLr.out.later b06) ⟨⟨c.fr, c.to_, NA, c.R, 24, ownW c, 0, DD⟩, a2, c2⟩ (Nat.le_trans hwB b06.size) ((hy5.later b6).weak (fun b hb _ => Nat.le_trans hwB (Nat.le_trans HB0.out.size hb))) (by show DD.length ≤ c2; rw [HND.out]; exact hc5) (by have := HLA.out; omega) ⟨v5.heap.size, 0, none⟩ 1 (fun j u hj => by
            rw [add_addr, Nat.zero_add]
            refine cell_of h6 ?_
            have e : (sxV ⟨⟨c.fr, c.to_, NA, c.R, 24, ownW c, 0, DD⟩, a2, c2⟩) = (sgC c.fr c.to_ NA c.R 24 (ownW c) 0 (.slice a2 nD c2)).toList := by rw [← HND.out]; rfl
            rw [e, Array.getElem?_toList] at hj
            exact hj)
          have hblk : ¬ (blkV (.slice av L.length cv) = some p) := fun e => by have := HSLr.out.2.1 p e; omega
          have hk7 : w7.heap[p]? = W6.heap[p]? := hm7.block p (Nat.lt_of_lt_of_le (Nat.lt_of_lt_of_le hpw hwB) b06.size) hblk
          have hS7 := And.intro ((World.cell?_of_block hk7).trans hS6.1) ((World.cell?_of_block hk7).trans hS6.2)
          have hX7 := (HX.out.later b06).keep (w' := w7) (fun b hb => hm7.block b ((HX.out.later b06).slt b hb) (fun e => by have h1 := HSLr.out.2.1 b e; have h2 := HSB.out b hb; omega)) hm7.size
          have hK7 := Kp.row HKr.out b06 hm7 HSLr.out.2.1
          refine nany_one 18 (by kernel_rfl) ?_
          refine nop_value' 79 (v := .slice a7 (L.length + 1) c7) (w' := w7) rfl (by rfl) rfl (ex_append (.tmp 61) (.tmp 78) 31 rfl 31 rfl (v := .slice av L.length cv) (y := .slice (some ⟨v5.heap.size, 0, none⟩) 1 1) (by kernel_rfl) (by kernel_rfl) hrun) ?_
          refine ⟨hS7, ?_⟩
          simp only [List.setIfInBounds_toArray, List.set_cons_zero, List.set_cons_succ]
          refine nany_take 19 3 (.slice a7 (L.length + 1) c7) rfl rfl (by kernel_rfl) (by kernel_rfl) (by kernel_rfl) (fun _ _ _ h => h) (Or.inl ⟨by rfl, ?_⟩) hS7 ?_
          · rintro w' -
            go_simp
          simp only [List.setIfInBounds_toArray, List.set_cons_zero, List.set_cons_succ]
          refine wpAnyH_done (by kernel_rfl) ?_ _
          have c6 := hS7.1
          have f6 := froz_of hX7.box 6
          obtain ⟨w8, hw8⟩ : ∃ W, W = w7.setCell ⟨p, 6, none⟩ (.int .u32 NE) := ⟨_, rfl⟩
          have hs8 := hX7.set (c' := fN c E) 6 (.int .u32 NE) (by rw [N_cells, ← HNE.out]; rfl) rfl rfl rfl rfl rfl
          rw [← hw8] at hs8
          have HX8 := hid hs8.1
          have HK8 := hid (hK7.trans hs8.2)
          have HSL8 := hid (hsl7.keep (w' := w8) (fun b hb hb2 => hs8.2.block hb2 (fun e => by have := HSB.out b e; omega)))
          have hw8' := hw8.symm
          clear hw8 hs8 hsl7 hm7 hX7 hK7 hk7 hS5 hS6 hS7 hrun h6 b6 b05 b06 hb5 hy5 hc5 hblk hwB hpw hW6 hS HX0 HB0
          go_wp2_with (go_at_call 31; refine (HSNE.out _ HX8.out).mono ?_; rintro e w9 ⟨rfl, hb9⟩; have HX9 := hid (HX8.out.later hb9); have HK9 := hid (HK8.out.trans (Kp.below (S := S) hb9)); have HSL9 := hid (HSL8.out.later hb9); clear hb9 HX8 HK8 HSL8)
          go_roundw
          case rel => exact ⟨E, L ++ [⟨⟨c.fr, c.to_, NA, c.R, 24, ownW c, 0, DD⟩, a2, c2⟩], rfl, HAE.out.2.1, by rw [List.length_append]; have := HAE.out; have := HLAA.out; simp; omega, HSL9.out, by rw [← HTO2.out, List.map_append, HSEG.out]; simp, HFI2.out, HX9.out, HK9.out⟩
          case measure => have := HAE.out; simp [RowKit.intOf]; omega
        · rw [if_neg hfl] at HSEG
          have hfe : ((E : Int) == (wl : Int)) = false := by simpa using hfl
          have hfn : ¬ (E = wl) := fun e => hfl (by rw [e])
          have HSG := hid (HSG0.out 16)
          clear hfl HSG0
          go_upto_region 5 with fail
          go_region
          go_upto_region 9 with fail
          try simp only [Act.put]
          refine wp_region_held_drew (S := (fun w' => w'.cell? ⟨p, 6, none⟩ = some (.int .u32 NA) ∧ w'.cell? ⟨p, 7, none⟩ = some (.slice aw wl kw))) (by kernel_rfl) ⟨p6, p7⟩ (fun hS => ?_)
          obtain ⟨v0, hv0⟩ : ∃ W, W = wr.drew.drew := ⟨_, rfl⟩
          rw [← hv0] at hS ⊢
          have HX0 := hid (show CnX v0 p S (fN c A) vc vm (.slice aw wl kw) by rw [hv0]; exact HX.out.later (below_drewN (Below.refl _ _) 2))
          have HB0 := hid (show Below wr.heap.size wr v0 by rw [hv0]; exact below_drewN (Below.refl _ _) 2)
          clear hv0
          refine nany_take 0 61 (.slice av L.length cv) rfl rfl (by kernel_rfl) (by kernel_rfl) (by kernel_rfl) (fun _ _ _ h => h) (Or.inl ⟨by rfl, ?_⟩) hS ?_
          · rintro w' hS'
            first | go_simp | (go_simp; exact hS'.1) | (go_simp; exact hS'.2)
          simp only [List.setIfInBounds_toArray, List.set_cons_zero, List.set_cons_succ]
          refine nany_take 1 62 (.pointer (some ⟨p, 0, none⟩)) rfl rfl (by kernel_rfl) (by kernel_rfl) (by kernel_rfl) (fun _ _ _ h => h) (Or.inl ⟨by rfl, ?_⟩) hS ?_
          · rintro w' hS'
            first | go_simp | (go_simp; exact hS'.1) | (go_simp; exact hS'.2)
          simp only [List.setIfInBounds_toArray, List.set_cons_zero, List.set_cons_succ]
          refine nany_take 2 63 (.int .i64 16) rfl rfl (by kernel_rfl) (by kernel_rfl) (by kernel_rfl) (fun _ _ _ h => h) (Or.inl ⟨by rfl, ?_⟩) hS ?_
          · rintro w' hS'
            first | go_simp | (go_simp; exact hS'.1) | (go_simp; exact hS'.2)
          simp only [List.setIfInBounds_toArray, List.set_cons_zero, List.set_cons_succ]
          refine nany_take 3 64 (.pointer (some ⟨p, 0, none⟩)) rfl rfl (by kernel_rfl) (by kernel_rfl) (by kernel_rfl) (fun _ _ _ h => h) (Or.inl ⟨by rfl, ?_⟩) hS ?_
          · rintro w' hS'
            first | go_simp | (go_simp; exact hS'.1) | (go_simp; exact hS'.2)
          simp only [List.setIfInBounds_toArray, List.set_cons_zero, List.set_cons_succ]
          refine nany_take 4 65 (.pointer (some ⟨p, 0, none⟩)) rfl rfl (by kernel_rfl) (by kernel_rfl) (by kernel_rfl) (fun _ _ _ h => h) (Or.inl ⟨by rfl, ?_⟩) hS ?_
          · rintro w' hS'
            first | go_simp | (go_simp; exact hS'.1) | (go_simp; exact hS'.2)
          simp only [List.setIfInBounds_toArray, List.set_cons_zero, List.set_cons_succ]
          refine nany_take 5 66 (.pointer (some ⟨p, 5, none⟩)) rfl rfl (by kernel_rfl) (by kernel_rfl) (by kernel_rfl) (fun _ _ _ h => h) (Or.inl ⟨by rfl, ?_⟩) hS ?_
          · rintro w' hS'
            first | go_simp | (go_simp; exact hS'.1) | (go_simp; exact hS'.2)
          simp only [List.setIfInBounds_toArray, List.set_cons_zero, List.set_cons_succ]
          refine nany_take 6 67 (.pointer (some ⟨p, 6, none⟩)) rfl rfl (by kernel_rfl) (by kernel_rfl) (by kernel_rfl) (fun _ _ _ h => h) (Or.inl ⟨by rfl, ?_⟩) hS ?_
          · rintro w' hS'
            first | go_simp | (go_simp; exact hS'.1) | (go_simp; exact hS'.2)
          simp only [List.setIfInBounds_toArray, List.set_cons_zero, List.set_cons_succ]
          refine nany_take 7 68 (.int .u32 NA) rfl rfl (by kernel_rfl) (by kernel_rfl) (by kernel_rfl) (fun _ _ _ h => h) (Or.inl ⟨by rfl, ?_⟩) hS ?_
          · rintro w' hS'
            first | go_simp | (go_simp; exact hS'.1) | (go_simp; exact hS'.2)
          simp only [List.setIfInBounds_toArray, List.set_cons_zero, List.set_cons_succ]
          refine nany_take 8 69 (.pointer (some ⟨p, 0, none⟩)) rfl rfl (by kernel_rfl) (by kernel_rfl) (by kernel_rfl) (fun _ _ _ h => h) (Or.inl ⟨by rfl, ?_⟩) hS ?_
          · rintro w' hS'
            first | go_simp | (go_simp; exact hS'.1) | (go_simp; exact hS'.2)
          simp only [List.setIfInBounds_toArray, List.set_cons_zero, List.set_cons_succ]
          refine nany_take 9 70 (.pointer (some ⟨p, 0, none⟩)) rfl rfl (by kernel_rfl) (by kernel_rfl) (by kernel_rfl) (fun _ _ _ h => h) (Or.inl ⟨by rfl, ?_⟩) hS ?_
          · rintro w' hS'
            first | go_simp | (go_simp; exact hS'.1) | (go_simp; exact hS'.2)
          simp only [List.setIfInBounds_toArray, List.set_cons_zero, List.set_cons_succ]
          refine nany_take 10 71 (.pointer (some ⟨p, 5, none⟩)) rfl rfl (by kernel_rfl) (by kernel_rfl) (by kernel_rfl) (fun _ _ _ h => h) (Or.inl ⟨by rfl, ?_⟩) hS ?_
          · rintro w' hS'
            first | go_simp | (go_simp; exact hS'.1) | (go_simp; exact hS'.2)
          simp only [List.setIfInBounds_toArray, List.set_cons_zero, List.set_cons_succ]
          refine nany_take 11 72 (.pointer (some ⟨p, 7, none⟩)) rfl rfl (by kernel_rfl) (by kernel_rfl) (by kernel_rfl) (fun _ _ _ h => h) (Or.inl ⟨by rfl, ?_⟩) hS ?_
          · rintro w' hS'
            first | go_simp | (go_simp; exact hS'.1) | (go_simp; exact hS'.2)
          simp only [List.setIfInBounds_toArray, List.set_cons_zero, List.set_cons_succ]
          refine nany_take 12 73 (.slice aw wl kw) rfl rfl (by kernel_rfl) (by kernel_rfl) (by kernel_rfl) (fun _ _ _ h => h) (Or.inl ⟨by rfl, ?_⟩) hS ?_
          · rintro w' hS'
            first | go_simp | (go_simp; exact hS'.1) | (go_simp; exact hS'.2)
          simp only [List.setIfInBounds_toArray, List.set_cons_zero, List.set_cons_succ]
          refine nany_take 13 74 (.int .i64 A) rfl rfl (by kernel_rfl) (by kernel_rfl) (by kernel_rfl) (fun _ _ _ h => h) (Or.inl ⟨by rfl, ?_⟩) hS ?_
          · rintro w' hS'
            first | go_simp | (go_simp; exact hS'.1) | (go_simp; exact hS'.2)
          simp only [List.setIfInBounds_toArray, List.set_cons_zero, List.set_cons_succ]
          refine nany_take 14 75 (.int .i64 E) rfl rfl (by kernel_rfl) (by kernel_rfl) (by kernel_rfl) (fun _ _ _ h => h) (Or.inl ⟨by rfl, ?_⟩) hS ?_
          · rintro w' hS'
            first | go_simp | (go_simp; exact hS'.1) | (go_simp; exact hS'.2)
          simp only [List.setIfInBounds_toArray, List.set_cons_zero, List.set_cons_succ]
          refine nany_take 15 76 (.slice a3 nD cD) rfl rfl (by kernel_rfl) (by kernel_rfl) (by kernel_rfl) (fun _ _ _ h => h) (Or.inl ⟨by rfl, ?_⟩) hS ?_
          · rintro w' -
            go_simp
          simp only [List.setIfInBounds_toArray, List.set_cons_zero, List.set_cons_succ]
          refine nany_one 16 (by kernel_rfl) ?_
          refine nop_callE 77 (f := 27) (args := #[.pointer (some ⟨p, 0, none⟩), .int .i64 16, .int .u32 NA, .slice a3 nD cD]) (R := fun v w' => ∃ a2 c2, v = .agg (sgC c.fr c.to_ NA c.R 16 (ownW c) 0 (.slice a2 nD c2)) ∧ By w' (New v0) a2 DD ∧ nD ≤ c2 ∧ Below v0.heap.size v0 w') rfl (by rfl) rfl (by go_simp) ((HSG.out v0 HX0.out HB0.out).mono (fun e w' h => by obtain ⟨a2, c2, h1, h2⟩ := h; exact ⟨_, h1, a2, c2, rfl, h2⟩)) ?_
          rintro v v5 ⟨a2, c2, rfl, hy5, hc5, hb5⟩
          have hS5 := And.intro (cell_later hb5 hS.1) (cell_later hb5 hS.2)
          refine ⟨hS5, ?_⟩
          simp only [List.setIfInBounds_toArray, List.set_cons_zero, List.set_cons_succ]
          obtain ⟨W6, hW6⟩ : ∃ W, W = v5.alloc (.cells (sgC c.fr c.to_ NA c.R 16 (ownW c) 0 (.slice a2 nD c2)) 30) := ⟨_, rfl⟩
          have b6 : Below v5.heap.size v5 W6 := by rw [hW6]; exact below_alloc (Below.refl _ _) (Nat.le_refl _) _
          have h6 : W6.heap[v5.heap.size]? = some (.cells (sgC c.fr c.to_ NA c.R 16 (ownW c) 0 (.slice a2 nD c2)) 30 (0, 0)) := by rw [hW6]; exact alloc_new v5 _
          have hS6 := And.intro (cell_later b6 hS5.1) (cell_later b6 hS5.2)
          have b05 := HB0.out.trans (hb5.mono HB0.out.size)
          have b06 := b05.trans (b6.mono b05.size)
          refine nany_one 17 (by kernel_rfl) ?_
          refine nop_value' 78 (v := .slice (some ⟨v5.heap.size, 0, none⟩) 1 1) (w' := W6) rfl (by rfl) rfl (by rw [hW6]; go_simp) ?_
          refine ⟨hS6, ?_⟩
          simp only [List.setIfInBounds_toArray, List.set_cons_zero, List.set_cons_succ]
          have hwB := HWB.out
          have hpw := HPW.out
          obtain ⟨a7, c7, w7, hrun, hsl7, hm7⟩ := SL.push W6 31 31 30 w.heap.size Try.underlying31 infoSG (by decide) (.slice av L.length cv) L (HSLr.out.later b06) ⟨⟨c.fr, c.to_, NA, c.R, 16, ownW c, 0, DD⟩, a2, c2⟩ (Nat.le_trans hwB b06.size) ((hy5.later b6).weak (fun b hb _ => Nat.le_trans hwB (Nat.le_trans HB0.out.size hb))) (by show DD.length ≤ c2; rw [HND.out]; exact hc5) (by have := HLA.out; omega) ⟨v5.heap.size, 0, none⟩ 1 (fun j u hj => by
            rw [add_addr, Nat.zero_add]
            refine cell_of h6 ?_
            have e : (sxV ⟨⟨c.fr, c.to_, NA, c.R, 16, ownW c, 0, DD⟩, a2, c2⟩) = (sgC c.fr c.to_ NA c.R 16 (ownW c) 0 (.slice a2 nD c2)).toList := by rw [← HND.out]; rfl
            rw [e, Array.getElem?_toList] at hj
            exact hj)
          have hblk : ¬ (blkV (.slice av L.length cv) = some p) := fun e => by have := HSLr.out.2.1 p e; omega
          have hk7 : w7.heap[p]? = W6.heap[p]? := hm7.block p (Nat.lt_of_lt_of_le (Nat.lt_of_lt_of_le hpw hwB) b06.size) hblk
          have hS7 := And.intro ((World.cell?_of_block hk7).trans hS6.1) ((World.cell?_of_block hk7).trans hS6.2)
          have hX7 := (HX.out.later b06).keep (w' := w7) (fun b hb => hm7.block b ((HX.out.later b06).slt b hb) (fun e => by have h1 := HSLr.out.2.1 b e; have h2 := HSB.out b hb; omega)) hm7.size
          have hK7 := Kp.row HKr.out b06 hm7 HSLr.out.2.1
          refine nany_one 18 (by kernel_rfl) ?_
          refine nop_value' 79 (v := .slice a7 (L.length + 1) c7) (w' := w7) rfl (by rfl) rfl (ex_append (.tmp 61) (.tmp 78) 31 rfl 31 rfl (v := .slice av L.length cv) (y := .slice (some ⟨v5.heap.size, 0, none⟩) 1 1) (by kernel_rfl) (by kernel_rfl) hrun) ?_
          refine ⟨hS7, ?_⟩
          simp only [List.setIfInBounds_toArray, List.set_cons_zero, List.set_cons_succ]
          refine nany_take 19 3 (.slice a7 (L.length + 1) c7) rfl rfl (by kernel_rfl) (by kernel_rfl) (by kernel_rfl) (fun _ _ _ h => h) (Or.inl ⟨by rfl, ?_⟩) hS7 ?_
          · rintro w' -
            go_simp
          simp only [List.setIfInBounds_toArray, List.set_cons_zero, List.set_cons_succ]
          refine wpAnyH_done (by kernel_rfl) ?_ _
          have c6 := hS7.1
          have f6 := froz_of hX7.box 6
          obtain ⟨w8, hw8⟩ : ∃ W, W = w7.setCell ⟨p, 6, none⟩ (.int .u32 NE) := ⟨_, rfl⟩
          have hs8 := hX7.set (c' := fN c E) 6 (.int .u32 NE) (by rw [N_cells, ← HNE.out]; rfl) rfl rfl rfl rfl rfl
          rw [← hw8] at hs8
          have HX8 := hid hs8.1
          have HK8 := hid (hK7.trans hs8.2)
          have HSL8 := hid (hsl7.keep (w' := w8) (fun b hb hb2 => hs8.2.block hb2 (fun e => by have := HSB.out b e; omega)))
          have hw8' := hw8.symm
          clear hw8 hs8 hsl7 hm7 hX7 hK7 hk7 hS5 hS6 hS7 hrun h6 b6 b05 b06 hb5 hy5 hc5 hblk hwB hpw hW6 hS HX0 HB0
          go_wp2_with (go_at_call 31; refine (HSNE.out _ HX8.out).mono ?_; rintro e w9 ⟨rfl, hb9⟩; have HX9 := hid (HX8.out.later hb9); have HK9 := hid (HK8.out.trans (Kp.below (S := S) hb9)); have HSL9 := hid (HSL8.out.later hb9); clear hb9 HX8 HK8 HSL8)
          go_roundw
          case rel => exact ⟨E, L ++ [⟨⟨c.fr, c.to_, NA, c.R, 16, ownW c, 0, DD⟩, a2, c2⟩], rfl, HAE.out.2.1, by rw [List.length_append]; have := HAE.out; have := HLAA.out; simp; omega, HSL9.out, by rw [← HTO2.out, List.map_append, HSEG.out]; simp, HFI2.out, HX9.out, HK9.out⟩
          case measure => have := HAE.out; simp [RowKit.intOf]; omega
      · clear hx hk hsl hLA
        have hdd : (freshL c (wl - A) A) = ([], A) := freshL_stop (fun e => hAW e.2)
        rw [hdd] at htot hfin
        have HTO3 := hid htot
        have HFI3 := hid hfin
        clear htot hfin hdd HTO HFI
        go_wp2
        have hq := HQQ.out wr _ L A HSLr.out (by have := HTO3.out; simpa using this) HX.out HKr.out HFI3.out
        first | exact hq | (go_ret; exact hq)
    · have hdd : (freshL c (wl - A) A) = ([], A) := freshL_stop (fun e => by rw [HWL.out] at e; exact hlt e.1)
      rw [hdd] at htot hfin
      have HTO3 := hid htot
      have HFI3 := hid hfin
      clear hx hk hsl hLA htot hfin hdd HTO HFI
      go_wp2
      have hq := HQQ.out wr _ L A HSLr.out (by have := HTO3.out; simpa using this) HX.out HKr.out HFI3.out
      first | exact hq | (go_ret; exact hq)
end Go.Proofs.Ytmmijbiapflneaa
