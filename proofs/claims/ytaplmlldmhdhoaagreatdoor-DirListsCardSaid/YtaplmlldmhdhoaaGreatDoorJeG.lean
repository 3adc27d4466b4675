/- JeF, JeG in one text. -/
import Derived.Test.YtaplmlldmhdhoaaGreatDoorJbA
import Derived.Test.YtaplmlldmhdhoaaGreatDoorIeJ
import Derived.Test.YtaplmlldmhdhoaaGreatDoorIcE
import Derived.Test.YtaplmlldmhdhoaaGreatDoorJeE
/- A new volume's root. -/
namespace Go.Proofs.YtaplmlldmhdhoaaGreatDoor
open Go.RowKit Go.Maps
set_option linter.unusedVariables false
set_option maxRecDepth 100000 in
set_option maxHeartbeats 1000000 in
/-- A view of a new volume, by its blocks: all of them. -/
theorem Fresh_all (w : World) (N : Nat) (i : Int) (hp : PlanOk N i) (hN : N ≤ 4096) :
    Calls Tryz.prog 14 #[n64 N, n64 i] w fun e w' => ∃ pv S base T, e = .returned (ptrV pv) ∧ Dw w' pv S N i base T (cont (mkfsL N i 0 0)) 0 (fun _ => none) (cont (mkfsL N i 0 0)) ∧ (∀ g, S g → w.heap.size ≤ g) ∧ (∀ g, T g → w.heap.size ≤ g) ∧ Below w.heap.size w w' := by
  have HM := hid (Made_ok w N i 0 0 hp (by decide) (by decide) (by decide) (by decide))
  have HP := hid hp
  have HN := hid hN
  clear hp hN
  go_enter Tryz.func14, Tryz.ntmps14
  go_wp2_with fail
  refine HM.out.mono ?_
  rintro e w1 ⟨q, rfl, hB, hb1⟩
  rw [Int.toNat_natCast] at hB
  have HO := hid (Over_any w1 q N _ _ _ hB i HP.out (cont_0 HP.out))
  have HB := hid hB
  have HB1 := hid hb1
  clear hB hb1 HM
  go_wp2_with fail
  refine HO.out.mono ?_
  rintro e w2 ⟨pv, rfl, hv, hb2⟩
  have hB2 := HB.out.later hb2
  have HD : Hid (Dw w2 pv _ N i (baseV q) _ (cont (mkfsL N i 0 0)) 0 (fun _ => none) (cont (mkfsL N i 0 0))) := hid ⟨hv, Tl.ofBs hB2 (by have := HN.out; omega) (fun g hg => Nat.lt_of_lt_of_le hg.2 hb2.size), fun k _ => rfl, fun _ _ _ => rfl, fun g hg => hg.2, fun g hg hs => by have := hg.2; have := hs.1; omega, HP.out, HN.out, fun k hk => hB2.len hk, fun k hk => hB2.isB hk⟩
  have HB2 := hid hb2
  clear hv hb2 HO hB2
  go_wp2
  go_ret
  exact ⟨pv, _, _, _, rfl, HD.out, fun g hg => Nat.le_trans HB1.out.size hg.1, fun g hg => hg.1, HB1.out.trans (HB2.out.mono HB1.out.size)⟩
abbrev B0 : Nat → List Int := cont (mkfsL 400 16 0 0)
theorem planOk0 : PlanOk 400 16 := PlanOk.of (by decide)
theorem planD0 : planD 400 16 = 74 := by decide
theorem planT0 : planT 400 = 70 := by decide
theorem if_getD {a : Int} (x : List Int) (y : Option (List Int)) (z : List Int) : (if a = a then some x else y).getD z = x := by rw [if_pos rfl]; rfl
set_option maxRecDepth 100000 in
theorem B0_last : B0 74 = linesL := by
  show cont (mkfsL 400 16 0 0) 74 = linesL
  unfold cont mkfsL
  rw [planD0, planT0, show ([⟨70, nodeL 74 0 0⟩, ⟨74, linesL⟩] : List Pt) = [⟨70, nodeL 74 0 0⟩] ++ [⟨74, linesL⟩] from rfl, ← List.append_assoc, laid_snoc]
  exact if_getD _ _ _
set_option maxRecDepth 100000 in
theorem B0_node : B0 70 = nodeL 74 0 0 := by
  show cont (mkfsL 400 16 0 0) 70 = nodeL 74 0 0
  unfold cont mkfsL
  rw [planD0, planT0, show ([⟨70, nodeL 74 0 0⟩, ⟨74, linesL⟩] : List Pt) = [⟨70, nodeL 74 0 0⟩] ++ [⟨74, linesL⟩] from rfl, ← List.append_assoc, laid_snoc, if_neg (by decide), laid_snoc]
  exact if_getD _ _ _
set_option maxRecDepth 100000 in
theorem B0_bits : B0 69 = bitB (FU 400 75) := by
  have h : cont (mkfsL 400 16 0 0) 69 = bitB (fun k => decide ((k : Int) ≤ planD 400 16) || decide ((400 : Int) ≤ (k : Int))) := fresh_bits (N := 400) (i := 16) planOk0 (by omega) 0 0
  rw [planD0] at h
  refine Eq.trans h (bitB_congr (fun k _ => ?_))
  unfold FU
  congr 1
  · exact decide_eq_decide.2 (by omega)
  · exact decide_eq_decide.2 (by omega)
def ptr0 : Nat → Nat := fun j => if j = 0 then 74 else 0
def L0 : List Ln := [⟨1, [46]⟩, ⟨1, [46, 46]⟩]
theorem root0 : Dd 400 74 75 B0 ptr0 L0 := by
  have hlen : ∀ k, k < 400 → (B0 k).length = 512 := fun k hk => cont_len (fun p hp => (mk_all planOk0 p hp).2.2) k
  refine ⟨by omega, B0_bits, by omega, by omega, by decide, fun p hp => ?_, fun k hk => ?_, fun k h6 hk => ?_, fun j k hj hk _ => ?_, hlen, fun p hp => ?_⟩
  · have hp2 : p < 2 := hp
    obtain rfl | rfl : p = 0 ∨ p = 1 := by omega
    · exact ⟨by decide, by decide, by decide, fun y hy => by simp [L0, noLn] at hy; rw [hy]; unfold IsB; omega⟩
    · exact ⟨by decide, by decide, by decide, fun y hy => by simp [L0, noLn] at hy; rw [hy]; unfold IsB; omega⟩
  · have hk2 : k * 16 < 2 := hk
    obtain rfl : k = 0 := by omega
    exact ⟨by decide, by decide⟩
  · have hk2 : 2 ≤ k * 16 := hk
    unfold ptr0
    rw [if_neg (by omega)]
  · have hj2 : j * 16 < 2 := hj
    have hk2 : k * 16 < 2 := hk
    omega
  · have hp2 : p < 2 := hp
    obtain rfl | rfl : p = 0 ∨ p = 1 := by omega
    · show ((B0 74).drop 0).take 32 = _
      rw [B0_last]
      kernel_rfl
    · show ((B0 74).drop 32).take 32 = _
      rw [B0_last]
      kernel_rfl
def X0 : Array Value := decI (rootL 74 0 0)
theorem X0_is : InoIs X0 ((L0.length * 32 : Nat) : Int) ptr0 := ⟨by kernel_rfl, by kernel_rfl, fun j hj => by
  obtain rfl | rfl | rfl | rfl | rfl | rfl | rfl | rfl | rfl : j = 0 ∨ j = 1 ∨ j = 2 ∨ j = 3 ∨ j = 4 ∨ j = 5 ∨ j = 6 ∨ j = 7 ∨ j = 8 := by omega
  all_goals kernel_rfl, by kernel_rfl⟩
theorem X0_node : ((B0 70).drop 128).take 128 = rootL 74 0 0 := by
  rw [B0_node]
  kernel_rfl
end Go.Proofs.YtaplmlldmhdhoaaGreatDoor

/- begun; a directory at a law's hand. -/
namespace Go.Proofs.YtaplmlldmhdhoaaGreatDoor
open Go.RowKit Go.Maps
set_option linter.unusedVariables false
theorem results_tc {fn : Func} {t u : Tmp} {ty : TypeId} (h : fn.results = #[.tmp u, .cell t ty]) (tmps : Array Value) (w : World) (g : Nat) (cs : Array Value) (t' : TypeId) (fs : _) (hp : tmps.getD t undef = .pointer (some ⟨g, 0, none⟩))
    (hg : w.heap[g]? = some (.cells cs t' (0, 0))) (hu : Tryz.prog.underlying ty = some (.struct fs)) (hi : (Tryz.prog.info? ty).map (·.size) = some cs.size) :
    (results fn tmps).run Tryz.prog w = .ok (.tuple #[tmps.getD u undef, .agg cs]) w := by
  have hl := run_loadVar_row (P := Tryz.prog) w g t' ty cs (0, 0) _ hg hu rfl hi
  have hp' : tmps[t]?.getD undef = .pointer (some ⟨g, 0, none⟩) := by simpa using hp
  simp [results, h, hp', asAddr, hl]
set_option maxRecDepth 100000 in
set_option maxHeartbeats 2000000 in
theorem begun_ok (w : World) : Calls Tryz.prog 6 #[] w fun e w' => ∃ pv S base T, e = .returned (.tuple #[ptrV pv, .agg X0]) ∧ Dw w' pv S 400 16 base T B0 0 (fun _ => none) B0 ∧ (∀ g, S g → w.heap.size ≤ g) ∧ (∀ g, T g → w.heap.size ≤ g) ∧ Below w.heap.size w w' := by
  obtain ⟨z23, hz23⟩ : ∃ z : Array Value, z = #[.int .i64 0, .int .i64 0, .int .i64 0, .int .u32 0, .int .u32 0, .int .u32 0, .int .u64 0, .int .u64 0, .int .u32 0, .int .u32 0, .int .u32 0, .int .u32 0, .int .u32 0, .int .u32 0, .int .i64 0, .int .i64 0, .int .i64 0, .int .i64 0, .int .i64 0, .int .i64 0, .int .i64 0, .int .i64 0, .int .i64 0] := ⟨_, rfl⟩
  obtain ⟨b, hb⟩ : ∃ b, w.heap.size = b := ⟨_, rfl⟩
  obtain ⟨W1, hW1⟩ : ∃ W, W = w.alloc (.cells #[.int .i64 0, .int .i64 0, .int .i64 0, .int .u32 0, .int .u32 0, .int .u32 0, .int .u64 0, .int .u64 0, .int .u32 0, .int .u32 0, .int .u32 0, .int .u32 0, .int .u32 0, .int .u32 0, .int .i64 0, .int .i64 0, .int .i64 0, .int .i64 0, .int .i64 0, .int .i64 0, .int .i64 0, .int .i64 0, .int .i64 0] 31) := ⟨_, rfl⟩
  have b1 : Below w.heap.size w W1 := by rw [hW1]; exact (Below.refl _ _).alloc (Nat.le_refl _) _
  have k1 : W1.heap[b]? = some (.cells z23 31 (0, 0)) := by rw [hW1, ← hb, hz23]; exact alloc_new w _
  have HF : Calls Tryz.prog 14 #[n64 400, n64 16] W1 fun e w' => ∃ pv S base T, e = .returned (ptrV pv) ∧ Dw w' pv S 400 16 base T B0 0 (fun _ => none) B0 ∧ (∀ g, S g → W1.heap.size ≤ g) ∧ (∀ g, T g → W1.heap.size ≤ g) ∧ Below W1.heap.size W1 w' := Fresh_all W1 400 16 planOk0 (by omega)
  replace HF := hid HF
  have HX0 : Hid (X0.size = 23 ∧ X0.all (·.oneCell') = true) := hid ⟨X0_is.sz, X0_is.one⟩
  have HZI : Hid (z23.size = 23) := hid (by rw [hz23]; rfl)
  have HZ := hid hz23
  have HB1 := hid b1
  have HK1 := hid k1
  have HBW := hid hb
  clear hz23 b1 k1
  go_enter Tryz.func6, Tryz.ntmps6
  go_wp2_with (first | (rw [← hW1]; clear hW1) | (rw [hb]; clear hb))
  refine HF.out.mono ?_
  rintro e w2 ⟨pv, S, base, T, rfl, hd, hS, hT, hb2⟩
  have HLD : Calls Tryz.prog 15 #[ptrV pv, n64 1] w2 fun e w' => e = .returned (.tuple #[.agg X0, .nilIface]) ∧ Below w2.heap.size w2 w' := by
    have := Load_ok hd 1 (by omega) (by omega) 70 70 128 planT0 rfl rfl (by omega) (by omega) (by omega)
    rw [X0_node] at this
    exact this
  replace HLD := hid HLD
  have HD := hid (And.intro hd (And.intro hS hT))
  have HB2 := hid hb2
  clear hd hS hT hb2 HF
  go_wp2_with fail
  refine HLD.out.mono ?_
  rintro e w3 ⟨rfl, hb3⟩
  obtain ⟨q, hq⟩ : ∃ q, w3.heap.size = q := ⟨_, rfl⟩
  obtain ⟨W4, hW4⟩ : ∃ W, W = w3.alloc (.cells #[.int .i64 0, .int .i64 0, .int .i64 0, .int .u32 0, .int .u32 0, .int .u32 0, .int .u64 0, .int .u64 0, .int .u32 0, .int .u32 0, .int .u32 0, .int .u32 0, .int .u32 0, .int .u32 0, .int .i64 0, .int .i64 0, .int .i64 0, .int .i64 0, .int .i64 0, .int .i64 0, .int .i64 0, .int .i64 0, .int .i64 0] 31) := ⟨_, rfl⟩
  obtain ⟨W5, hW5⟩ : ∃ W, W = W4.setRow q X0 := ⟨_, rfl⟩
  have k4 : W4.heap[q]? = some (.cells z23 31 (0, 0)) := by rw [hW4, ← hq, HZ.out]; exact alloc_new w3 _
  have b4 : Below w3.heap.size w3 W4 := by rw [hW4]; exact (Below.refl _ _).alloc (Nat.le_refl _) _
  have b5 : Below w3.heap.size w3 W5 := by rw [hW5]; exact below_setRow b4 (by omega) _
  have q5 : W5.heap[q]? = some (.cells X0 31 (0, 0)) := by rw [hW5]; exact setRow_heap _ _ _ _ _ _ k4
  have hB25 : Below w2.heap.size w2 W5 := hb3.trans (b5.mono hb3.size)
  have hB15 : Below W1.heap.size W1 W5 := HB2.out.trans (hB25.mono HB2.out.size)
  have r5 : W5.heap[b]? = some (.cells z23 31 (0, 0)) := (hB15.block b (Array.getElem?_eq_some_iff.1 HK1.out).1).trans HK1.out
  have hbq : b < W1.heap.size := (Array.getElem?_eq_some_iff.1 HK1.out).1
  have hqb : q ≠ b := by have := hb3.size; have := HB2.out.size; omega
  have HK4 := hid k4
  have HQ5 : Hid (W5.drew.heap[q]? = some (.cells X0 31 (0, 0))) := hid q5
  have HB5 : Hid (W5.drew.heap[b]? = some (.cells z23 31 (0, 0))) := hid r5
  have HQ6 : Hid ((W5.drew.setRow b X0).heap[q]? = some (.cells X0 31 (0, 0))) := hid ((setRow_other _ _ _ _ hqb).trans q5)
  have hbw := HBW.out
  have hBf : Below w.heap.size w (W5.drew.setRow b X0) := below_setRow ((HB1.out.trans (hB15.mono HB1.out.size)).drew) (by omega) _
  have hDf : Dw (W5.drew.setRow b X0) pv S 400 16 base T B0 0 (fun _ => none) B0 := ((HD.out.1.later hB25).later ((Below.refl _ _).drew)).mods (setRow_mods W5.drew b X0) (fun g hg e => by
    have e' : g = b := e
    rcases hg with h | h
    · have := HD.out.2.1 g h; omega
    · have := HD.out.2.2 g h; omega)
  have HEND : Hid (Dw (W5.drew.setRow b X0) pv S 400 16 base T B0 0 (fun _ => none) B0 ∧ (∀ g, S g → w.heap.size ≤ g) ∧ (∀ g, T g → w.heap.size ≤ g) ∧ Below w.heap.size w (W5.drew.setRow b X0)) := hid ⟨hDf, fun g hg => Nat.le_trans HB1.out.size (HD.out.2.1 g hg), fun g hg => Nat.le_trans HB1.out.size (HD.out.2.2 g hg), hBf⟩
  clear hb3 k4 b4 b5 q5 hB25 hB15 r5 hbq hqb hbw hBf hDf HLD
  go_upto_region 7 with (first | (rw [← hW4]; clear hW4) | (rw [hq]; clear hq) | (refine wpList_store_row rfl 31 _ _ rfl q X0 rfl rfl 31 _ HK4.out (by rw [HX0.out.1]; exact sizeIno) (by rw [HX0.out.1]; exact HZI.out) HX0.out.2 ?_; rw [← hW5]; clear hW5))
  refine wp_region_held_drew (S := fun w' => w'.heap[q]? = some (.cells X0 31 (0, 0))) (by kernel_rfl) HQ5.out (fun hS => ?_)
  refine nany_take 0 17 (ptrV pv) rfl rfl (by kernel_rfl) (by kernel_rfl) (by kernel_rfl) (fun _ _ _ h => h) (Or.inl ⟨by rfl, ?_⟩) hS ?_
  · rintro w' hS'
    go_simp
  simp only [List.setIfInBounds_toArray, List.set_cons_zero, List.set_cons_succ]
  refine nany_take 1 18 (.agg X0) rfl rfl (by kernel_rfl) (by kernel_rfl) (by kernel_rfl) (fun _ _ _ h => h) (Or.inl ⟨by rfl, ?_⟩) hS ?_
  · rintro w' hS'
    exact ex_load 31 (.tmp 3) rfl q rfl 31 X0 (0, 0) _ hS' Tryz.underlying31 (by rw [HX0.out.1]; exact sizeIno)
  simp only [List.setIfInBounds_toArray, List.set_cons_zero, List.set_cons_succ]
  refine nany_take 2 0 (ptrV pv) rfl rfl (by kernel_rfl) (by kernel_rfl) (by kernel_rfl) (fun _ _ _ h => h) (Or.inl ⟨by rfl, ?_⟩) hS ?_
  · rintro w' hS'
    go_simp
  simp only [List.setIfInBounds_toArray, List.set_cons_zero]
  refine nany_one 3 (by kernel_rfl) ?_
  refine nop_skip (w' := W5.drew.setRow b X0) rfl (by rfl) rfl (ex_store 31 (.tmp 1) (.tmp 18) rfl b X0 rfl rfl 31 z23 HB5.out (by rw [HX0.out.1]; exact sizeIno) (by rw [HX0.out.1]; exact HZI.out) HX0.out.2) ?_
  refine ⟨HQ6.out, ?_⟩
  refine wpAnyH_done (by kernel_rfl) ?_ _
  go_wp2
  refine bodyPost_ret (results_tc rfl _ _ b X0 _ _ rfl (setRow_heap _ _ _ _ _ _ HB5.out) Tryz.underlying31 (by rw [HX0.out.1]; exact sizeIno)) rfl ⟨pv, S, base, T, rfl, HEND.out⟩
/-- A directory of a view of a law's own: behind k calls. -/
def Ds (w0 W : World) (pv : Nat) (S T : Nat → Prop) (k : Nat) (L : List Ln) (X : Array Value) : Prop :=
  ∃ base bc n P c hi ptr, Dw W pv S 400 16 base T bc n P c ∧ Dd 400 74 hi c ptr L ∧ InoIs X ((L.length * 32 : Nat) : Int) ptr ∧ n ≤ 1000 * k ∧ hi ≤ 75 + k ∧ (∀ g, S g → w0.heap.size ≤ g) ∧ (∀ g, T g → w0.heap.size ≤ g) ∧ Below w0.heap.size w0 W
section
variable {w0 W W' : World} {pv k : Nat} {S T : Nat → Prop} {L : List Ln} {X : Array Value} {pe : Addr}
theorem Ds.lt (h : Ds w0 W pv S T k L X) {g : Nat} (hg : S g ∨ T g) : g < W.heap.size := by
  obtain ⟨base, bc, n, P, c, hi, ptr, hD, _⟩ := h
  rcases hg with h | h
  · exact hD.s g h
  · exact hD.t.lt h
theorem Ds.lo (h : Ds w0 W pv S T k L X) {g : Nat} (hg : S g ∨ T g) : w0.heap.size ≤ g := by
  obtain ⟨base, bc, n, P, c, hi, ptr, hD, _, _, _, _, hS, hT, _⟩ := h
  rcases hg with h | h
  · exact hS g h
  · exact hT g h
theorem Ds.below (h : Ds w0 W pv S T k L X) : Below w0.heap.size w0 W := let ⟨_, _, _, _, _, _, _, _, _, _, _, _, _, _, h⟩ := h; h
theorem Ds.ino (h : Ds w0 W pv S T k L X) : X.size = 23 ∧ X.all (·.oneCell') = true ∧ X[6]? = some (.int .u64 ((L.length * 32 : Nat) : Int)) := let ⟨_, _, _, _, _, _, _, _, _, h, _⟩ := h; ⟨h.sz, h.one, h.len⟩
theorem Ds.mods {M : Nat → Prop} (h : Ds w0 W pv S T k L X) (hM : Mods M W W') (hm : ∀ g, M g → w0.heap.size ≤ g ∧ ¬ S g ∧ ¬ T g) : Ds w0 W' pv S T k L X := by
  obtain ⟨base, bc, n, P, c, hi, ptr, hD, hd, hX, hn, hh, hS, hT, hB⟩ := h
  exact ⟨base, bc, n, P, c, hi, ptr, hD.mods hM (fun g hg e => by rcases hg with h | h; exact (hm g e).2.1 h; exact (hm g e).2.2 h), hd, hX, hn, hh, hS, hT, hM.to_below hB hB.size (fun g hg => (hm g hg).1)⟩
theorem Ds.later (h : Ds w0 W pv S T k L X) (hb : Below W.heap.size W W') : Ds w0 W' pv S T k L X := h.mods (M := fun _ => False) (Mods.of_below hb) (fun g hg => hg.elim)
theorem Ds.begin {w0 W : World} {pv : Nat} {S T : Nat → Prop} {base : Value} (hD : Dw W pv S 400 16 base T B0 0 (fun _ => none) B0) (hS : ∀ g, S g → w0.heap.size ≤ g) (hT : ∀ g, T g → w0.heap.size ≤ g) (hB : Below w0.heap.size w0 W) : Ds w0 W pv S T 0 L0 X0 :=
  ⟨base, _, _, _, _, 75, ptr0, hD, root0, X0_is, by omega, by omega, hS, hT, hB⟩
theorem Ds.off (h : Ds w0 W pv S T k L X) (hE : En0 w0 pe) : ¬ S 0 ∧ ¬ T 0 := ⟨fun e => by have := h.lo (.inl e); have := hE.lt; omega, fun e => by have := h.lo (.inr e); have := hE.lt; omega⟩
theorem Ds.add (h : Ds w0 W pv S T k L X) (hG : Gl w0) (hE : En0 w0 pe) (hk : k ≤ 300) (hm : L.length < 96) (x : Ln) (hx : LnOk x) (h1 : 1 ≤ x.i) (hp : 0 < x.nm.length) (hnm : ∀ y ∈ x.nm, y ≠ 47 ∧ y ≠ 0) (hno : ∀ y ∈ L, ¬ Has x.nm y) :
    Calls Tryz.prog 9 #[ptrV pv, .agg X, .string (strOfNums x.nm), n64 x.i] W fun e W' => ∃ X' S', e = .returned (.tuple #[.agg X', n64 (roomF L.length L), .nilIface]) ∧ Ds w0 W' pv S' T (k + 1) (addL L x) X' ∧ Kp S W S' W' := by
  have hoff := h.off hE
  obtain ⟨base, bc, n, P, c, hi, ptr, hD, hd, hX, hn, hh, hS, hT, hB⟩ := h
  refine (Add_new hD hd planD0 hX (hG.later hB) (hE.later hB) hoff (by omega) hm (by omega) x hx h1 hp hnm hno).mono ?_
  rintro e W' ⟨X', c', hi', ptr', S', n', P', rfl, hto, hd', _, hh', _, _, hD', hn', hK⟩
  obtain ⟨hB', hS'⟩ := hK.below0 hB hS
  exact ⟨X', S', rfl, ⟨base, bc, n', P', c', hi', ptr', hD', hd', hto.is_, by omega, by omega, hS', hT, hB'⟩, hK⟩
theorem Ds.take (h : Ds w0 W pv S T k L X) (hG : Gl w0) (hk : k ≤ 300) (p : Nat) (hp2 : 2 ≤ p) (hp : p < L.length) (hi0 : (L.getD p noLn).i ≠ 0) :
    Calls Tryz.prog 8 #[ptrV pv, .agg X, n64 p] W fun e W' => ∃ S', e = .returned .nilIface ∧ Ds w0 W' pv S' T (k + 1) (L.set p noLn) X ∧ Kp S W S' W' := by
  obtain ⟨base, bc, n, P, c, hi, ptr, hD, hd, hX, hn, hh, hS, hT, hB⟩ := h
  refine (Take_ok hD hd planD0 hX (hG.later hB) (by omega) p hp2 hp hi0).mono ?_
  rintro e W' ⟨c', S', n', P', rfl, hd', _, hD', hn', hK⟩
  obtain ⟨hB', hS'⟩ := hK.below0 hB hS
  exact ⟨S', rfl, ⟨base, bc, n', P', c', hi, ptr, hD', hd', by rw [List.length_set]; exact hX, by omega, by omega, hS', hT, hB'⟩, hK⟩
end
end Go.Proofs.YtaplmlldmhdhoaaGreatDoor
