/- Records: take. -/
import Derived.Test.YtbfdkbdjipiliaaDoorYpC
namespace Go.Proofs.YtbfdkbdjipiliaaDoor
open Go.RowKit Go.Maps
set_option linter.unusedVariables false

theorem Bytes.kpR {W W' : World} {S S' : Nat → Prop} {g o : Nat} {l : List Int} (h : Bytes W (some ⟨g, o, none⟩) l) (hg : g < W.heap.size) (hn : ¬ S g) (hk : Kp S W S' W') : Bytes W' (some ⟨g, o, none⟩) l := by
  intro i hi
  obtain ⟨b, off, e, h1, h2⟩ := h i hi
  obtain ⟨rfl, rfl, _⟩ : g = b ∧ o = off ∧ True := by simpa using e
  exact ⟨g, o, rfl, (World.cell?_of_block (hk.block hg hn)).trans h1, h2⟩
theorem sizeRec : (Tryd.prog.info? 60).map (·.size) = some 5 := by kernel_rfl
theorem sizePie : (Tryd.prog.info? 58).map (·.size) = some 3 := by kernel_rfl
theorem rmS_b (s : Pc) (k : Nat) (l : List Int) : (rmS s k l).b = s.b := by unfold rmS; split <;> rfl
theorem mkS_b (s : Pc) (l : List Int) : (mkS s l).b = s.b := by unfold mkS; split; rfl; exact rmS_b _ _ _
theorem mkS_lf (s : Pc) (l : List Int) (h : s.lf < 2147483648) : (mkS s l).lf < 2147483648 := by
  unfold mkS rmS
  split
  · exact h
  · split
    · show (_ % 2147483648 : Int).toNat < 2147483648
      omega
    · exact h
/-- What take gives and leaves. -/
def TakeP (w : World) (p : Nat) (S : Nat → Prop) (s : Pc) (b n : Nat) (l : List Int) (e : Ending) (w' : World) : Prop :=
  ∃ a' m c', e = .returned (.slice a' m c') ∧ m = n - (tkS s l).2 ∧ m ≤ c' ∧ c' ≤ maxLen ∧ Bytes w' a' (l.drop (tkS s l).2) ∧ (0 < m → ∃ off', a' = some ⟨b, off', none⟩) ∧ ∃ S', RcAt w' p S' (tkS s l).1 ∧ Kp S w S' w'
theorem tkS_big {s : Pc} {l : List Int} (h : 16384 < (mkS s l).lf + s.b.length) : tkS s l = (PcD, l.length) := by unfold tkS; rw [if_pos h]
theorem tkS_on {s : Pc} {l : List Int} (h : ¬ 16384 < (mkS s l).lf + s.b.length) {k n1 k2 : Nat} {l1 : List Int} (hk : rmK s l = k) (h1 : l.drop k = l1) (hn1 : l1.length = n1) (hkl : k ≤ l.length) (h2 : min (mkS s l).lf n1 = k2) : tkS s l = ({ mkS s l with b := s.b ++ l1.take k2, lf := (mkS s l).lf - k2 }, k + k2) := by
  have e : l.length - k = n1 := by rw [← hn1, ← h1, List.length_drop]
  unfold tkS
  rw [if_neg h, hk, e, h2, h1]
set_option maxRecDepth 100000 in
set_option maxHeartbeats 8000000 in
theorem take_any (w : World) (p : Nat) (S : Nat → Prop) (s : Pc) (vm vr : Value) (h : RcX w p S s vm vr) (h4 : s.mr.length ≤ 4) (hlf : s.lf < 2147483648) (hbl : s.b.length ≤ 16384) (b off n c : Nat) (l : List Int) (hn : l.length = n) (hn0 : 0 < n) (hnm : n ≤ 800000) (hc : n ≤ c) (hcm : c ≤ maxLen) (hb : Bytes w (some ⟨b, off, none⟩) l) (hbs : b < w.heap.size) (hbn : ¬ S b) :
    Calls Tryd.prog 15 #[.pointer (some ⟨p, 0, none⟩), .slice (some ⟨b, off, none⟩) n c] w (TakeP w p S s b n l) := by
  obtain ⟨s1, hs1⟩ : ∃ r, mkS s l = r := ⟨_, rfl⟩
  have hb1e : s1.b = s.b := by rw [← hs1]; exact mkS_b s l
  have hlf1 : s1.lf < 2147483648 := by rw [← hs1]; exact mkS_lf s l hlf
  obtain ⟨L, hL⟩ : ∃ r, s1.lf = r := ⟨_, rfl⟩
  obtain ⟨B, hB⟩ : ∃ r, s1.b.length = r := ⟨_, rfl⟩
  have hsB : s.b.length = B := by rw [← hB, hb1e]
  rw [hL] at hlf1
  rw [hsB] at hbl
  obtain ⟨k, hk⟩ : ∃ k, rmK s l = k := ⟨_, rfl⟩
  have hkn : k ≤ n := by rw [← hk]; unfold rmK; split <;> omega
  obtain ⟨l1, hl1⟩ : ∃ r, l.drop k = r := ⟨_, rfl⟩
  obtain ⟨n1, hn1⟩ : ∃ r, n - k = r := ⟨_, rfl⟩
  obtain ⟨c1, hc1⟩ : ∃ r, c - k = r := ⟨_, rfl⟩
  obtain ⟨off1, hoff1⟩ : ∃ r, cutO off c k = r := ⟨_, rfl⟩
  have hbr := hb.rest hn hc hkn
  rw [hoff1, hl1] at hbr
  have hll : l1.length = n1 := by rw [← hl1, List.length_drop]; omega
  have hc1n : n1 ≤ c1 := by omega
  have hc1m : c1 ≤ maxLen := by omega
  obtain ⟨k2, hk2⟩ : ∃ r, min L n1 = r := ⟨_, rfl⟩
  have hmin : min (L : Int) (n1 : Int) = (k2 : Int) := by omega
  have hk2n : k2 ≤ n1 := by omega
  have hk2c : k2 ≤ c1 := by omega
  have HMM := hid (marked_any h)
  have HNK := hid (show n1 + k = n by omega)
  by_cases hm4 : s.mr.length = 4
  · have hdec : decide (s.mr.length = 4) = true := by simpa using hm4
    rw [hdec] at HMM
    have hk0 : k = 0 := by rw [← hk]; unfold rmK; rw [if_pos hm4]
    have hse : s1 = s := by rw [← hs1]; unfold mkS; rw [if_pos hm4]
    have hoe : off1 = off := by rw [← hoff1, hk0]; unfold cutO; split <;> omega
    have hne : n1 = n := by omega
    have hce : c1 = c := by omega
    have hx1 : RcX w p S s1 vm vr := by rw [hse]; exact h
    obtain ⟨vm1, hvm1⟩ : ∃ v, v = vm := ⟨_, rfl⟩
    rw [← hvm1] at hx1
    obtain ⟨ar, cr, hvr⟩ : ∃ ar cr, vr = .slice ar B cr := by have := hx1.rr; rw [hB] at this; exact this.shape
    subst hvr
    have hK1 : Kp S w S w := Kp.refl _ _
    obtain ⟨w1, hw1⟩ : ∃ W, W = w := ⟨_, rfl⟩
    obtain ⟨S1, hS1⟩ : ∃ X, X = S := ⟨_, rfl⟩
    have hbl1 := hbs
    have hbn1 := hbn
    have HSUBST := hid (And.intro hoe (And.intro hne hce))
    clear hvm1 hw1 hS1
    subst hoe hne hce
    have HK1 : Hid (Kp S w S w) := hid hK1
    have HX1 := hid hx1
    have HBR := hid hbr
    have HS1 := hid hs1
    have HBN1 := hid hbn1
    have HHL := hid hl1
    have HHN := hid hn
    have HKE := hid hk
    have HLL := hid hll
    clear hb hbs hbn h hx1 hbr hse hs1 hbn1 hl1 hn hk hk0 hdec hm4 h4 hlf hK1 hoff1 hc1 hn1 hll hc1n
    go_enter Tryd.func15, Tryd.ntmps15
    go_upto_region 3 with (go_at_call 16; refine HMM.out.mono ?_; rintro e w9 ⟨rfl, h9⟩; rw [h9]; clear h9 w9)
    have hx1 := HX1.out
    have g1 : ∀ q, (w.drewN q).cell? ⟨p, 1, none⟩ = some (.int .i64 L) := fun q => (cell_of (i := 1) (hx1.later (below_drewN (Below.refl _ _) q)).box rfl).trans (by show some (Value.int .i64 ((s1.lf : Nat) : Int)) = _; rw [hL])
    have g3 : ∀ q, (w.drewN q).cell? ⟨p, 3, none⟩ = some (.slice ar B cr) := fun q => cell_of (hx1.later (below_drewN (Below.refl _ _) q)).box rfl
    have g1' : w.cell? ⟨p, 1, none⟩ = some (.int .i64 L) := g1 0
    have g3' : w.cell? ⟨p, 3, none⟩ = some (.slice ar B cr) := g3 0
    clear hx1
    by_cases hbig : 16384 < L + B
    · have hbi : (16384 : Int) - (B : Int) < (L : Int) := by omega
      have hbd : decide ((16384 : Int) - (B : Int) < (L : Int)) = true := by simpa using hbi
      have hTK := tkS_big (s := s) (l := l) (by rw [HS1.out, hL, hsB]; exact hbig)
      have HTK := hid hTK
      clear hTK
      go_quiet (fail)
      go_upto_region 5 with (refine wpList_store_row rfl 60 _ _ rfl p #[.slice none 0 0, .int .i64 0, .bool false, .slice none 0 0, .bool true] rfl rfl 60 _ (show (w.drewN nq).heap[p]? = _ from HX1.out.box) sizeRec rfl (by simp [Value.oneCell']) ?_)
      go_wp2
      go_ret
      have hB1 := below_drewN (Below.refl w.heap.size w) nq
      have hmm := setRow_mods (w.drewN nq) p #[.slice none 0 0, .int .i64 0, .bool false, .slice none 0 0, .bool true]
      have hxx := (HX1.out.later hB1).fresh hmm (s' := PcD) (setRow_heap _ _ _ _ _ _ (HX1.out.later hB1).box) rfl rfl
      refine ⟨none, 0, 0, rfl, ?_, Nat.le_refl _, Nat.zero_le _, ?_, fun h0 => by omega, S, ?_, ?_⟩
      · rw [HTK.out]; show 0 = _ - l.length; rw [HHN.out]; omega
      · rw [HTK.out]; show Bytes _ none (l.drop l.length); rw [List.drop_length]; exact Bytes.nil_ _ _
      · rw [HTK.out]; exact ⟨_, _, hxx⟩
      · exact HK1.out.trans ((Kp.below hB1).trans (⟨fun _ h => .inl h, hmm.weak (fun x hx => .inl (by rw [hx]; exact HX1.out.sp))⟩ : Kp S (w.drewN nq) S _))
    · have hbi : ¬ (16384 : Int) - (B : Int) < (L : Int) := by omega
      have hbd : decide ((16384 : Int) - (B : Int) < (L : Int)) = false := by simpa using hbi
      have hTK := tkS_on (s := s) (l := l) (k2 := k2) (by rw [HS1.out, hL, hsB]; exact hbig) HKE.out HHL.out HLL.out (by rw [HHN.out]; exact hkn) (by rw [HS1.out, hL]; exact hk2)
      rw [HS1.out, hL] at hTK
      have HTK := hid hTK
      clear hTK
      go_quiet (fail)
      obtain ⟨W, hW⟩ : ∃ W, W = w.drewN nq := ⟨_, rfl⟩
      have hBW := below_drewN (Below.refl w.heap.size w) nq
      have hxW := HX1.out.later hBW
      have hbW := HBR.out.later hBW
      have gW1 := g1 nq
      have gW3 := g3 nq
      rw [← hW] at hBW hxW hbW gW1 gW3
      rw [← hW]
      have HBW := hid hBW
      have hd := hxW.later (Below.drew (Below.refl W.heap.size W))
      obtain ⟨a2, c2, w2, hap, hp2, S2, hR2, hK2⟩ := hd.body (l1.take k2) (some ⟨b, off1, none⟩) k2 c1 (by rw [List.length_take, HLL.out]; omega) ((hbW.later ((Below.refl _ _).drew)).take k2) (by rw [hB]; omega)
      rw [hB] at hap hR2 hK2
      obtain ⟨mk, hmk⟩ : ∃ r, B + k2 = r := ⟨_, rfl⟩
      rw [hmk] at hap hR2 hK2
      obtain ⟨W3, hW3⟩ : ∃ W, W = w2.setCell ⟨p, 3, none⟩ (.slice a2 mk c2) := ⟨_, rfl⟩
      rw [← hW3] at hR2 hK2
      have d2 := froz_of hp2 3
      have e2 := cell_of hp2 (i := 3) (v := .slice ar B cr) rfl
      have HR2 := hid hR2
      have HKX := hid hK2
      have HK2 := hid ((HK1.out.trans (Kp.below HBW.out)).trans ((Kp.below (S := S) ((Below.refl W.heap.size W).drew)).trans hK2))
      have hcc := cutO_is b off1 c1 k2
      obtain ⟨L2, hL2n⟩ : ∃ r, L - k2 = r := ⟨_, rfl⟩
      have hL2 : (L : Int) - (k2 : Int) = (L2 : Int) := by omega
      rw [hL2n] at HTK
      have HL2 := hid hL2n
      have HMK := hid hmk
      clear hW hBW hxW hbW hp2 hR2 hK2 hd g1 g3 g1' g3' hmk hL2n
      go_wp2_with fail
      go_region_law (refine step_append_runY rfl _ _ 27 rfl rfl rfl hap ?_)
      all_goals
        rw [← hW3]
        clear hW3 hap gW1 gW3 d2 e2
        have hR2 := HR2.out
        have f1 : W3.cell? ⟨p, 1, none⟩ = some (.int .i64 L) := (cell_of (i := 1) hR2.box rfl).trans (by show some (Value.int .i64 ((s1.lf : Nat) : Int)) = _; rw [hL])
        have z1 := froz_of hR2.box 1
        obtain ⟨W4, hW4⟩ : ∃ W, W = W3.setCell ⟨p, 1, none⟩ (.int .i64 L2) := ⟨_, rfl⟩
        have h4 := setc hR2.box 1 (.int .i64 L2)
        rw [← hW4] at h4
        have m4 : Mods (fun x => x = p) W3 W4 := by rw [hW4]; exact (Mods.refl (fun x => x = p) W3).setCell p 1 _ rfl
        have HT4 := hid (hR2.turn (s' := { s1 with b := s1.b ++ l1.take k2, lf := L2 }) m4 h4 rfl rfl)
        have HK4 := hid (HK2.out.trans (⟨fun _ h => .inl h, m4.weak (fun x hx => .inl (by rw [hx]; exact hR2.sp))⟩ : Kp S2 W3 S2 W4))
        have HW4 := hW4.symm
        have HB4 := hid (Bytes.kpR (HBR.out.rest HLL.out (show n1 ≤ c1 by omega) hk2n) hbl1 HBN1.out ((Kp.below (S := S) HBW.out).trans ((Kp.below (S := S) ((Below.refl W.heap.size W).drew)).trans (HKX.out.trans (⟨fun _ h => .inl h, m4.weak (fun x hx => .inl (by rw [hx]; exact hR2.sp))⟩ : Kp S2 W3 S2 W4)))))
        clear hR2 h4 m4 hW4 HR2 HK2
        go_wp2
        go_ret
        refine ⟨some ⟨b, cutO off1 c1 k2, none⟩, n1 - k2, c1 - k2, rfl, ?_, by omega, by omega, ?_, fun _ => ⟨_, rfl⟩, S2, ?_, ?_⟩
        · rw [HTK.out]; show _ = _ - (k + k2); have := HNK.out; omega
        · rw [HTK.out]; show Bytes _ _ (l.drop (k + k2)); rw [← List.drop_drop, HHL.out]; exact HB4.out
        · rw [HTK.out]; show RcAt _ _ _ ⟨_, _, _, s.b ++ _, _⟩; rw [← hb1e]; exact ⟨_, _, HT4.out⟩
        · exact HK4.out
  · have hdec : decide (s.mr.length = 4) = false := by simpa using hm4
    rw [hdec] at HMM
    have HRM := hid (readMark_any w p S s vm vr h (by omega) b off n c l hn hn0 (by omega) hc hcm hb)
    rw [hk, show rmS s k l = s1 from by rw [← hs1, ← hk]; unfold mkS; rw [if_neg hm4]] at HRM
    have HS1 := hid hs1
    have HHL := hid hl1
    have HHN := hid hn
    have HKE := hid hk
    have HLL := hid hll
    have HH0 := hid (And.intro hb (And.intro hbs hbn))
    have HBR0 := hid hbr
    clear hb hbs hbn h hbr hs1 hl1 hn hk hdec hm4 h4 hlf hll
    go_enter Tryd.func15, Tryd.ntmps15
    go_upto_region 3 with (first
      | (go_at_call 16; refine HMM.out.mono ?_; rintro e w9 ⟨rfl, h9⟩; rw [h9]; clear h9 w9)
      | (go_at_call 33; refine HRM.out.mono ?_; rintro e w1 ⟨he, S1, hat1, hK1⟩; rw [hn1, hc1, hoff1] at he; subst he; clear hn1 hc1 hoff1; have HAT1 := hid hat1; have HK1 := hid hK1; clear hat1 hK1 HRM))
    obtain ⟨vm1, vr1, hx1⟩ := HAT1.out
    obtain ⟨ar, cr, hvr⟩ : ∃ ar cr, vr1 = .slice ar B cr := by have := hx1.rr; rw [hB] at this; exact this.shape
    subst hvr
    have HX1 := hid hx1
    have HBR := hid (Bytes.kpR HBR0.out HH0.out.2.1 HH0.out.2.2 HK1.out)
    have HBN1 := hid (HK1.out.off HH0.out.2.1 HH0.out.2.2)
    have hbl1 := Nat.lt_of_lt_of_le HH0.out.2.1 HK1.out.2.size
    clear hx1 HH0 HBR0 HAT1
    have hx1 := HX1.out
    have g1 : ∀ q, (w1.drewN q).cell? ⟨p, 1, none⟩ = some (.int .i64 L) := fun q => (cell_of (i := 1) (hx1.later (below_drewN (Below.refl _ _) q)).box rfl).trans (by show some (Value.int .i64 ((s1.lf : Nat) : Int)) = _; rw [hL])
    have g3 : ∀ q, (w1.drewN q).cell? ⟨p, 3, none⟩ = some (.slice ar B cr) := fun q => cell_of (hx1.later (below_drewN (Below.refl _ _) q)).box rfl
    have g1' : w1.cell? ⟨p, 1, none⟩ = some (.int .i64 L) := g1 0
    have g3' : w1.cell? ⟨p, 3, none⟩ = some (.slice ar B cr) := g3 0
    clear hx1
    by_cases hbig : 16384 < L + B
    · have hbi : (16384 : Int) - (B : Int) < (L : Int) := by omega
      have hbd : decide ((16384 : Int) - (B : Int) < (L : Int)) = true := by simpa using hbi
      have hTK := tkS_big (s := s) (l := l) (by rw [HS1.out, hL, hsB]; exact hbig)
      have HTK := hid hTK
      clear hTK
      go_quiet (fail)
      go_upto_region 5 with (refine wpList_store_row rfl 60 _ _ rfl p #[.slice none 0 0, .int .i64 0, .bool false, .slice none 0 0, .bool true] rfl rfl 60 _ (show (w1.drewN nq).heap[p]? = _ from HX1.out.box) sizeRec rfl (by simp [Value.oneCell']) ?_)
      go_wp2
      go_ret
      have hB1 := below_drewN (Below.refl w1.heap.size w1) nq
      have hmm := setRow_mods (w1.drewN nq) p #[.slice none 0 0, .int .i64 0, .bool false, .slice none 0 0, .bool true]
      have hxx := (HX1.out.later hB1).fresh hmm (s' := PcD) (setRow_heap _ _ _ _ _ _ (HX1.out.later hB1).box) rfl rfl
      refine ⟨none, 0, 0, rfl, ?_, Nat.le_refl _, Nat.zero_le _, ?_, fun h0 => by omega, S1, ?_, ?_⟩
      · rw [HTK.out]; show 0 = _ - l.length; rw [HHN.out]; omega
      · rw [HTK.out]; show Bytes _ none (l.drop l.length); rw [List.drop_length]; exact Bytes.nil_ _ _
      · rw [HTK.out]; exact ⟨_, _, hxx⟩
      · exact HK1.out.trans ((Kp.below hB1).trans (⟨fun _ h => .inl h, hmm.weak (fun x hx => .inl (by rw [hx]; exact HX1.out.sp))⟩ : Kp S1 (w1.drewN nq) S1 _))
    · have hbi : ¬ (16384 : Int) - (B : Int) < (L : Int) := by omega
      have hbd : decide ((16384 : Int) - (B : Int) < (L : Int)) = false := by simpa using hbi
      have hTK := tkS_on (s := s) (l := l) (k2 := k2) (by rw [HS1.out, hL, hsB]; exact hbig) HKE.out HHL.out HLL.out (by rw [HHN.out]; exact hkn) (by rw [HS1.out, hL]; exact hk2)
      rw [HS1.out, hL] at hTK
      have HTK := hid hTK
      clear hTK
      go_quiet (fail)
      obtain ⟨W, hW⟩ : ∃ W, W = w1.drewN nq := ⟨_, rfl⟩
      have hBW := below_drewN (Below.refl w1.heap.size w1) nq
      have hxW := HX1.out.later hBW
      have hbW := HBR.out.later hBW
      have gW1 := g1 nq
      have gW3 := g3 nq
      rw [← hW] at hBW hxW hbW gW1 gW3
      rw [← hW]
      have HBW := hid hBW
      have hd := hxW.later (Below.drew (Below.refl W.heap.size W))
      obtain ⟨a2, c2, w2, hap, hp2, S2, hR2, hK2⟩ := hd.body (l1.take k2) (some ⟨b, off1, none⟩) k2 c1 (by rw [List.length_take, HLL.out]; omega) ((hbW.later ((Below.refl _ _).drew)).take k2) (by rw [hB]; omega)
      rw [hB] at hap hR2 hK2
      obtain ⟨mk, hmk⟩ : ∃ r, B + k2 = r := ⟨_, rfl⟩
      rw [hmk] at hap hR2 hK2
      obtain ⟨W3, hW3⟩ : ∃ W, W = w2.setCell ⟨p, 3, none⟩ (.slice a2 mk c2) := ⟨_, rfl⟩
      rw [← hW3] at hR2 hK2
      have d2 := froz_of hp2 3
      have e2 := cell_of hp2 (i := 3) (v := .slice ar B cr) rfl
      have HR2 := hid hR2
      have HKX := hid hK2
      have HK2 := hid ((HK1.out.trans (Kp.below HBW.out)).trans ((Kp.below (S := S1) ((Below.refl W.heap.size W).drew)).trans hK2))
      have hcc := cutO_is b off1 c1 k2
      obtain ⟨L2, hL2n⟩ : ∃ r, L - k2 = r := ⟨_, rfl⟩
      have hL2 : (L : Int) - (k2 : Int) = (L2 : Int) := by omega
      rw [hL2n] at HTK
      have HL2 := hid hL2n
      have HMK := hid hmk
      clear hW hBW hxW hbW hp2 hR2 hK2 hd g1 g3 g1' g3' hmk hL2n
      go_wp2_with fail
      go_region_law (refine step_append_runY rfl _ _ 27 rfl rfl rfl hap ?_)
      all_goals
        rw [← hW3]
        clear hW3 hap gW1 gW3 d2 e2
        have hR2 := HR2.out
        have f1 : W3.cell? ⟨p, 1, none⟩ = some (.int .i64 L) := (cell_of (i := 1) hR2.box rfl).trans (by show some (Value.int .i64 ((s1.lf : Nat) : Int)) = _; rw [hL])
        have z1 := froz_of hR2.box 1
        obtain ⟨W4, hW4⟩ : ∃ W, W = W3.setCell ⟨p, 1, none⟩ (.int .i64 L2) := ⟨_, rfl⟩
        have h4 := setc hR2.box 1 (.int .i64 L2)
        rw [← hW4] at h4
        have m4 : Mods (fun x => x = p) W3 W4 := by rw [hW4]; exact (Mods.refl (fun x => x = p) W3).setCell p 1 _ rfl
        have HT4 := hid (hR2.turn (s' := { s1 with b := s1.b ++ l1.take k2, lf := L2 }) m4 h4 rfl rfl)
        have HK4 := hid (HK2.out.trans (⟨fun _ h => .inl h, m4.weak (fun x hx => .inl (by rw [hx]; exact hR2.sp))⟩ : Kp S2 W3 S2 W4))
        have HW4 := hW4.symm
        have HB4 := hid (Bytes.kpR (HBR.out.rest HLL.out (show n1 ≤ c1 by omega) hk2n) hbl1 HBN1.out ((Kp.below (S := S1) HBW.out).trans ((Kp.below (S := S1) ((Below.refl W.heap.size W).drew)).trans (HKX.out.trans (⟨fun _ h => .inl h, m4.weak (fun x hx => .inl (by rw [hx]; exact hR2.sp))⟩ : Kp S2 W3 S2 W4)))))
        clear hR2 h4 m4 hW4 HR2 HK2
        go_wp2
        go_ret
        refine ⟨some ⟨b, cutO off1 c1 k2, none⟩, n1 - k2, c1 - k2, rfl, ?_, by omega, by omega, ?_, fun _ => ⟨_, rfl⟩, S2, ?_, ?_⟩
        · rw [HTK.out]; show _ = _ - (k + k2); have := HNK.out; omega
        · rw [HTK.out]; show Bytes _ _ (l.drop (k + k2)); rw [← List.drop_drop, HHL.out]; exact HB4.out
        · rw [HTK.out]; show RcAt _ _ _ ⟨_, _, _, s.b ++ _, _⟩; rw [← hb1e]; exact ⟨_, _, HT4.out⟩
        · exact HK4.out
end Go.Proofs.YtbfdkbdjipiliaaDoor
