/- The calls of such a connection; how the law opens one. -/
import Derived.Test.YtmmijbiapflneaaThB
namespace Go.Proofs.Ytmmijbiapflneaa
open Go.RowKit Go.Maps
set_option linter.unusedVariables false
/-- It awaits R, sends N next, l came; the other's window is W. -/
def sC (R N : Int) (l : List Int) (W : Int) (ok : Bool) : Cn := ⟨R, l, fun _ => none, 0, true, false, 0, N, N, [], W, 1000, 0, 0, false, false, 2049, 7, 2, false, ok, false⟩
theorem s32_self (a : Int) : s32 a a = 0 := by unfold s32; omega
theorem a32_0 {a : Int} (h : IsU a) : a32 a 0 = a := by unfold a32 IsU at *; omega
theorem has16 : hasB 16 1 = false := by kernel_rfl
theorem noteS_ord (c : Cn) (q : Int) (d : List Int) (hq : q = c.R) (hen : c.en = false) (hec : c.ec = 0) (hl : c.came.length ≤ 16384) : noteS c q d = { c with came := c.came ++ d.take (16384 - c.came.length), R := a32 c.R (d.take (16384 - c.came.length)).length } := by
  subst hq
  have hr : roomC c = 16384 - c.came.length := by unfold roomC ownW; rw [hen]; rfl
  have e1 : ntAt c c.R = 0 := by unfold ntAt; rw [s32_self]; split <;> rfl
  have e2 : ntDat c c.R d = d.take (16384 - c.came.length) := by
    unfold ntDat
    rw [e1, hr, s32_self]
    have h3 : ((16384 : Int) - c.came.length - 0).toNat = 16384 - c.came.length := by omega
    rw [h3]
    split
    · simp
    · rfl
  unfold noteS noteQ
  rw [e1, e2, if_pos ⟨rfl, hec⟩]
theorem noteS_far (c : Cn) (q : Int) (d : List Int) (hR : IsU c.R) (hen : c.en = false) (hec : c.ec = 0) (hl : c.came.length ≤ 16384) (h1 : 16384 - c.came.length ≤ s32 q c.R) (h2 : (d.length : Int) ≤ s32 c.R q ∨ c.came.length = 16384) : noteS c q d = { c with came := c.came ++ [], R := a32 c.R (0 : Nat) } := by
  have hr : roomC c = 16384 - c.came.length := by unfold roomC ownW; rw [hen]; rfl
  have e1 : ntAt c q = 0 := by unfold ntAt; rw [if_pos (by rw [hr]; exact h1)]
  have e2 : ntDat c q d = [] := by
    unfold ntDat
    rw [if_pos (by rw [hr]; exact h1)]
    rcases h2 with h2 | h2
    · rw [Nat.min_eq_right (by omega)]
      simp
    · rw [e1, hr, show ((16384 : Int) - c.came.length - 0).toNat = 0 by omega]
      rfl
  unfold noteS noteQ
  rw [e1, e2, if_pos ⟨rfl, hec⟩]
  rfl
theorem hear_same (c : Cn) (a w : Int) (h : c.U = a) : hearS c a w = { c with W := w } := by
  subst h
  unfold hearS
  simp only [lessB_self, Bool.false_eq_true, if_false]
theorem hear_next (c : Cn) (a w : Int) (h : lessB c.U a = true) (hw : c.waits = []) : hearS c a w = { c with W := w, U := a, ck := 0, tr := 0, ag := false } := by
  unfold hearS
  simp only [h, if_true, lessB_self, Bool.false_eq_true, if_false, hw]
  obtain ⟨_, _, _, _, _, _, _, _, _, wt, _, _, _, _, _, _, _, _, _, _, _, _⟩ := c
  simp only at hw
  subst hw
  simp
theorem ansOp_of (R N : Int) (l : List Int) (W : Int) (ok : Bool) (f t q wi mss : Int) (d l2 : List Int) (R2 : Int) (h : noteS (sC R N l W ok) q d = sC R2 N l2 W ok) :
    ansOpS { sC R N l W ok with st := 2 } ⟨f, t, q, N, 16, wi, mss, d⟩ = sC R2 N l2 wi (ok || !d.isEmpty) := by
  have h0 : ({ sC R N l W ok with st := 2 } : Cn) = sC R N l W ok := rfl
  have h1 : takeInC (sC R N l W ok) ⟨f, t, q, N, 16, wi, mss, d⟩ = sC R2 N l2 W ok := by
    unfold takeInC
    simp only [has16, Bool.false_eq_true, if_false]
    exact h
  have h2 : takeInS (sC R N l W ok) ⟨f, t, q, N, 16, wi, mss, d⟩ = (sC R2 N l2 W ok, false) := by
    unfold takeInS goOnS
    rw [h1]
    rfl
  have h3 : takeOpS (sC R N l W ok) ⟨f, t, q, N, 16, wi, mss, d⟩ = sC R2 N l2 W ok := by
    unfold takeOpS
    rw [h2]
    rfl
  rw [h0]
  unfold ansOpS
  rw [h3]
  simp only
  rw [hear_same (sC R2 N l2 W ok) N wi rfl]
  unfold oweS
  simp only [has16, Bool.false_or]
  cases hd : d.isEmpty with
  | true => simp [sC]
  | false => simp [sC]
theorem sC_ord (R N : Int) (l : List Int) (W : Int) (ok : Bool) (f t wi mss : Int) (d : List Int) (hl : l.length ≤ 16384) : ansOpS { sC R N l W ok with st := 2 } ⟨f, t, R, N, 16, wi, mss, d⟩ = sC (a32 R (d.take (16384 - l.length)).length) N (l ++ d.take (16384 - l.length)) wi (ok || !d.isEmpty) :=
  ansOp_of R N l W ok f t R wi mss d _ _ (noteS_ord (sC R N l W ok) R d rfl rfl rfl hl)
theorem sC_far (R N : Int) (l : List Int) (W : Int) (ok : Bool) (f t q wi mss : Int) (d : List Int) (hR : IsU R) (hl : l.length ≤ 16384) (h1 : 16384 - l.length ≤ s32 q R) (h2 : (d.length : Int) ≤ s32 R q ∨ l.length = 16384) : ansOpS { sC R N l W ok with st := 2 } ⟨f, t, q, N, 16, wi, mss, d⟩ = sC R N l wi (ok || !d.isEmpty) := by
  have := ansOp_of R N l W ok f t q wi mss d _ _ (noteS_far (sC R N l W ok) q d hR rfl rfl hl h1 h2)
  rw [this]
  show sC (a32 R (0 : Nat)) N (l ++ []) wi _ = _
  rw [List.append_nil, show ((0 : Nat) : Int) = 0 from rfl, a32_0 hR]
theorem less_step {a : Int} (ha : IsU a) : lessB a (a32 a 1) = true := by
  unfold IsU at *
  have e : (a == a32 a 1) = false := by
    simp only [beq_eq_false_iff_ne, ne_eq]
    unfold a32
    omega
  unfold lessB
  rw [e]
  simp only [Bool.not_false, Bool.true_and]
  unfold s32 a32
  simp
  omega
theorem mostI_1000 : mostI 1000 = 1000 := by decide
/-- What opening comes to. -/
theorem open_is (seq first win : Int) (hf : IsU first) (hs : IsU (a32 seq 1)) : ansOpS { quietS (newC ⟨7, 2049, seq, 0, 2, win, 1000, []⟩ first) with st := 2 } ⟨7, 2049, a32 seq 1, a32 first 1, 16, win, 0, []⟩ = sC (a32 seq 1) (a32 first 1) [] win false := by
  obtain ⟨R, hR⟩ : ∃ x, a32 seq 1 = x := ⟨_, rfl⟩
  have hl := less_step hf
  obtain ⟨N, hN⟩ : ∃ x, a32 first 1 = x := ⟨_, rfl⟩
  have e0 : ({ quietS (newC ⟨7, 2049, seq, 0, 2, win, 1000, []⟩ first) with st := 2 } : Cn) = ⟨R, [], fun _ => none, 0, true, false, 0, first, N, [], win, 1000, 0, 0, false, false, 2049, 7, 2, false, false, false⟩ := by
    unfold quietS newC
    simp only [mostI_1000, hR, hN]
  rw [e0, hR, hN]
  rw [hN] at hl
  rw [hR] at hs
  obtain ⟨C, hC⟩ : ∃ x : Cn, x = ⟨R, [], fun _ => none, 0, true, false, 0, first, N, [], win, 1000, 0, 0, false, false, 2049, 7, 2, false, false, false⟩ := ⟨_, rfl⟩
  rw [← hC]
  have hn : noteS C R [] = C := by
    rw [noteS_ord C R [] (by rw [hC]) (by rw [hC]) (by rw [hC]) (by rw [hC]; simp)]
    rw [hC]
    simp [a32_0 hs]
  have h3 : takeOpS C ⟨7, 2049, R, N, 16, win, 0, []⟩ = C := by
    unfold takeOpS takeInS takeInC
    simp only [has16, Bool.false_eq_true, if_false, hn]
    unfold goOnS
    rw [hC]
    rfl
  unfold ansOpS
  rw [h3]
  have h4 : hearS C N win = sC R N [] win false := by
    rw [hear_next C N win (by rw [hC]; exact hl) (by rw [hC]), hC]
    rfl
  show oweS (hearS C N win) _ = _
  rw [h4]
  unfold oweS
  simp [has16]
end Go.Proofs.Ytmmijbiapflneaa
namespace Go.Proofs.Ytmmijbiapflneaa
open Go.RowKit Go.Maps
set_option linter.unusedVariables false
section
variable {W : World} {p : Nat} {S : Nat → Prop} {R N : Int} {l : List Int} {W0 : Int} {ok : Bool}
theorem sC_Take (h : CnAt W p S (sC R N l W0 ok)) (hR : IsU R) (hl : l.length ≤ 16384) (f t q wi mss : Int) (d : List Int) (a : Option Addr) (n cp : Nat) (hq : IsU q) (hn : d.length = n) (hn2 : n ≤ 300000) (hc : n ≤ cp) (hb : ∀ W', Kp S W S W' → Bytes W' a d) (C2 : Cn) (h2 : ansOpS { sC R N l W0 ok with st := 2 } ⟨f, t, q, N, 16, wi, mss, d⟩ = C2) :
    Calls Try.prog 12 #[.pointer (some ⟨p, 0, none⟩), .agg (sgC f t q N 16 wi mss (.slice a n cp))] W fun e w' => e = .returned undef ∧ ∃ S', CnAt w' p S' C2 ∧ Kp S W S' w' := by
  obtain ⟨vc, vm, vw, hx⟩ := h
  have := Take_ack hx ⟨f, t, q, N, 16, wi, mss, d⟩ (by kernel_rfl) (by kernel_rfl) (by kernel_rfl) (lessB_self N) (.inr rfl) hl (by
    show 0 ≤ (16384 : Int) - (l.length : Int) ∧ (16384 : Int) - (l.length : Int) ≤ 16384 - (l.length : Int)
    omega) rfl hR (fun x y h => by cases h) a n cp hq hn hn2 hc hb (by show (0 : Nat) ≤ 300000; omega) (by show (0 : Nat) ≤ 900000; omega)
  rwa [h2] at this
theorem sC_Out1 (h : CnAt W p S (sC R N l W0 true)) (hl : l.length ≤ 16384) :
    Calls Try.prog 13 #[.pointer (some ⟨p, 0, none⟩)] W fun e w' => ∃ b off cap, e = .returned (.slice (some ⟨b, off, none⟩) 1 cap) ∧ 1 ≤ cap ∧ w'.cell? ⟨b, off + 3, none⟩ = some (.int .u32 R) ∧ w'.cell? ⟨b, off + 5, none⟩ = some (.int .i64 (16384 - (l.length : Int))) ∧ CnAt w' p S (sC R N l W0 false) ∧ Kp S W S w' := by
  obtain ⟨vc, vm, vw, hx⟩ := h
  refine (Out_q2k hx false ⟨rfl, rfl, rfl, rfl, rfl, rfl⟩ hl rfl).mono ?_
  intro e w' hop
  obtain ⟨b, off, cap, a2, c2, rfl, hcell, _, hcap, _, hx2, hk2⟩ := hop.one (x := segOf (sC R N l W0 true) 16 N []) rfl
  exact ⟨b, off, cap, rfl, hcap, hcell 3 _ rfl, hcell 5 _ rfl, ⟨vc, vm, vw, hx2⟩, hk2⟩
theorem sC_Out0 (h : CnAt W p S (sC R N l W0 false)) (hl : l.length ≤ 16384) :
    Calls Try.prog 13 #[.pointer (some ⟨p, 0, none⟩)] W fun e w' => ∃ a cap, e = .returned (.slice a 0 cap) ∧ CnAt w' p S (sC R N l W0 false) ∧ Kp S W S w' := by
  obtain ⟨vc, vm, vw, hx⟩ := h
  refine (Out_q2 hx false ⟨rfl, rfl, rfl, rfl, rfl, rfl⟩ hl rfl).mono ?_
  intro e w' hop
  obtain ⟨a, cap, rfl, hx2, hk2⟩ := hop.zero rfl
  exact ⟨a, cap, rfl, ⟨vc, vm, vw, hx2⟩, hk2⟩
theorem sC_State (h : CnAt W p S (sC R N l W0 ok)) : Calls Try.prog 14 #[.pointer (some ⟨p, 0, none⟩)] W fun e w' => e = .returned (.int .i64 2) ∧ w' = W := by
  obtain ⟨vc, vm, vw, hx⟩ := h
  exact State_any hx
theorem Recv_at {c : Cn} (h : CnAt W p S c) (hl : c.came.length ≤ 16384) (hb : ∀ x ∈ c.came, IsB x) : Calls Try.prog 15 #[.pointer (some ⟨p, 0, none⟩)] W fun e w' => ∃ a k, e = .returned (.slice a c.came.length k) ∧ Bytes w' a c.came ∧ CnAt w' p S (recvS c) ∧ Kp S W S w' := by
  obtain ⟨vc, vm, vw, hx⟩ := h
  refine (Recv_any hx hl).mono ?_
  rintro e w' ⟨rfl, hx2, hm, hr⟩
  obtain ⟨a, k, rfl⟩ := hr.shape
  exact ⟨a, k, rfl, hr.bytes rfl hb, ⟨_, _, _, hx2⟩, hx.kp hm⟩
theorem sC_recv : recvS (sC R N l W0 ok) = sC R N [] W0 (ok || decide (16384 - (l.length : Int) < 1460)) := by
  unfold recvS
  have e1 : ((sC R N l W0 ok).st == 5) = false := rfl
  rw [e1]
  rfl
/-- Such a one, broken off. -/
def bC (R N : Int) (l : List Int) (W0 : Int) : Cn := breakS (sC R N l W0 false)
theorem bC_Out0 (h : CnAt W p S (bC R N l W0)) (hl : l.length ≤ 16384) :
    Calls Try.prog 13 #[.pointer (some ⟨p, 0, none⟩)] W fun e w' => ∃ a cap, e = .returned (.slice a 0 cap) ∧ CnAt w' p S (bC R N l W0) ∧ Kp S W S w' := by
  obtain ⟨vc, vm, vw, hx⟩ := h
  refine (Out_q9 hx 5 rfl rfl rfl false ⟨rfl, rfl, rfl, rfl, rfl, rfl⟩ hl rfl).mono ?_
  intro e w' hop
  obtain ⟨a, cap, rfl, hx2, hk2⟩ := hop.zero rfl
  exact ⟨a, cap, rfl, ⟨vc, vm, vw, hx2⟩, hk2⟩
theorem bC_State (h : CnAt W p S (bC R N l W0)) : Calls Try.prog 14 #[.pointer (some ⟨p, 0, none⟩)] W fun e w' => e = .returned (.int .i64 5) ∧ w' = W := by
  obtain ⟨vc, vm, vw, hx⟩ := h
  exact State_any hx
theorem bC_recv : recvS (bC R N l W0) = bC R N [] W0 := by
  unfold recvS bC breakS
  rfl
set_option maxHeartbeats 1000000 in
theorem Send_closed {c : Cn} (h : CnAt W p S c) (hst : c.st = 5) (v : Value) : Calls Try.prog 16 #[.pointer (some ⟨p, 0, none⟩), v] W fun e w' => e = .returned (.int .i64 1) ∧ w' = W := by
  obtain ⟨vc, vm, vw, hx⟩ := h
  have p1 := cell_of hx.box (i := 16) (v := .int .i64 c.st) rfl
  rw [hst] at p1
  clear hx hst
  go_enter Try.func16, Try.ntmps16
  go_wp2
  go_ret
  exact ⟨rfl, rfl⟩
end
set_option maxRecDepth 100000 in
set_option maxHeartbeats 8000000 in
theorem opened_any (w : World) (seq first win : Int) (hs : IsU seq) (hf : IsU first) : Calls Try.prog 10 #[.int .u32 seq, .int .u32 first, .int .i64 win] w fun e w' => ∃ p S, e = .returned (.pointer (some ⟨p, 0, none⟩)) ∧ CnAt w' p S (sC (a32 seq 1) (a32 first 1) [] win false) ∧ Below w.heap.size w w' ∧ ∀ b, S b → w.heap.size ≤ b := by
  have HNW := hid (New_any w ⟨7, 2049, seq, 0, 2, win, 1000, []⟩ first (.slice none 0 0) ⟨_, _, _, rfl⟩ (by kernel_rfl))
  obtain ⟨C0, hC0⟩ : ∃ x, newC ⟨7, 2049, seq, 0, 2, win, 1000, []⟩ first = x := ⟨_, rfl⟩
  have HOUT : Hid (∀ W p S vc vm vw, CnX W p S C0 vc vm vw → Calls Try.prog 13 #[.pointer (some ⟨p, 0, none⟩)] W fun e w' => OutPost W p S C0 vc vm vw e w') := hid (fun W p S vc vm vw hx => by
    rw [← hC0] at hx ⊢
    exact Out_q1a hx ⟨rfl, rfl, rfl, rfl, rfl, rfl⟩ (by show (0 : Nat) ≤ 16384; omega) rfl)
  have HO1 : Hid (outQ C0 = [answerS C0]) := hid (by rw [← hC0]; rfl)
  have HT1 : Hid (∀ W p S vc vm vw, CnX W p S (quietS C0) vc vm vw → Calls Try.prog 12 #[.pointer (some ⟨p, 0, none⟩), .agg (sgC 7 2049 (a32 seq 1) (a32 first 1) 16 win 0 (.slice none 0 0))] W fun e w' => e = .returned undef ∧ ∃ S', CnAt w' p S' (sC (a32 seq 1) (a32 first 1) [] win false) ∧ Kp S W S' w') := hid (fun W p S vc vm vw hx => by
    have := Take_ack hx ⟨7, 2049, a32 seq 1, a32 first 1, 16, win, 0, []⟩ (by kernel_rfl) (by kernel_rfl) (by kernel_rfl) (by rw [← hC0]; exact lessB_self _) (.inl (by rw [← hC0]; exact ⟨rfl, rfl⟩)) (by rw [← hC0]; show (0 : Nat) ≤ 16384; omega) (by rw [← hC0]; show (0 : Int) ≤ 16384 - 0 ∧ (16384 - 0 : Int) ≤ 16384 - 0; omega) (by rw [← hC0]; rfl) (by rw [← hC0]; exact a32_u _ _) (fun x y h => by rw [← hC0] at h; cases h) none 0 0 (a32_u _ _) rfl (by omega) (by omega) (fun _ _ => Bytes.nil_ _ _) (by rw [← hC0]; show (0 : Nat) ≤ 300000; omega) (by rw [← hC0]; show (0 : Nat) ≤ 900000; omega)
    rwa [← hC0, open_is seq first win hf (a32_u _ _)] at this)
  rw [hC0] at HNW
  have q1 := wrapU_add seq 1
  have q2 := wrapU_add first 1
  obtain ⟨R, hR⟩ : ∃ x, a32 seq 1 = x := ⟨_, rfl⟩
  obtain ⟨N, hN⟩ : ∃ x, a32 first 1 = x := ⟨_, rfl⟩
  rw [hR, hN] at HT1
  rw [hR] at q1
  rw [hN] at q2
  rw [hR, hN]
  have HST : Hid (∀ W p S, CnAt W p S (sC R N [] win false) → Calls Try.prog 14 #[.pointer (some ⟨p, 0, none⟩)] W fun e w' => e = .returned (.int .i64 2) ∧ w' = W) := hid (fun W p S h => sC_State h)
  clear hC0 hR hN hs hf
  go_enter Try.func10, Try.ntmps10
  go_wp2_with (first
    | (go_at_call 22; refine HNW.out.mono ?_; rintro e w1 ⟨p, S1, gm, rfl, hx1, hb1, hs1⟩; have HX1 := hid hx1; have HB1 := hid (And.intro hb1 hs1); clear hx1 hb1 hs1 HNW)
    | (go_at_call 13; refine (HOUT.out _ _ _ _ _ _ HX1.out).mono ?_; rintro e w2 hop; obtain ⟨b, off, cap, a2, c2, rfl, _, _, hcap, _, hx2, hk2⟩ := hop.one HO1.out
       have HX2 := hid hx2
       have HB2 := hid (hk2.below0 HB1.out.1 HB1.out.2)
       clear hx2 hk2 hop HOUT HX1 HB1 hcap)
    | (go_at_call 12; refine (HT1.out _ _ _ _ _ _ HX2.out).mono ?_; rintro e w3 ⟨rfl, S3, hx3, hk3⟩
       have HX3 := hid hx3
       have HB3 := hid (hk3.below0 HB2.out.1 HB2.out.2)
       clear hx3 hk3 HT1 HX2 HB2)
    | (go_at_call 14; refine (HST.out _ _ _ HX3.out).mono ?_; rintro e w9 ⟨rfl, hw9⟩; subst hw9; clear HST))
  go_ret
  exact ⟨p, S3, rfl, HX3.out, HB3.out.1, HB3.out.2⟩
end Go.Proofs.Ytmmijbiapflneaa
