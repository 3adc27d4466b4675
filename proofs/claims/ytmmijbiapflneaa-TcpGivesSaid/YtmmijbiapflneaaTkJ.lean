/- TcpGives' walk. -/
import Derived.Test.YtmmijbiapflneaaTkB
import Derived.Test.YtmmijbiapflneaaThA
import Derived.Test.YtmmijbiapflneaaTkF
import Derived.Test.YtmmijbiapflneaaTkA
import Derived.Test.YtmmijbiapflneaaTjB
namespace Go.Proofs.Ytmmijbiapflneaa
open Go.RowKit Go.Maps
set_option linter.unusedVariables false
theorem gUf_cells (c : Cn) (vc vm vw : Value) : (cnC c vc vm vw).setIfInBounds 19 (.bool false) = cnC { c with gU := false } vc vm vw := by simp [cnC]
set_option maxRecDepth 100000 in
set_option maxHeartbeats 8000000 in
theorem Out_g {w : World} {p : Nat} {S : Nat → Prop} {c : Cn} {vc vm vw : Value} (h : CnX w p S c vc vm vw) (hgU : c.gU = true) (hcl : c.came.length ≤ 16384) :
    Calls Try.prog 13 #[.pointer (some ⟨p, 0, none⟩)] w fun e w' => ∃ b off cap, e = .returned (.slice (some ⟨b, off, none⟩) 1 cap) ∧ 1 ≤ cap ∧ w'.cell? ⟨b, off + 4, none⟩ = some (.int .i64 20) ∧ CnX w' p S { c with gU := false } vc vm vw ∧ Kp S w S w' := by
  have e19 := cell_of h.box (i := 19) (v := .bool true) (by show some (Value.bool c.gU) = some (Value.bool true); rw [hgU])
  have f19 := froz_of h.box 19
  have hs1 := h.set (c' := { c with gU := false }) 19 (.bool false) (gUf_cells _ _ _ _) rfl rfl rfl rfl rfl
  obtain ⟨V1, hV1⟩ : ∃ V, V = w.setCell ⟨p, 19, none⟩ (.bool false) := ⟨_, rfl⟩
  rw [← hV1] at hs1
  have c6 := cell_of hs1.1.box (i := 6) (v := .int .u32 c.N) rfl
  have HX1 := hid hs1.1
  have HK1 := hid hs1.2
  have hsg := segment_any hs1.1 hcl 20 c.N none 0 0 [] rfl (by omega) (Bytes.nil_ _ _)
  rw [show ownW ({ c with gU := false } : Cn) = ownW c from rfl] at hsg
  have HSG := hid hsg
  clear hsg
  have hV1' := hV1.symm
  clear hs1 hV1 h hgU hcl
  go_enter Try.func13, Try.ntmps13
  go_wp2_with (first
    | (go_at_call 27; refine HSG.out.mono ?_; rintro e w2 ⟨a2, c2, rfl, hy2, hc2, hb2⟩
       obtain ⟨W3, hW3⟩ : ∃ W, W = w2.alloc (.cells #[.int .i64 c.fr, .int .i64 c.to_, .int .u32 c.N, .int .u32 c.R, .int .i64 20, .int .i64 (ownW c), .int .i64 0, .slice a2 0 c2] 30) := ⟨_, rfl⟩
       have b3 : Below w2.heap.size w2 W3 := by rw [hW3]; exact below_alloc (Below.refl _ _) (Nat.le_refl _) _
       have h3 : W3.cell? ⟨w2.heap.size, 0 + 4, none⟩ = some (.int .i64 20) := by rw [hW3]; exact cell_of (alloc_new w2 _) rfl
       have HX3 := hid ((HX1.out.later hb2).later b3)
       have HK3 := hid (HK1.out.trans ((Kp.below (S := S) hb2).trans (Kp.below b3)))
       have H3 := hid h3
       clear b3 h3 hb2 hy2 hc2 HSG
       have hW3' := hW3.symm
       clear hW3))
  go_ret
  exact ⟨_, 0, 1, rfl, Nat.le_refl _, H3.out, HX3.out, HK3.out⟩
end Go.Proofs.Ytmmijbiapflneaa
namespace Go.Proofs.Ytmmijbiapflneaa
open Go.RowKit Go.Maps
set_option linter.unusedVariables false
/-- Open: A of the bytes d are sent, t tries were made. -/
def gC (U : Int) (d : List Int) (A : Nat) (t ck : Int) (ag : Bool) : Cn := ⟨4, [], fun _ => none, 0, true, false, 0, U, a32 U A, d, 4000, 1000, ck, t, ag, false, 2049, 7, 2, false, false, false⟩
/-- Opening. -/
def hC (U : Int) (t ck : Int) (oA : Bool) : Cn := ⟨4, [], fun _ => none, 0, true, false, 0, U, a32 U 1, [], 4000, 1000, ck, t, false, false, 2049, 7, 1, oA, false, false⟩
/-- 200 times 2 to the t. -/
def P2 (t : Nat) : Int := 200 * 2 ^ t
theorem P2_bd (t : Nat) (h : t ≤ 5) : 200 ≤ P2 t ∧ P2 t ≤ 6400 := by
  have := pow_le (t : Int) (by omega) (by omega)
  unfold P2
  simp at this
  omega
theorem ne_step {U : Int} {n : Nat} (hU : IsU U) (h0 : 0 < n) (h1 : n ≤ 65536) : (U == a32 U n) = false := by
  simp only [beq_eq_false_iff_ne, ne_eq]
  unfold a32 IsU at *
  omega
theorem gC_waits (U : Int) (d : List Int) (n : Nat) (t ck : Int) (ag : Bool) (hU : IsU U) (h0 : 0 < n) (h1 : n ≤ 65536) : awaitsB (gC U d n t ck ag) = true := by
  unfold awaitsB
  show (!(U == a32 U n) || _) = true
  rw [ne_step hU h0 h1]
  rfl
theorem hC_waits (U : Int) (t ck : Int) (oA : Bool) (hU : IsU U) : awaitsB (hC U t ck oA) = true := by
  unfold awaitsB
  show (!(U == a32 U 1) || _) = true
  have := ne_step (n := 1) hU (by omega) (by omega)
  rw [show ((1 : Nat) : Int) = 1 from rfl] at this
  rw [this]
  rfl
theorem time_wait {c : Cn} {t : Nat} (ht : c.tr = t) (hck : c.ck = 0) : timeC c (P2 t - 1) = false ∧ (0 : Int) ≤ 0 := by
  unfold timeC P2
  rw [ht, hck]
  simp
  omega
theorem time_now {c : Cn} {t : Nat} (ht : c.tr = t) (hck : c.ck = P2 t - 1) : timeC c 1 = true := by
  unfold timeC
  rw [ht, hck]
  unfold P2
  simp
  omega
section
variable {W : World} {p : Nat} {S : Nat → Prop} {U : Int} {d : List Int} {n : Nat}
theorem gC_Tick1 (t : Nat) (ht : t ≤ 5) (hU : IsU U) (h0 : 0 < n) (h1 : n ≤ 65536) (h : CnAt W p S (gC U d n t 0 false)) :
    Calls Try.prog 18 #[.pointer (some ⟨p, 0, none⟩), .int .i64 (P2 t - 1)] W fun e w' => e = .returned undef ∧ CnAt w' p S (gC U d n t (P2 t - 1) false) ∧ Kp S W S w' := by
  obtain ⟨vc, vm, vw, hx⟩ := h
  have hb := P2_bd t ht
  have htm := (time_wait (c := gC U d n t 0 false) (t := t) rfl rfl).1
  have := Tick_wait hx (by show 0 ≤ (t : Int) ∧ (t : Int) ≤ 5; omega) (by show (0 : Int) ≤ 0 ∧ (0 : Int) ≤ 6400; omega) (P2 t - 1) (by unfold II; omega) (by show (2 : Int) ≠ 5; omega) (gC_waits U d n t 0 false hU h0 h1) htm
  refine this.mono ?_
  rintro e w' ⟨h1, h2, h3⟩
  refine ⟨h1, ⟨vc, vm, vw, ?_⟩, h3⟩
  have e : tickedC (gC U d n t 0 false) (P2 t - 1) = gC U d n t (P2 t - 1) false := by
    unfold tickedC
    rw [htm]
    show gC U d n t (0 + max (P2 t - 1) 0) false = _
    rw [show (0 : Int) + max (P2 t - 1) 0 = P2 t - 1 by omega]
  rwa [e] at h2
theorem hC_Tick1 (t : Nat) (ht : t ≤ 5) (hU : IsU U) (h : CnAt W p S (hC U t 0 false)) :
    Calls Try.prog 18 #[.pointer (some ⟨p, 0, none⟩), .int .i64 (P2 t - 1)] W fun e w' => e = .returned undef ∧ CnAt w' p S (hC U t (P2 t - 1) false) ∧ Kp S W S w' := by
  obtain ⟨vc, vm, vw, hx⟩ := h
  have hb := P2_bd t ht
  have htm := (time_wait (c := hC U t 0 false) (t := t) rfl rfl).1
  have := Tick_wait hx (by show 0 ≤ (t : Int) ∧ (t : Int) ≤ 5; omega) (by show (0 : Int) ≤ 0 ∧ (0 : Int) ≤ 6400; omega) (P2 t - 1) (by unfold II; omega) (by show (1 : Int) ≠ 5; omega) (hC_waits U t 0 false hU) htm
  refine this.mono ?_
  rintro e w' ⟨h1, h2, h3⟩
  refine ⟨h1, ⟨vc, vm, vw, ?_⟩, h3⟩
  have e : tickedC (hC U t 0 false) (P2 t - 1) = hC U t (P2 t - 1) false := by
    unfold tickedC
    rw [htm]
    show hC U t (0 + max (P2 t - 1) 0) false = _
    rw [show (0 : Int) + max (P2 t - 1) 0 = P2 t - 1 by omega]
  rwa [e] at h2
theorem gC_Tick2 (t : Nat) (ht : t < 5) (hU : IsU U) (h0 : 0 < n) (h1 : n ≤ 65536) (h : CnAt W p S (gC U d n t (P2 t - 1) false)) :
    Calls Try.prog 18 #[.pointer (some ⟨p, 0, none⟩), .int .i64 1] W fun e w' => e = .returned undef ∧ CnAt w' p S (gC U d n ((t + 1 : Nat) : Int) 0 true) ∧ Kp S W S w' := by
  obtain ⟨vc, vm, vw, hx⟩ := h
  have hb := P2_bd t (by omega)
  have htm := time_now (c := gC U d n t (P2 t - 1) false) (t := t) rfl rfl
  have := Tick_again hx (by show 0 ≤ (t : Int) ∧ (t : Int) ≤ 5; omega) (by show (0 : Int) ≤ P2 t - 1 ∧ P2 t - 1 ≤ 6400; omega) 1 (by unfold II; omega) (by show (2 : Int) ≠ 5; omega) (gC_waits U d n t _ false hU h0 h1) htm (by show (t : Int) + 1 ≠ 6; omega) (by show (2 : Int) ≠ 1; omega)
  exact this.mono (fun e w' ⟨h1, h2, h3⟩ => ⟨h1, ⟨vc, vm, vw, h2⟩, h3⟩)
theorem hC_Tick2 (t : Nat) (ht : t < 5) (hU : IsU U) (h : CnAt W p S (hC U t (P2 t - 1) false)) :
    Calls Try.prog 18 #[.pointer (some ⟨p, 0, none⟩), .int .i64 1] W fun e w' => e = .returned undef ∧ CnAt w' p S (hC U ((t + 1 : Nat) : Int) 0 true) ∧ Kp S W S w' := by
  obtain ⟨vc, vm, vw, hx⟩ := h
  have hb := P2_bd t (by omega)
  have htm := time_now (c := hC U t (P2 t - 1) false) (t := t) rfl rfl
  have := Tick_open hx (by show 0 ≤ (t : Int) ∧ (t : Int) ≤ 5; omega) (by show (0 : Int) ≤ P2 t - 1 ∧ P2 t - 1 ≤ 6400; omega) 1 (by unfold II; omega) (by show (1 : Int) ≠ 5; omega) (hC_waits U t _ false hU) htm (by show (t : Int) + 1 ≠ 6; omega) rfl
  exact this.mono (fun e w' ⟨h1, h2, h3⟩ => ⟨h1, ⟨vc, vm, vw, h2⟩, h3⟩)
/-- The sixth try: it gives up, tells it once, and is closed. -/
theorem last_Tick {c : Cn} (hU : awaitsB c = true) (htr : c.tr = 5) (hck : c.ck = P2 5 - 1) (hst : c.st ≠ 5) (h : CnAt W p S c) :
    Calls Try.prog 18 #[.pointer (some ⟨p, 0, none⟩), .int .i64 1] W fun e w' => e = .returned undef ∧ CnAt w' p S { breakS { c with ck := 0, tr := 6 } with gU := true } ∧ Kp S W S w' := by
  obtain ⟨vc, vm, vw, hx⟩ := h
  have hb := P2_bd 5 (by omega)
  have := Tick_over hx (by rw [htr]; omega) (by rw [hck]; omega) 1 (by unfold II; omega) hst hU (time_now (t := 5) htr hck) (by rw [htr]; rfl)
  exact this.mono (fun e w' ⟨h1, h2, h3⟩ => ⟨h1, ⟨_, _, _, h2⟩, h3⟩)
theorem Out_gAt {c : Cn} (hgU : c.gU = true) (hcl : c.came.length ≤ 16384) (h : CnAt W p S c) :
    Calls Try.prog 13 #[.pointer (some ⟨p, 0, none⟩)] W fun e w' => ∃ b off cap, e = .returned (.slice (some ⟨b, off, none⟩) 1 cap) ∧ 1 ≤ cap ∧ w'.cell? ⟨b, off + 4, none⟩ = some (.int .i64 20) ∧ CnAt w' p S { c with gU := false } ∧ Kp S W S w' := by
  obtain ⟨vc, vm, vw, hx⟩ := h
  exact (Out_g hx hgU hcl).mono (fun e w' ⟨b, off, cap, h1, h2, h3, h4, h5⟩ => ⟨b, off, cap, h1, h2, h3, ⟨_, _, _, h4⟩, h5⟩)
theorem Out_0At {c : Cn} (hst : c.st = 5) (hq : c.gU = false ∧ c.ag = false ∧ c.ov = false ∧ c.oK = false) (hw : c.waits = []) (hcl : c.came.length ≤ 16384) (h : CnAt W p S c) :
    Calls Try.prog 13 #[.pointer (some ⟨p, 0, none⟩)] W fun e w' => ∃ a cap, e = .returned (.slice a 0 cap) ∧ Kp S W S w' := by
  obtain ⟨vc, vm, vw, hx⟩ := h
  refine (Out_q9 hx 5 rfl rfl rfl c.oA ⟨hq.1, hq.2.1, hq.2.2.1, hst, rfl, hq.2.2.2⟩ hcl hw).mono ?_
  intro e w' hop
  have ho : outQ c = [] := by unfold outQ; rw [if_neg (fun e => by rw [hst] at e; exact absurd e.1 (by decide)), if_neg (by rw [hq.2.2.2]; simp)]
  obtain ⟨a, cap, rfl, _, hk2⟩ := hop.zero ho
  exact ⟨a, cap, rfl, hk2⟩
theorem State_at {c : Cn} (h : CnAt W p S c) : Calls Try.prog 14 #[.pointer (some ⟨p, 0, none⟩)] W fun e w' => e = .returned (.int .i64 c.st) ∧ w' = W := by
  obtain ⟨vc, vm, vw, hx⟩ := h
  exact State_any hx
theorem hC_Out0 (t ck : Int) (h : CnAt W p S (hC U t ck false)) : Calls Try.prog 13 #[.pointer (some ⟨p, 0, none⟩)] W fun e w' => ∃ a cap, e = .returned (.slice a 0 cap) ∧ CnAt w' p S (hC U t ck false) ∧ Kp S W S w' := by
  obtain ⟨vc, vm, vw, hx⟩ := h
  refine (Out_q1 hx ⟨rfl, rfl, rfl, rfl, rfl, rfl⟩ (by show (0 : Nat) ≤ 16384; omega) rfl).mono ?_
  intro e w' hop
  obtain ⟨a, cap, rfl, hx2, hk2⟩ := hop.zero rfl
  exact ⟨a, cap, rfl, ⟨vc, vm, vw, hx2⟩, hk2⟩
theorem hC_Out1 (t ck : Int) (h : CnAt W p S (hC U t ck true)) : Calls Try.prog 13 #[.pointer (some ⟨p, 0, none⟩)] W fun e w' => ∃ b off cap, e = .returned (.slice (some ⟨b, off, none⟩) 1 cap) ∧ 1 ≤ cap ∧ w'.cell? ⟨b, off + 4, none⟩ = some (.int .i64 18) ∧ CnAt w' p S (hC U t ck false) ∧ Kp S W S w' := by
  obtain ⟨vc, vm, vw, hx⟩ := h
  refine (Out_q1a hx ⟨rfl, rfl, rfl, rfl, rfl, rfl⟩ (by show (0 : Nat) ≤ 16384; omega) rfl).mono ?_
  intro e w' hop
  obtain ⟨b, off, cap, a2, c2, rfl, hcell, _, hcap, _, hx2, hk2⟩ := hop.one (x := answerS (hC U t ck true)) rfl
  exact ⟨b, off, cap, rfl, hcap, hcell 4 _ rfl, ⟨vc, vm, vw, hx2⟩, hk2⟩
end
end Go.Proofs.Ytmmijbiapflneaa
namespace Go.Proofs.Ytmmijbiapflneaa
open Go.RowKit Go.Maps
set_option linter.unusedVariables false
theorem OutP.one {w w' : World} {p : Nat} {S : Nat → Prop} {c' : Cn} {vc vm vw : Value} {e : Ending} {x : Sg} (h : OutP w p S c' [x] vc vm vw e w') : ∃ b off cap a2 c2, e = .returned (.slice (some ⟨b, off, none⟩) 1 cap) ∧ 1 ≤ cap ∧ (∀ j u, (sxV ⟨x, a2, c2⟩)[j]? = some u → w'.cell? ⟨b, off + j, none⟩ = some u) ∧ By w' (fun y => w.heap.size ≤ y) a2 x.dat ∧ CnX w' p S c' vc vm vw ∧ Kp S w S w' := by
  obtain ⟨v, L, rfl, hsl, hL, hX, hK⟩ := h
  obtain ⟨a2, c2, rfl⟩ := map_one hL
  obtain ⟨b, off, cap, rfl, hc, hb, hcell, hby, _⟩ := hsl.at_ (i := 0) (by simp)
  refine ⟨b, off, cap, a2, c2, rfl, hc, fun j u hj => ?_, hby, hX, hK⟩
  have := hcell j u hj
  rwa [Nat.zero_mul, Nat.zero_add] at this
theorem OutP.zero {w w' : World} {p : Nat} {S : Nat → Prop} {c' : Cn} {vc vm vw : Value} {e : Ending} (h : OutP w p S c' [] vc vm vw e w') : ∃ a cap, e = .returned (.slice a 0 cap) ∧ CnX w' p S c' vc vm vw ∧ Kp S w S w' := by
  obtain ⟨v, L, rfl, hsl, hL, hX, hK⟩ := h
  obtain rfl : L = [] := by cases L with
    | nil => rfl
    | cons y l => simp at hL
  obtain ⟨a, c, rfl⟩ := hsl.slice
  exact ⟨a, c, rfl, hX, hK⟩
section
variable {W : World} {p : Nat} {S : Nat → Prop} {U : Int} {d : List Int} {n : Nat}
theorem gC_first (hn : d.length = n) (h0 : 0 < n) (h9 : n ≤ 900) (t ck : Int) (ag : Bool) : ∃ x, freshL (gC U d 0 t ck ag) ((gC U d 0 t ck ag).waits.length - 0) 0 = ([x], n) := by
  have hl : (gC U d 0 t ck ag).waits.length = n := hn
  have hst := freshL_step (c := gC U d 0 t ck ag) (A := 0) (by show (1 : Int) ≤ 1000; omega) (by rw [hl]; exact h0) (by show ((0 : Nat) : Int) < 4000; omega)
  have hE : endC (gC U d 0 t ck ag) 0 = n := by
    unfold endC
    rw [hl]
    show min (min (n : Int) ((0 : Nat) + 1000)) 4000 = n
    omega
  rw [hE, Int.toNat_natCast] at hst
  have h2 : freshL (gC U d 0 t ck ag) ((gC U d 0 t ck ag).waits.length - n) n = ([], n) := freshL_stop (fun e => by rw [hl] at e; omega)
  rw [h2] at hst
  exact ⟨_, hst⟩
theorem gC_done (hn : d.length = n) (t ck : Int) (ag : Bool) : freshL (gC U d n t ck ag) ((gC U d n t ck ag).waits.length - n) n = ([], n) := freshL_stop (fun e => by
  have hl : (gC U d n t ck ag).waits.length = n := hn
  rw [hl] at e; omega)
theorem gC_OutF (hU : IsU U) (hn : d.length = n) (h0 : 0 < n) (h9 : n ≤ 900) (hb : ∀ x ∈ d, IsB x) (h : CnAt W p S (gC U d 0 0 0 false)) :
    Calls Try.prog 13 #[.pointer (some ⟨p, 0, none⟩)] W fun e w' => ∃ a cap, e = .returned (.slice a 1 cap) ∧ CnAt w' p S (gC U d n 0 0 false) ∧ Kp S W S w' := by
  obtain ⟨vc, vm, vw, hx⟩ := h
  obtain ⟨x, hf⟩ := gC_first (U := U) hn h0 h9 0 0 false
  have hl : (gC U d 0 0 0 false).waits.length = n := hn
  refine (Out_f1 hx rfl rfl rfl rfl (by show (0 : Nat) ≤ 16384; omega) (by show (1 : Int) ≤ 1000 ∧ (1000 : Int) ≤ 65535; omega) hU 0 rfl (by omega) (by rw [hl]; omega) hb x n hf).mono ?_
  intro e w' hop
  obtain ⟨b, off, cap, a2, c2, rfl, _, _, _, hx2, hk2⟩ := hop.one
  exact ⟨_, cap, rfl, ⟨vc, vm, vw, hx2⟩, hk2⟩
theorem gC_Out0 (hU : IsU U) (hn : d.length = n) (h9 : n ≤ 900) (hb : ∀ x ∈ d, IsB x) (t ck : Int) (h : CnAt W p S (gC U d n t ck false)) :
    Calls Try.prog 13 #[.pointer (some ⟨p, 0, none⟩)] W fun e w' => ∃ a cap, e = .returned (.slice a 0 cap) ∧ CnAt w' p S (gC U d n t ck false) ∧ Kp S W S w' := by
  obtain ⟨vc, vm, vw, hx⟩ := h
  have hl : (gC U d n t ck false).waits.length = n := hn
  refine (Out_f0 hx rfl rfl rfl rfl (by show (0 : Nat) ≤ 16384; omega) (by show (1 : Int) ≤ 1000 ∧ (1000 : Int) ≤ 65535; omega) hU n rfl (by omega) (by rw [hl]; omega) hb rfl (gC_done hn t ck false)).mono ?_
  intro e w' hop
  obtain ⟨a, cap, rfl, hx2, hk2⟩ := hop.zero
  exact ⟨a, cap, rfl, ⟨vc, vm, vw, hx2⟩, hk2⟩
theorem gC_OutR (hU : IsU U) (hn : d.length = n) (h0 : 0 < n) (h9 : n ≤ 900) (hb : ∀ x ∈ d, IsB x) (t ck : Int) (h : CnAt W p S (gC U d n t ck true)) :
    Calls Try.prog 13 #[.pointer (some ⟨p, 0, none⟩)] W fun e w' => ∃ b off cap a2 c2, e = .returned (.slice (some ⟨b, off, none⟩) 1 cap) ∧ 1 ≤ cap ∧ w'.cell? ⟨b, off + 4, none⟩ = some (.int .i64 16) ∧ w'.cell? ⟨b, off + 7, none⟩ = some (.slice a2 n c2) ∧ Bytes w' a2 d ∧ CnAt w' p S (gC U d n t ck false) ∧ Kp S W S w' := by
  obtain ⟨vc, vm, vw, hx⟩ := h
  have hl : (gC U d n t ck true).waits.length = n := hn
  have hm : ((n : Nat) : Int) = min (n : Int) (gC U d n t ck true).M := by
    show (n : Int) = min (n : Int) 1000
    omega
  refine (Out_r hx rfl rfl rfl rfl (by show (0 : Nat) ≤ 16384; omega) (by show (1 : Int) ≤ 1000 ∧ (1000 : Int) ≤ 65535; omega) hU n rfl (by omega) (by rw [hl]; omega) hb (gC_done hn t ck true) h0 n hm).mono ?_
  intro e w' hop
  obtain ⟨b, off, cap, a2, c2, rfl, hcap, hcell, hby, hx2, hk2⟩ := hop.one
  have ht : (gC U d n t ck true).waits.take n = d := List.take_of_length_le (by rw [hl]; exact Nat.le_refl _)
  have h7 := hcell 7 _ rfl
  have hby2 := hby.bytes
  have e1 : (segOf (gC U d n t ck true) 16 (gC U d n t ck true).U ((gC U d n t ck true).waits.take n)).dat = d := ht
  rw [e1] at hby2
  refine ⟨b, off, cap, a2, c2, rfl, hcap, hcell 4 _ rfl, ?_, hby2, ⟨vc, vm, vw, hx2⟩, hk2⟩
  have e2 : (segOf (gC U d n t ck true) 16 (gC U d n t ck true).U ((gC U d n t ck true).waits.take n)).dat.length = n := by rw [e1]; exact hn
  rw [e2] at h7
  exact h7
end
end Go.Proofs.Ytmmijbiapflneaa
namespace Go.Proofs.Ytmmijbiapflneaa
open Go.RowKit Go.Maps
set_option linter.unusedVariables false
theorem hC_new (U : Int) : newC ⟨7, 2049, 3, 0, 2, 4000, 1000, []⟩ U = hC U 0 0 true := by kernel_rfl
theorem open3 : a32 3 1 = 4 := by decide
theorem gC_sent (U : Int) (l : List Int) (hU : IsU U) : ({ sC 4 U [] 4000 false with waits := [] ++ l } : Cn) = gC U l 0 0 0 false := by
  unfold gC sC
  rw [show ((0 : Nat) : Int) = 0 from rfl, a32_0 hU]
  rfl
theorem Send_at {W : World} {p : Nat} {S : Nat → Prop} {c : Cn} (h : CnAt W p S c) (hst : c.st = 2) (hov : c.ov = false) (a : Option Addr) (n cp : Nat) (l : List Int) (hn : l.length = n) (hb : Bytes W a l) (hl : c.waits.length + n ≤ 65536) :
    Calls Try.prog 16 #[.pointer (some ⟨p, 0, none⟩), .slice a n cp] W fun e w' => e = .returned (.int .i64 0) ∧ ∃ S', CnAt w' p S' { c with waits := c.waits ++ l } ∧ Kp S W S' w' := by
  obtain ⟨vc, vm, vw, hx⟩ := h
  exact (Send_ok hx (.inl hst) hov a n cp l hn hb hl).mono (fun e w' ⟨h1, S', vw', h2, h3⟩ => ⟨h1, S', ⟨_, _, _, h2⟩, h3⟩)
set_option maxRecDepth 100000 in
set_option maxHeartbeats 32000000 in
theorem TcpGives_walk (w : World) (a : Option Addr) (n c : Nat) (l : List Int) (first : Int) (opn : Bool) (hn : l.length = n) (hc : n ≤ c) (hb : Bytes w a l) (hf : IsU first) :
    Calls Try.prog 8 #[.slice a n c, .int .u32 first, .bool opn] w fun e w' => e = .returned (.bool true) ∧ Below w.heap.size w w' := by
  have HKN := hid (known_any w)
  by_cases h0 : n = 0
  · subst h0
    clear hn hc hb hf
    go_enter Try.func8, Try.ntmps8
    go_wp2_with (go_at_call 9; refine HKN.out.mono ?_; rintro e w1 ⟨rfl, hb1⟩; have HB1 := hid hb1; clear hb1 HKN)
    go_ret
    exact ⟨rfl, HB1.out⟩
  · by_cases h9 : n ≤ 900
    · have hn0 : ((n : Int) == 0) = false := by simp; omega
      have hn9 : ¬ (900 < n) := by omega
      have HN0 : Hid (0 < n) := hid (by omega)
      have HN9 := hid h9
      have HL := hid hn
      have HBI := hid hb.isB
      have HBY := hid hb
      have HNW : Hid (∀ W, Calls Try.prog 22 #[.agg (sgC 7 2049 3 0 2 4000 1000 (.slice none 0 0)), .int .u32 first] W fun e w' => ∃ p S, e = .returned (.tuple #[.pointer (some ⟨p, 0, none⟩), .int .i64 0]) ∧ CnAt w' p S (hC first 0 0 true) ∧ Below W.heap.size W w' ∧ ∀ b, S b → W.heap.size ≤ b) := hid (fun W => (New_any W ⟨7, 2049, 3, 0, 2, 4000, 1000, []⟩ first (.slice none 0 0) ⟨_, _, _, rfl⟩ (by kernel_rfl)).mono (fun e w' ⟨p, S, gm, h1, h2, h3, h4⟩ => ⟨p, S, h1, ⟨_, _, _, by rw [← hC_new]; exact h2⟩, h3, h4⟩))
      cases opn with
      | false =>
        have HU := hid hf
        obtain ⟨U, hU⟩ : ∃ x, first = x := ⟨_, rfl⟩
        subst hU
        have HOA : Hid (∀ W p S, CnAt W p S (hC first 0 0 true) → Calls Try.prog 13 #[.pointer (some ⟨p, 0, none⟩)] W fun e w' => ∃ b off cap, e = .returned (.slice (some ⟨b, off, none⟩) 1 cap) ∧ 1 ≤ cap ∧ w'.cell? ⟨b, off + 4, none⟩ = some (.int .i64 18) ∧ CnAt w' p S (hC first 0 0 false) ∧ Kp S W S w') := hid (fun W p S h => hC_Out1 _ _ h)
        clear hn hc hb h0 h9 hf
        go_enter Try.func8, Try.ntmps8
        go_wp2_with (first
          | (go_at_call 9; refine HKN.out.mono ?_; rintro e w1 ⟨rfl, hb1⟩; have HB1 := hid hb1; clear hb1 HKN)
          | (go_at_call 22; refine (HNW.out _).mono ?_; rintro e w2 ⟨p, S, rfl, hx2, hb2, hs2⟩
             have HX2 := hid hx2
             have HB2 := hid (HB1.out.trans (hb2.mono HB1.out.size))
             have HS : Hid (∀ b, S b → w.heap.size ≤ b) := hid (fun b hb => Nat.le_trans HB1.out.size (hs2 b hb))
             clear hx2 hb2 hs2 HNW HB1)
          | (go_at_call 13; refine (HOA.out _ _ _ HX2.out).mono ?_; rintro e w3 ⟨b3, o3, k3, rfl, hk33, u3, hx3, hk3⟩
             have HXL := hid hx3
             have HBL := hid (hk3.below0 HB2.out HS.out).1
             clear hx3 hk3 HOA HX2 HB2 u3 hk33))
        go_loopw [10, 11] (fun z10 _ wr => ∃ (t : Nat) (T : Int), t ≤ 5 ∧ T = (t : Int) ∧ z10 = .int .i64 T ∧ CnAt wr p S (hC first (t : Int) 0 false) ∧ Below w.heap.size w wr) (fun z10 _ _ => 6 - (RowKit.intOf z10).toNat)
        case atStart => exact ⟨0, 0, by omega, rfl, rfl, HXL.out, HBL.out⟩
        case round =>
          obtain ⟨t, T, ht, hTt, rfl, hx, hb⟩ := hrel
          have htl : T < 6 := by omega
          have HTt := hid hTt
          clear HXL HBL
          have HXj := hid hx
          have HBj := hid hb
          have hpb := P2_bd t ht
          have hsh : ∀ W, (Op.shift BinOp.shl IntKind.i64 200 IntKind.i64 T).run Try.prog W = .ok (.int .i64 (P2 t)) W := fun W => by rw [hTt]; have := shl200 (t : Int) (by omega) (by omega) W; rwa [Int.toNat_natCast] at this
          obtain ⟨P1, hP1⟩ : ∃ x, P2 t - 1 = x := ⟨_, rfl⟩
          have w1 : IntKind.i64.wrap (P2 t - 1) = P1 := by rw [IntWalk.i64_in _ (by omega)]; exact hP1
          have HT1 : Hid (∀ W, CnAt W p S (hC first (t : Int) 0 false) → Calls Try.prog 18 #[.pointer (some ⟨p, 0, none⟩), .int .i64 P1] W fun e w' => e = .returned undef ∧ CnAt w' p S (hC first t P1 false) ∧ Kp S W S w') := hid (fun W h => by rw [← hP1]; exact hC_Tick1 t ht HU.out h)
          have HO0 : Hid (∀ W, CnAt W p S (hC first t P1 false) → Calls Try.prog 13 #[.pointer (some ⟨p, 0, none⟩)] W fun e w' => ∃ a cap, e = .returned (.slice a 0 cap) ∧ CnAt w' p S (hC first t P1 false) ∧ Kp S W S w') := hid (fun W h => hC_Out0 _ _ h)
          have HST : Hid (∀ W, CnAt W p S (hC first t P1 false) → Calls Try.prog 14 #[.pointer (some ⟨p, 0, none⟩)] W fun e w' => e = .returned (.int .i64 1) ∧ w' = W) := hid (fun W h => State_at h)
          by_cases h5 : t = 5
          · have HT5 : Hid ((T == 5) = true) := hid (by simp; omega)
            have HT2 : Hid (∀ W, CnAt W p S (hC first (t : Int) P1 false) → Calls Try.prog 18 #[.pointer (some ⟨p, 0, none⟩), .int .i64 1] W fun e w' => e = .returned undef ∧ CnAt w' p S ({ breakS { (hC first (t : Int) P1 false) with ck := 0, tr := 6 } with gU := true }) ∧ Kp S W S w') := hid (fun W h => last_Tick (hC_waits first _ _ false HU.out) (by show (t : Int) = 5; omega) (by show P1 = P2 5 - 1; rw [← hP1, h5]) (by show (1 : Int) ≠ 5; omega) h)
            obtain ⟨CB, hCB⟩ : ∃ x, ({ breakS { (hC first (t : Int) P1 false) with ck := 0, tr := 6 } with gU := true } : Cn) = x := ⟨_, rfl⟩
            have HOG : Hid (∀ W, CnAt W p S CB → Calls Try.prog 13 #[.pointer (some ⟨p, 0, none⟩)] W fun e w' => ∃ b off cap, e = .returned (.slice (some ⟨b, off, none⟩) 1 cap) ∧ 1 ≤ cap ∧ w'.cell? ⟨b, off + 4, none⟩ = some (.int .i64 20) ∧ CnAt w' p S { CB with gU := false } ∧ Kp S W S w') := hid (fun W h => Out_gAt (by rw [← hCB]) (by rw [← hCB]; show (0 : Nat) ≤ 16384; omega) h)
            have HS5 : Hid (∀ W, CnAt W p S { CB with gU := false } → Calls Try.prog 14 #[.pointer (some ⟨p, 0, none⟩)] W fun e w' => e = .returned (.int .i64 5) ∧ w' = W) := hid (fun W h => by have := State_at h; rwa [show ({ CB with gU := false } : Cn).st = 5 by rw [← hCB]; rfl] at this)
            have HO5 : Hid (∀ W, CnAt W p S { CB with gU := false } → Calls Try.prog 13 #[.pointer (some ⟨p, 0, none⟩)] W fun e w' => ∃ a cap, e = .returned (.slice a 0 cap) ∧ Kp S W S w') := hid (fun W h => Out_0At (by rw [← hCB]; rfl) (by rw [← hCB]; exact ⟨rfl, rfl, rfl, rfl⟩) (by rw [← hCB]; rfl) (by rw [← hCB]; show (0 : Nat) ≤ 16384; omega) h)
            rw [hCB] at HT2
            clear hx hb hpb hP1 ht hCB hTt h5
            go_upto_region 26 with (first
              | (go_at_call 18; refine (HT1.out _ HXj.out).mono ?_; rintro e w3 ⟨rfl, hx3, hk3⟩
                 have HX3 := hid hx3
                 have HB3 := hid (hk3.below0 HBj.out HS.out)
                 clear hx3 hk3 HT1 HXj HBj)
              | (go_at_call 13; refine (HO0.out _ HX3.out).mono ?_; rintro e w4 ⟨a4, k4, rfl, hx4, hk4⟩
                 have HX4 := hid hx4
                 have HB4 := hid (hk4.below0 HB3.out.1 HS.out)
                 clear hx4 hk4 HO0 HX3 HB3)
              | (go_at_call 14; refine (HST.out _ HX4.out).mono ?_; rintro e w5 ⟨rfl, hw5⟩; subst hw5; clear HST)
              | (go_at_call 18; refine (HT2.out _ HX4.out).mono ?_; rintro e w6 ⟨rfl, hx6, hk6⟩
                 have HX6 := hid hx6
                 have HB6 := hid (hk6.below0 HB4.out.1 HS.out)
                 clear hx6 hk6 HT2 HX4 HB4)
              | (go_at_call 13; refine (HOG.out _ HX6.out).mono ?_; rintro e w7 ⟨b7, o7, k7, rfl, hk77, u4, hx7, hk7⟩
                 have HX7 := hid hx7
                 have HB7 := hid (hk7.below0 HB6.out.1 HS.out)
                 clear hx7 hk7 HOG HX6 HB6))
            have hT5 := HT5.out
            go_wp2_with (first
              | (go_at_call 14; refine (HS5.out _ HX7.out).mono ?_; rintro e w8 ⟨rfl, hw8⟩; subst hw8; clear HS5)
              | (go_at_call 13; refine (HO5.out _ HX7.out).mono ?_; rintro e w9 ⟨a9, k9, rfl, hk9⟩
                 have HB9 := hid (hk9.below0 HB7.out.1 HS.out)
                 clear hk9 HO5 HX7 HB7))
            go_ret
            exact ⟨rfl, HB9.out.1⟩
          · have ht5 : t < 5 := by omega
            have hte : (T == 5) = false := by simp; omega
            obtain ⟨t2, ht2⟩ : ∃ x, x = t + 1 := ⟨_, rfl⟩
            obtain ⟨T2, hT2⟩ : ∃ x, x = T + 1 := ⟨_, rfl⟩
            have hti : IntKind.i64.wrap (T + 1) = T2 := by rw [IntWalk.i64_in _ (by omega)]; omega
            have HT2 : Hid (∀ W, CnAt W p S (hC first t P1 false) → Calls Try.prog 18 #[.pointer (some ⟨p, 0, none⟩), .int .i64 1] W fun e w' => e = .returned undef ∧ CnAt w' p S (hC first (t2 : Int) 0 true) ∧ Kp S W S w') := hid (fun W h => by rw [ht2]; rw [← hP1] at h; exact hC_Tick2 t ht5 HU.out h)
            have HTX : Hid (T2 = (t2 : Int) ∧ T2 = T + 1) := hid ⟨by omega, hT2⟩
            have HOR : Hid (∀ W, CnAt W p S (hC first (t2 : Int) 0 true) → Calls Try.prog 13 #[.pointer (some ⟨p, 0, none⟩)] W fun e w' => ∃ b off cap, e = .returned (.slice (some ⟨b, off, none⟩) 1 cap) ∧ 1 ≤ cap ∧ w'.cell? ⟨b, off + 4, none⟩ = some (.int .i64 18) ∧ CnAt w' p S (hC first (t2 : Int) 0 false) ∧ Kp S W S w') := hid (fun W h => hC_Out1 _ _ h)
            have HTT : Hid (t2 ≤ 5 ∧ t2 = t + 1 ∧ 0 ≤ T ∧ T ≤ 4) := hid ⟨by omega, ht2, by omega, by omega⟩
            clear hx hb hpb hP1 ht h5 ht2 ht5 hTt hT2
            go_upto_region 28 with (first
              | (go_at_call 18; refine (HT1.out _ HXj.out).mono ?_; rintro e w3 ⟨rfl, hx3, hk3⟩
                 have HX3 := hid hx3
                 have HB3 := hid (hk3.below0 HBj.out HS.out)
                 clear hx3 hk3 HT1 HXj HBj)
              | (go_at_call 13; refine (HO0.out _ HX3.out).mono ?_; rintro e w4 ⟨a4, k4, rfl, hx4, hk4⟩
                 have HX4 := hid hx4
                 have HB4 := hid (hk4.below0 HB3.out.1 HS.out)
                 clear hx4 hk4 HO0 HX3 HB3)
              | (go_at_call 14; refine (HST.out _ HX4.out).mono ?_; rintro e w5 ⟨rfl, hw5⟩; subst hw5; clear HST)
              | (go_at_call 18; refine (HT2.out _ HX4.out).mono ?_; rintro e w6 ⟨rfl, hx6, hk6⟩
                 have HX6 := hid hx6
                 have HB6 := hid (hk6.below0 HB4.out.1 HS.out)
                 clear hx6 hk6 HT2 HX4 HB4)
              | (go_at_call 13; refine (HOR.out _ HX6.out).mono ?_; rintro e w7 ⟨b7, o7, k7, rfl, hk77, u4, hx7, hk7⟩
                 have HX7 := hid hx7
                 have HB7 := hid (hk7.below0 HB6.out.1 HS.out)
                 clear hx7 hk7 HOR HX6 HB6))
            go_region
            go_wp2
            go_roundw
            case rel => exact ⟨t2, T2, HTT.out.1, HTX.out.1, rfl, HX7.out.keep (fun b hb => rfl) (Nat.le_refl _), HB7.out.1.trans (below_drewN (Below.refl _ _) 1 |>.mono HB7.out.1.size)⟩
            case measure => have := HTT.out; have := HTX.out; simp [RowKit.intOf]; omega
      | true =>
        have hOP : ∀ W, Calls Try.prog 10 #[.int .u32 3, .int .u32 first, .int .i64 4000] W fun e w' => ∃ p S, e = .returned (.pointer (some ⟨p, 0, none⟩)) ∧ CnAt w' p S (sC 4 (a32 first 1) [] 4000 false) ∧ Below W.heap.size W w' ∧ ∀ b, S b → W.heap.size ≤ b := fun W => by have := opened_any W 3 first 4000 (by unfold IsU; omega) hf; rwa [open3] at this
        obtain ⟨U, hU⟩ : ∃ x, a32 first 1 = x := ⟨_, rfl⟩
        rw [hU] at hOP
        have HU : Hid (IsU U) := hid (by rw [← hU]; exact a32_u _ _)
        have HOP := hid hOP
        have HSD : Hid (∀ W p S, CnAt W p S (sC 4 U [] 4000 false) → Bytes W a l → Calls Try.prog 16 #[.pointer (some ⟨p, 0, none⟩), .slice a n c] W fun e w' => e = .returned (.int .i64 0) ∧ ∃ S', CnAt w' p S' (gC U l 0 0 0 false) ∧ Kp S W S' w') := hid (fun W p S h hb => by
          have := Send_at h rfl rfl a n c l HL.out hb (by show 0 + n ≤ 65536; omega)
          rwa [show ({ sC 4 U [] 4000 false with waits := (sC 4 U [] 4000 false).waits ++ l } : Cn) = gC U l 0 0 0 false from gC_sent U l HU.out] at this)
        have HOF : Hid (∀ W p S, CnAt W p S (gC U l 0 0 0 false) → Calls Try.prog 13 #[.pointer (some ⟨p, 0, none⟩)] W fun e w' => ∃ a cap, e = .returned (.slice a 1 cap) ∧ CnAt w' p S (gC U l n 0 0 false) ∧ Kp S W S w') := hid (fun W p S h => gC_OutF HU.out HL.out HN0.out HN9.out HBI.out h)
        clear hn hc hb h0 h9 hf hU hOP
        go_enter Try.func8, Try.ntmps8
        go_wp2_with (first
          | (go_at_call 9; refine HKN.out.mono ?_; rintro e w1 ⟨rfl, hb1⟩; have HB1 := hid hb1; clear hb1 HKN)
          | (go_at_call 22; refine (HNW.out _).mono ?_; rintro e w2 ⟨p1, S1, rfl, hx2, hb2, hs2⟩
             have HB2 := hid (HB1.out.trans (hb2.mono HB1.out.size))
             have HP1 := hid hx2
             clear hx2 hb2 hs2 HNW HB1)
          | (go_at_call 10; refine (HOP.out _).mono ?_; rintro e w3 ⟨p, S3, rfl, hx3, hb3, hs3⟩
             have HX3 := hid hx3
             have HB3 : Hid (Below w.heap.size w w3 ∧ ∀ b, S3 b → w.heap.size ≤ b) := hid ⟨HB2.out.trans (hb3.mono HB2.out.size), fun b hb => Nat.le_trans HB2.out.size (hs3 b hb)⟩
             clear hx3 hb3 hs3 HOP HB2 HP1)
          | (go_at_call 16; refine (HSD.out _ _ _ HX3.out (HBY.out.later HB3.out.1)).mono ?_; rintro e w4 ⟨rfl, S, hx4, hk4⟩
             have HX4 := hid hx4
             have HB4 := hid (hk4.below0 HB3.out.1 HB3.out.2)
             clear hx4 hk4 HSD HX3 HB3)
          | (go_at_call 13; refine (HOF.out _ _ _ HX4.out).mono ?_; rintro e w5 ⟨a5, k5, rfl, hx5, hk5⟩
             have HXL := hid hx5
             have HBL := hid (hk5.below0 HB4.out.1 HB4.out.2).1
             have HS := hid HB4.out.2
             clear hx5 hk5 HOF HX4 HB4))
        go_loopw [10, 11] (fun z10 _ wr => ∃ (t : Nat) (T : Int), t ≤ 5 ∧ T = (t : Int) ∧ z10 = .int .i64 T ∧ CnAt wr p S (gC U l n (t : Int) 0 false) ∧ Below w.heap.size w wr) (fun z10 _ _ => 6 - (RowKit.intOf z10).toNat)
        case atStart => exact ⟨0, 0, by omega, rfl, rfl, HXL.out, HBL.out⟩
        case round =>
          obtain ⟨t, T, ht, hTt, rfl, hx, hb⟩ := hrel
          have htl : T < 6 := by omega
          have HTt := hid hTt
          clear HXL HBL
          have HXj := hid hx
          have HBj := hid hb
          have hpb := P2_bd t ht
          have hsh : ∀ W, (Op.shift BinOp.shl IntKind.i64 200 IntKind.i64 T).run Try.prog W = .ok (.int .i64 (P2 t)) W := fun W => by rw [hTt]; have := shl200 (t : Int) (by omega) (by omega) W; rwa [Int.toNat_natCast] at this
          obtain ⟨P1, hP1⟩ : ∃ x, P2 t - 1 = x := ⟨_, rfl⟩
          have w1 : IntKind.i64.wrap (P2 t - 1) = P1 := by rw [IntWalk.i64_in _ (by omega)]; exact hP1
          have HT1 : Hid (∀ W, CnAt W p S (gC U l n (t : Int) 0 false) → Calls Try.prog 18 #[.pointer (some ⟨p, 0, none⟩), .int .i64 P1] W fun e w' => e = .returned undef ∧ CnAt w' p S (gC U l n t P1 false) ∧ Kp S W S w') := hid (fun W h => by rw [← hP1]; exact gC_Tick1 t ht HU.out HN0.out (by have := HN9.out; omega) h)
          have HO0 : Hid (∀ W, CnAt W p S (gC U l n t P1 false) → Calls Try.prog 13 #[.pointer (some ⟨p, 0, none⟩)] W fun e w' => ∃ a cap, e = .returned (.slice a 0 cap) ∧ CnAt w' p S (gC U l n t P1 false) ∧ Kp S W S w') := hid (fun W h => gC_Out0 HU.out HL.out HN9.out HBI.out _ _ h)
          have HST : Hid (∀ W, CnAt W p S (gC U l n t P1 false) → Calls Try.prog 14 #[.pointer (some ⟨p, 0, none⟩)] W fun e w' => e = .returned (.int .i64 2) ∧ w' = W) := hid (fun W h => State_at h)
          by_cases h5 : t = 5
          · have HT5 : Hid ((T == 5) = true) := hid (by simp; omega)
            have HT2 : Hid (∀ W, CnAt W p S (gC U l n (t : Int) P1 false) → Calls Try.prog 18 #[.pointer (some ⟨p, 0, none⟩), .int .i64 1] W fun e w' => e = .returned undef ∧ CnAt w' p S ({ breakS { (gC U l n (t : Int) P1 false) with ck := 0, tr := 6 } with gU := true }) ∧ Kp S W S w') := hid (fun W h => last_Tick (gC_waits U l n _ _ false HU.out HN0.out (by have := HN9.out; omega)) (by show (t : Int) = 5; omega) (by show P1 = P2 5 - 1; rw [← hP1, h5]) (by show (2 : Int) ≠ 5; omega) h)
            obtain ⟨CB, hCB⟩ : ∃ x, ({ breakS { (gC U l n (t : Int) P1 false) with ck := 0, tr := 6 } with gU := true } : Cn) = x := ⟨_, rfl⟩
            have HOG : Hid (∀ W, CnAt W p S CB → Calls Try.prog 13 #[.pointer (some ⟨p, 0, none⟩)] W fun e w' => ∃ b off cap, e = .returned (.slice (some ⟨b, off, none⟩) 1 cap) ∧ 1 ≤ cap ∧ w'.cell? ⟨b, off + 4, none⟩ = some (.int .i64 20) ∧ CnAt w' p S { CB with gU := false } ∧ Kp S W S w') := hid (fun W h => Out_gAt (by rw [← hCB]) (by rw [← hCB]; show (0 : Nat) ≤ 16384; omega) h)
            have HS5 : Hid (∀ W, CnAt W p S { CB with gU := false } → Calls Try.prog 14 #[.pointer (some ⟨p, 0, none⟩)] W fun e w' => e = .returned (.int .i64 5) ∧ w' = W) := hid (fun W h => by have := State_at h; rwa [show ({ CB with gU := false } : Cn).st = 5 by rw [← hCB]; rfl] at this)
            have HO5 : Hid (∀ W, CnAt W p S { CB with gU := false } → Calls Try.prog 13 #[.pointer (some ⟨p, 0, none⟩)] W fun e w' => ∃ a cap, e = .returned (.slice a 0 cap) ∧ Kp S W S w') := hid (fun W h => Out_0At (by rw [← hCB]; rfl) (by rw [← hCB]; exact ⟨rfl, rfl, rfl, rfl⟩) (by rw [← hCB]; rfl) (by rw [← hCB]; show (0 : Nat) ≤ 16384; omega) h)
            rw [hCB] at HT2
            clear hx hb hpb hP1 ht hCB hTt h5
            go_upto_region 26 with (first
              | (go_at_call 18; refine (HT1.out _ HXj.out).mono ?_; rintro e w3 ⟨rfl, hx3, hk3⟩
                 have HX3 := hid hx3
                 have HB3 := hid (hk3.below0 HBj.out HS.out)
                 clear hx3 hk3 HT1 HXj HBj)
              | (go_at_call 13; refine (HO0.out _ HX3.out).mono ?_; rintro e w4 ⟨a4, k4, rfl, hx4, hk4⟩
                 have HX4 := hid hx4
                 have HB4 := hid (hk4.below0 HB3.out.1 HS.out)
                 clear hx4 hk4 HO0 HX3 HB3)
              | (go_at_call 14; refine (HST.out _ HX4.out).mono ?_; rintro e w5 ⟨rfl, hw5⟩; subst hw5; clear HST)
              | (go_at_call 18; refine (HT2.out _ HX4.out).mono ?_; rintro e w6 ⟨rfl, hx6, hk6⟩
                 have HX6 := hid hx6
                 have HB6 := hid (hk6.below0 HB4.out.1 HS.out)
                 clear hx6 hk6 HT2 HX4 HB4)
              | (go_at_call 13; refine (HOG.out _ HX6.out).mono ?_; rintro e w7 ⟨b7, o7, k7, rfl, hk77, u4, hx7, hk7⟩
                 have HX7 := hid hx7
                 have HB7 := hid (hk7.below0 HB6.out.1 HS.out)
                 clear hx7 hk7 HOG HX6 HB6))
            have hT5 := HT5.out
            go_wp2_with (first
              | (go_at_call 14; refine (HS5.out _ HX7.out).mono ?_; rintro e w8 ⟨rfl, hw8⟩; subst hw8; clear HS5)
              | (go_at_call 13; refine (HO5.out _ HX7.out).mono ?_; rintro e w9 ⟨a9, k9, rfl, hk9⟩
                 have HB9 := hid (hk9.below0 HB7.out.1 HS.out)
                 clear hk9 HO5 HX7 HB7))
            go_ret
            exact ⟨rfl, HB9.out.1⟩
          · have ht5 : t < 5 := by omega
            have hte : (T == 5) = false := by simp; omega
            obtain ⟨t2, ht2⟩ : ∃ x, x = t + 1 := ⟨_, rfl⟩
            obtain ⟨T2, hT2⟩ : ∃ x, x = T + 1 := ⟨_, rfl⟩
            have hti : IntKind.i64.wrap (T + 1) = T2 := by rw [IntWalk.i64_in _ (by omega)]; omega
            have HT2 : Hid (∀ W, CnAt W p S (gC U l n t P1 false) → Calls Try.prog 18 #[.pointer (some ⟨p, 0, none⟩), .int .i64 1] W fun e w' => e = .returned undef ∧ CnAt w' p S (gC U l n (t2 : Int) 0 true) ∧ Kp S W S w') := hid (fun W h => by rw [ht2]; rw [← hP1] at h; exact gC_Tick2 t ht5 HU.out HN0.out (by have := HN9.out; omega) h)
            have HTX : Hid (T2 = (t2 : Int) ∧ T2 = T + 1) := hid ⟨by omega, hT2⟩
            have HOR : Hid (∀ W, CnAt W p S (gC U l n (t2 : Int) 0 true) → Calls Try.prog 13 #[.pointer (some ⟨p, 0, none⟩)] W fun e w' => ∃ b off cap a2 c2, e = .returned (.slice (some ⟨b, off, none⟩) 1 cap) ∧ 1 ≤ cap ∧ w'.cell? ⟨b, off + 4, none⟩ = some (.int .i64 16) ∧ w'.cell? ⟨b, off + 7, none⟩ = some (.slice a2 n c2) ∧ Bytes w' a2 l ∧ CnAt w' p S (gC U l n (t2 : Int) 0 false) ∧ Kp S W S w') := hid (fun W h => gC_OutR HU.out HL.out HN0.out HN9.out HBI.out _ _ h)
            have HTT : Hid (t2 ≤ 5 ∧ t2 = t + 1 ∧ 0 ≤ T ∧ T ≤ 4) := hid ⟨by omega, ht2, by omega, by omega⟩
            clear hx hb hpb hP1 ht h5 ht2 ht5 hTt hT2
            go_upto_region 28 with (first
              | (go_at_call 18; refine (HT1.out _ HXj.out).mono ?_; rintro e w3 ⟨rfl, hx3, hk3⟩
                 have HX3 := hid hx3
                 have HB3 := hid (hk3.below0 HBj.out HS.out)
                 clear hx3 hk3 HT1 HXj HBj)
              | (go_at_call 13; refine (HO0.out _ HX3.out).mono ?_; rintro e w4 ⟨a4, k4, rfl, hx4, hk4⟩
                 have HX4 := hid hx4
                 have HB4 := hid (hk4.below0 HB3.out.1 HS.out)
                 clear hx4 hk4 HO0 HX3 HB3)
              | (go_at_call 14; refine (HST.out _ HX4.out).mono ?_; rintro e w5 ⟨rfl, hw5⟩; subst hw5; clear HST)
              | (go_at_call 18; refine (HT2.out _ HX4.out).mono ?_; rintro e w6 ⟨rfl, hx6, hk6⟩
                 have HX6 := hid hx6
                 have HB6 := hid (hk6.below0 HB4.out.1 HS.out)
                 clear hx6 hk6 HT2 HX4 HB4)
              | (go_at_call 13; refine (HOR.out _ HX6.out).mono ?_; rintro e w7 ⟨b7, o7, k7, a7, c7, rfl, hk77, u4, u7, hy7, hx7, hk7⟩
                 have HX7 := hid hx7
                 have HB7 := hid (hk7.below0 HB6.out.1 HS.out)
                 have cv1 : ∀ q : Nat, (convert 28 9 (.slice a7 n c7)).run Try.prog (w7.drewN q) = .ok (.string (strOfNums l)) (w7.drewN q) := bytes_conv hy7 HL.out
                 have cv2 : ∀ q : Nat, (convert 28 9 (.slice a n c)).run Try.prog (w7.drewN q) = .ok (.string (strOfNums l)) (w7.drewN q) := bytes_conv (HBY.out.later HB7.out.1) HL.out
                 have cv3 := cv1 1
                 have cv4 := cv2 1
                 clear hx7 hk7 hy7 HOR HX6 HB6))
            try simp only [Act.put]
            refine wp_region_held_drew (S := fun w' => w' = w7.drew) (by kernel_rfl) rfl (fun hS => ?_)
            obtain ⟨v0, hv0⟩ : ∃ W, W = w7.drew := ⟨_, rfl⟩
            rw [← hv0] at hS ⊢
            have x4 : v0.cell? ⟨b7, o7 + 4, none⟩ = some (.int .i64 16) := by rw [hv0]; exact u4
            have x7 : v0.cell? ⟨b7, o7 + 7, none⟩ = some (.slice a7 n c7) := by rw [hv0]; exact u7
            have cvA : (convert 28 9 (.slice a7 n c7)).run Try.prog v0 = .ok (.string (strOfNums l)) v0 := by rw [hv0]; exact cv3
            have cvB : (convert 28 9 (.slice a n c)).run Try.prog v0 = .ok (.string (strOfNums l)) v0 := by rw [hv0]; exact cv4
            have HV0 := hid hv0
            clear hv0 hS cv1 cv2 cv3 cv4 u4 u7
            refine nany_take 0 92 (.slice (some ⟨b7, o7, none⟩) 1 k7) rfl rfl (by kernel_rfl) (by kernel_rfl) (by kernel_rfl) (fun _ _ _ h => h) (Or.inl ⟨by rfl, ?_⟩) rfl ?_
            · rintro w' rfl
              go_simp
            simp only [List.setIfInBounds_toArray, List.set_cons_zero, List.set_cons_succ]
            refine nany_take 1 93 (.pointer (some ⟨b7, o7, none⟩)) rfl rfl (by kernel_rfl) (by kernel_rfl) (by kernel_rfl) (fun _ _ _ h => h) (Or.inl ⟨by rfl, ?_⟩) rfl ?_
            · rintro w' rfl
              go_simp
            simp only [List.setIfInBounds_toArray, List.set_cons_zero, List.set_cons_succ]
            refine nany_take 2 94 (.pointer (some ⟨b7, o7 + 4, none⟩)) rfl rfl (by kernel_rfl) (by kernel_rfl) (by kernel_rfl) (fun _ _ _ h => h) (Or.inl ⟨by rfl, ?_⟩) rfl ?_
            · rintro w' rfl
              go_simp
            simp only [List.setIfInBounds_toArray, List.set_cons_zero, List.set_cons_succ]
            refine nany_take 3 95 (.int .i64 16) rfl rfl (by kernel_rfl) (by kernel_rfl) (by kernel_rfl) (fun _ _ _ h => h) (Or.inl ⟨by rfl, ?_⟩) rfl ?_
            · rintro w' rfl
              go_simp
            simp only [List.setIfInBounds_toArray, List.set_cons_zero, List.set_cons_succ]
            refine nany_take 4 96 (.int .i64 16) rfl rfl (by kernel_rfl) (by kernel_rfl) (by kernel_rfl) (fun _ _ _ h => h) (Or.inl ⟨by rfl, ?_⟩) rfl ?_
            · rintro w' rfl
              go_simp
            simp only [List.setIfInBounds_toArray, List.set_cons_zero, List.set_cons_succ]
            refine nany_take 5 97 (.bool false) rfl rfl (by kernel_rfl) (by kernel_rfl) (by kernel_rfl) (fun _ _ _ h => h) (Or.inl ⟨by rfl, ?_⟩) rfl ?_
            · rintro w' rfl
              go_simp
            simp only [List.setIfInBounds_toArray, List.set_cons_zero, List.set_cons_succ]
            refine nany_take 6 98 (.bool false) rfl rfl (by kernel_rfl) (by kernel_rfl) (by kernel_rfl) (fun _ _ _ h => h) (Or.inl ⟨by rfl, ?_⟩) rfl ?_
            · rintro w' rfl
              go_simp
            simp only [List.setIfInBounds_toArray, List.set_cons_zero, List.set_cons_succ]
            refine nany_take 7 99 (.bool true) rfl rfl (by kernel_rfl) (by kernel_rfl) (by kernel_rfl) (fun _ _ _ h => h) (Or.inl ⟨by rfl, ?_⟩) rfl ?_
            · rintro w' rfl
              go_simp
            simp only [List.setIfInBounds_toArray, List.set_cons_zero, List.set_cons_succ]
            refine nany_take 8 100 (.bool true) rfl rfl (by kernel_rfl) (by kernel_rfl) (by kernel_rfl) (fun _ _ _ h => h) (Or.inl ⟨by rfl, ?_⟩) rfl ?_
            · rintro w' rfl
              go_simp
            simp only [List.setIfInBounds_toArray, List.set_cons_zero, List.set_cons_succ]
            refine nany_take 9 101 (.slice (some ⟨b7, o7, none⟩) 1 k7) rfl rfl (by kernel_rfl) (by kernel_rfl) (by kernel_rfl) (fun _ _ _ h => h) (Or.inl ⟨by rfl, ?_⟩) rfl ?_
            · rintro w' rfl
              go_simp
            simp only [List.setIfInBounds_toArray, List.set_cons_zero, List.set_cons_succ]
            refine nany_take 10 102 (.pointer (some ⟨b7, o7, none⟩)) rfl rfl (by kernel_rfl) (by kernel_rfl) (by kernel_rfl) (fun _ _ _ h => h) (Or.inl ⟨by rfl, ?_⟩) rfl ?_
            · rintro w' rfl
              go_simp
            simp only [List.setIfInBounds_toArray, List.set_cons_zero, List.set_cons_succ]
            refine nany_take 11 103 (.pointer (some ⟨b7, o7 + 7, none⟩)) rfl rfl (by kernel_rfl) (by kernel_rfl) (by kernel_rfl) (fun _ _ _ h => h) (Or.inl ⟨by rfl, ?_⟩) rfl ?_
            · rintro w' rfl
              go_simp
            simp only [List.setIfInBounds_toArray, List.set_cons_zero, List.set_cons_succ]
            refine nany_take 12 104 (.slice a7 n c7) rfl rfl (by kernel_rfl) (by kernel_rfl) (by kernel_rfl) (fun _ _ _ h => h) (Or.inl ⟨by rfl, ?_⟩) rfl ?_
            · rintro w' rfl
              go_simp
            simp only [List.setIfInBounds_toArray, List.set_cons_zero, List.set_cons_succ]
            refine nany_take 13 105 (.string (strOfNums l)) rfl rfl (by kernel_rfl) (by kernel_rfl) (by kernel_rfl) (fun _ _ _ h => h) (Or.inl ⟨by rfl, ?_⟩) rfl ?_
            · rintro w' rfl
              go_simp
            simp only [List.setIfInBounds_toArray, List.set_cons_zero, List.set_cons_succ]
            refine nany_take 14 106 (.slice a n c) rfl rfl (by kernel_rfl) (by kernel_rfl) (by kernel_rfl) (fun _ _ _ h => h) (Or.inl ⟨by rfl, ?_⟩) rfl ?_
            · rintro w' rfl
              go_simp
            simp only [List.setIfInBounds_toArray, List.set_cons_zero, List.set_cons_succ]
            refine nany_take 15 107 (.string (strOfNums l)) rfl rfl (by kernel_rfl) (by kernel_rfl) (by kernel_rfl) (fun _ _ _ h => h) (Or.inl ⟨by rfl, ?_⟩) rfl ?_
            · rintro w' rfl
              go_simp
            simp only [List.setIfInBounds_toArray, List.set_cons_zero, List.set_cons_succ]
            refine nany_take 16 108 (.bool false) rfl rfl (by kernel_rfl) (by kernel_rfl) (by kernel_rfl) (fun _ _ _ h => h) (Or.inl ⟨by rfl, ?_⟩) rfl ?_
            · rintro w' rfl
              go_simp
            simp only [List.setIfInBounds_toArray, List.set_cons_zero, List.set_cons_succ]
            refine nany_take 17 109 (.bool false) rfl rfl (by kernel_rfl) (by kernel_rfl) (by kernel_rfl) (fun _ _ _ h => h) (Or.inl ⟨by rfl, ?_⟩) rfl ?_
            · rintro w' rfl
              go_simp
            simp only [List.setIfInBounds_toArray, List.set_cons_zero, List.set_cons_succ]
            refine nany_take 18 110 (.bool false) rfl rfl (by kernel_rfl) (by kernel_rfl) (by kernel_rfl) (fun _ _ _ h => h) (Or.inl ⟨by rfl, ?_⟩) rfl ?_
            · rintro w' rfl
              go_simp
            simp only [List.setIfInBounds_toArray, List.set_cons_zero, List.set_cons_succ]
            refine wpAnyH_done (by kernel_rfl) ?_ _
            go_wp2
            go_roundw
            case rel => exact ⟨t2, T2, HTT.out.1, HTX.out.1, rfl, by rw [HV0.out]; exact HX7.out.keep (fun b hb => rfl) (Nat.le_refl _), by rw [HV0.out]; exact HB7.out.1.trans (below_drewN (Below.refl _ _) 1 |>.mono HB7.out.1.size)⟩
            case measure => have := HTT.out; have := HTX.out; simp [RowKit.intOf]; omega
    · have hn9 : 900 < n := by omega
      have hn0 : ((n : Int) == 0) = false := by simp; omega
      clear hn hc hb hf h0 h9
      go_enter Try.func8, Try.ntmps8
      go_wp2_with (go_at_call 9; refine HKN.out.mono ?_; rintro e w1 ⟨rfl, hb1⟩; have HB1 := hid hb1; clear hb1 HKN)
      go_ret
      exact ⟨rfl, HB1.out⟩
end Go.Proofs.Ytmmijbiapflneaa
