/- TcpGives: a connection that is never answered, by its states. -/
import Derived.Test.YtmmijbiapflneaaTkF
import Derived.Test.YtmmijbiapflneaaTkG
import Derived.Test.YtmmijbiapflneaaTkA
import Derived.Test.YtmmijbiapflneaaTjB
namespace Go.Proofs.Ytmmijbiapflneaa
open Go.RowKit Go.Maps
set_option linter.unusedVariables false
/-- Open: A of the bytes d are sent, t tries were made. -/
def gC (U : Int) (d : List Int) (A : Nat) (t ck : Int) (ag : Bool) : Cn := ⟨4, [], fun _ => none, 0, true, false, 0, U, a32 U A, d, 4000, 1000, ck, t, ag, false, 2049, 7, 2, false, false, false⟩
/-- Opening. -/
def hC (U : Int) (t ck : Int) (oA : Bool) : Cn := ⟨4, [], fun _ => none, 0, true, false, 0, U, a32 U 1, [], 4000, 1000, ck, t, false, false, 2049, 7, 1, oA, false, false⟩
/-- 200 times 2 to the t. -/
def P2 (t : Nat) : Int := 200 * 2 ^ t
theorem P2_bd (t : Nat) (h : t ≤ 5) : 200 ≤ P2 t ∧ P2 t ≤ 6400 := by
  have := pow_le (t : Int) (by omega) (by omega)
  unfold P2
  simp at this
  omega
theorem ne_step {U : Int} {n : Nat} (hU : IsU U) (h0 : 0 < n) (h1 : n ≤ 65536) : (U == a32 U n) = false := by
  simp only [beq_eq_false_iff_ne, ne_eq]
  unfold a32 IsU at *
  omega
theorem gC_waits (U : Int) (d : List Int) (n : Nat) (t ck : Int) (ag : Bool) (hU : IsU U) (h0 : 0 < n) (h1 : n ≤ 65536) : awaitsB (gC U d n t ck ag) = true := by
  unfold awaitsB
  show (!(U == a32 U n) || _) = true
  rw [ne_step hU h0 h1]
  rfl
theorem hC_waits (U : Int) (t ck : Int) (oA : Bool) (hU : IsU U) : awaitsB (hC U t ck oA) = true := by
  unfold awaitsB
  show (!(U == a32 U 1) || _) = true
  have := ne_step (n := 1) hU (by omega) (by omega)
  rw [show ((1 : Nat) : Int) = 1 from rfl] at this
  rw [this]
  rfl
theorem time_wait {c : Cn} {t : Nat} (ht : c.tr = t) (hck : c.ck = 0) : timeC c (P2 t - 1) = false ∧ (0 : Int) ≤ 0 := by
  unfold timeC P2
  rw [ht, hck]
  simp
  omega
theorem time_now {c : Cn} {t : Nat} (ht : c.tr = t) (hck : c.ck = P2 t - 1) : timeC c 1 = true := by
  unfold timeC
  rw [ht, hck]
  unfold P2
  simp
  omega
section
variable {W : World} {p : Nat} {S : Nat → Prop} {U : Int} {d : List Int} {n : Nat}
theorem gC_Tick1 (t : Nat) (ht : t ≤ 5) (hU : IsU U) (h0 : 0 < n) (h1 : n ≤ 65536) (h : CnAt W p S (gC U d n t 0 false)) :
    Calls Try.prog 18 #[.pointer (some ⟨p, 0, none⟩), .int .i64 (P2 t - 1)] W fun e w' => e = .returned undef ∧ CnAt w' p S (gC U d n t (P2 t - 1) false) ∧ Kp S W S w' := by
  obtain ⟨vc, vm, vw, hx⟩ := h
  have hb := P2_bd t ht
  have htm := (time_wait (c := gC U d n t 0 false) (t := t) rfl rfl).1
  have := Tick_wait hx (by show 0 ≤ (t : Int) ∧ (t : Int) ≤ 5; omega) (by show (0 : Int) ≤ 0 ∧ (0 : Int) ≤ 6400; omega) (P2 t - 1) (by unfold II; omega) (by show (2 : Int) ≠ 5; omega) (gC_waits U d n t 0 false hU h0 h1) htm
  refine this.mono ?_
  rintro e w' ⟨h1, h2, h3⟩
  refine ⟨h1, ⟨vc, vm, vw, ?_⟩, h3⟩
  have e : tickedC (gC U d n t 0 false) (P2 t - 1) = gC U d n t (P2 t - 1) false := by
    unfold tickedC
    rw [htm]
    show gC U d n t (0 + max (P2 t - 1) 0) false = _
    rw [show (0 : Int) + max (P2 t - 1) 0 = P2 t - 1 by omega]
  rwa [e] at h2
theorem hC_Tick1 (t : Nat) (ht : t ≤ 5) (hU : IsU U) (h : CnAt W p S (hC U t 0 false)) :
    Calls Try.prog 18 #[.pointer (some ⟨p, 0, none⟩), .int .i64 (P2 t - 1)] W fun e w' => e = .returned undef ∧ CnAt w' p S (hC U t (P2 t - 1) false) ∧ Kp S W S w' := by
  obtain ⟨vc, vm, vw, hx⟩ := h
  have hb := P2_bd t ht
  have htm := (time_wait (c := hC U t 0 false) (t := t) rfl rfl).1
  have := Tick_wait hx (by show 0 ≤ (t : Int) ∧ (t : Int) ≤ 5; omega) (by show (0 : Int) ≤ 0 ∧ (0 : Int) ≤ 6400; omega) (P2 t - 1) (by unfold II; omega) (by show (1 : Int) ≠ 5; omega) (hC_waits U t 0 false hU) htm
  refine this.mono ?_
  rintro e w' ⟨h1, h2, h3⟩
  refine ⟨h1, ⟨vc, vm, vw, ?_⟩, h3⟩
  have e : tickedC (hC U t 0 false) (P2 t - 1) = hC U t (P2 t - 1) false := by
    unfold tickedC
    rw [htm]
    show hC U t (0 + max (P2 t - 1) 0) false = _
    rw [show (0 : Int) + max (P2 t - 1) 0 = P2 t - 1 by omega]
  rwa [e] at h2
theorem gC_Tick2 (t : Nat) (ht : t < 5) (hU : IsU U) (h0 : 0 < n) (h1 : n ≤ 65536) (h : CnAt W p S (gC U d n t (P2 t - 1) false)) :
    Calls Try.prog 18 #[.pointer (some ⟨p, 0, none⟩), .int .i64 1] W fun e w' => e = .returned undef ∧ CnAt w' p S (gC U d n ((t + 1 : Nat) : Int) 0 true) ∧ Kp S W S w' := by
  obtain ⟨vc, vm, vw, hx⟩ := h
  have hb := P2_bd t (by omega)
  have htm := time_now (c := gC U d n t (P2 t - 1) false) (t := t) rfl rfl
  have := Tick_again hx (by show 0 ≤ (t : Int) ∧ (t : Int) ≤ 5; omega) (by show (0 : Int) ≤ P2 t - 1 ∧ P2 t - 1 ≤ 6400; omega) 1 (by unfold II; omega) (by show (2 : Int) ≠ 5; omega) (gC_waits U d n t _ false hU h0 h1) htm (by show (t : Int) + 1 ≠ 6; omega) (by show (2 : Int) ≠ 1; omega)
  exact this.mono (fun e w' ⟨h1, h2, h3⟩ => ⟨h1, ⟨vc, vm, vw, h2⟩, h3⟩)
theorem hC_Tick2 (t : Nat) (ht : t < 5) (hU : IsU U) (h : CnAt W p S (hC U t (P2 t - 1) false)) :
    Calls Try.prog 18 #[.pointer (some ⟨p, 0, none⟩), .int .i64 1] W fun e w' => e = .returned undef ∧ CnAt w' p S (hC U ((t + 1 : Nat) : Int) 0 true) ∧ Kp S W S w' := by
  obtain ⟨vc, vm, vw, hx⟩ := h
  have hb := P2_bd t (by omega)
  have htm := time_now (c := hC U t (P2 t - 1) false) (t := t) rfl rfl
  have := Tick_open hx (by show 0 ≤ (t : Int) ∧ (t : Int) ≤ 5; omega) (by show (0 : Int) ≤ P2 t - 1 ∧ P2 t - 1 ≤ 6400; omega) 1 (by unfold II; omega) (by show (1 : Int) ≠ 5; omega) (hC_waits U t _ false hU) htm (by show (t : Int) + 1 ≠ 6; omega) rfl
  exact this.mono (fun e w' ⟨h1, h2, h3⟩ => ⟨h1, ⟨vc, vm, vw, h2⟩, h3⟩)
/-- The sixth try: it gives up, tells it once, and is closed. -/
theorem last_Tick {c : Cn} (hU : awaitsB c = true) (htr : c.tr = 5) (hck : c.ck = P2 5 - 1) (hst : c.st ≠ 5) (h : CnAt W p S c) :
    Calls Try.prog 18 #[.pointer (some ⟨p, 0, none⟩), .int .i64 1] W fun e w' => e = .returned undef ∧ CnAt w' p S { breakS { c with ck := 0, tr := 6 } with gU := true } ∧ Kp S W S w' := by
  obtain ⟨vc, vm, vw, hx⟩ := h
  have hb := P2_bd 5 (by omega)
  have := Tick_over hx (by rw [htr]; omega) (by rw [hck]; omega) 1 (by unfold II; omega) hst hU (time_now (t := 5) htr hck) (by rw [htr]; rfl)
  exact this.mono (fun e w' ⟨h1, h2, h3⟩ => ⟨h1, ⟨_, _, _, h2⟩, h3⟩)
theorem Out_gAt {c : Cn} (hgU : c.gU = true) (hcl : c.came.length ≤ 16384) (h : CnAt W p S c) :
    Calls Try.prog 13 #[.pointer (some ⟨p, 0, none⟩)] W fun e w' => ∃ b off cap, e = .returned (.slice (some ⟨b, off, none⟩) 1 cap) ∧ 1 ≤ cap ∧ w'.cell? ⟨b, off + 4, none⟩ = some (.int .i64 20) ∧ CnAt w' p S { c with gU := false } ∧ Kp S W S w' := by
  obtain ⟨vc, vm, vw, hx⟩ := h
  exact (Out_g hx hgU hcl).mono (fun e w' ⟨b, off, cap, h1, h2, h3, h4, h5⟩ => ⟨b, off, cap, h1, h2, h3, ⟨_, _, _, h4⟩, h5⟩)
theorem Out_0At {c : Cn} (hst : c.st = 5) (hq : c.gU = false ∧ c.ag = false ∧ c.ov = false ∧ c.oK = false) (hw : c.waits = []) (hcl : c.came.length ≤ 16384) (h : CnAt W p S c) :
    Calls Try.prog 13 #[.pointer (some ⟨p, 0, none⟩)] W fun e w' => ∃ a cap, e = .returned (.slice a 0 cap) ∧ Kp S W S w' := by
  obtain ⟨vc, vm, vw, hx⟩ := h
  refine (Out_q9 hx 5 rfl rfl rfl c.oA ⟨hq.1, hq.2.1, hq.2.2.1, hst, rfl, hq.2.2.2⟩ hcl hw).mono ?_
  intro e w' hop
  have ho : outQ c = [] := by unfold outQ; rw [if_neg (fun e => by rw [hst] at e; exact absurd e.1 (by decide)), if_neg (by rw [hq.2.2.2]; simp)]
  obtain ⟨a, cap, rfl, _, hk2⟩ := hop.zero ho
  exact ⟨a, cap, rfl, hk2⟩
theorem State_at {c : Cn} (h : CnAt W p S c) : Calls Try.prog 14 #[.pointer (some ⟨p, 0, none⟩)] W fun e w' => e = .returned (.int .i64 c.st) ∧ w' = W := by
  obtain ⟨vc, vm, vw, hx⟩ := h
  exact State_any hx
theorem hC_Out0 (t ck : Int) (h : CnAt W p S (hC U t ck false)) : Calls Try.prog 13 #[.pointer (some ⟨p, 0, none⟩)] W fun e w' => ∃ a cap, e = .returned (.slice a 0 cap) ∧ CnAt w' p S (hC U t ck false) ∧ Kp S W S w' := by
  obtain ⟨vc, vm, vw, hx⟩ := h
  refine (Out_q1 hx ⟨rfl, rfl, rfl, rfl, rfl, rfl⟩ (by show (0 : Nat) ≤ 16384; omega) rfl).mono ?_
  intro e w' hop
  obtain ⟨a, cap, rfl, hx2, hk2⟩ := hop.zero rfl
  exact ⟨a, cap, rfl, ⟨vc, vm, vw, hx2⟩, hk2⟩
theorem hC_Out1 (t ck : Int) (h : CnAt W p S (hC U t ck true)) : Calls Try.prog 13 #[.pointer (some ⟨p, 0, none⟩)] W fun e w' => ∃ b off cap, e = .returned (.slice (some ⟨b, off, none⟩) 1 cap) ∧ 1 ≤ cap ∧ w'.cell? ⟨b, off + 4, none⟩ = some (.int .i64 18) ∧ CnAt w' p S (hC U t ck false) ∧ Kp S W S w' := by
  obtain ⟨vc, vm, vw, hx⟩ := h
  refine (Out_q1a hx ⟨rfl, rfl, rfl, rfl, rfl, rfl⟩ (by show (0 : Nat) ≤ 16384; omega) rfl).mono ?_
  intro e w' hop
  obtain ⟨b, off, cap, a2, c2, rfl, hcell, _, hcap, _, hx2, hk2⟩ := hop.one (x := answerS (hC U t ck true)) rfl
  exact ⟨b, off, cap, rfl, hcap, hcell 4 _ rfl, ⟨vc, vm, vw, hx2⟩, hk2⟩
end
end Go.Proofs.Ytmmijbiapflneaa
