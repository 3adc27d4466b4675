/- Out of such a connection. -/
import Derived.Test.YtmmijbiapflneaaTkH
namespace Go.Proofs.Ytmmijbiapflneaa
open Go.RowKit Go.Maps
set_option linter.unusedVariables false
theorem OutP.one {w w' : World} {p : Nat} {S : Nat → Prop} {c' : Cn} {vc vm vw : Value} {e : Ending} {x : Sg} (h : OutP w p S c' [x] vc vm vw e w') : ∃ b off cap a2 c2, e = .returned (.slice (some ⟨b, off, none⟩) 1 cap) ∧ 1 ≤ cap ∧ (∀ j u, (sxV ⟨x, a2, c2⟩)[j]? = some u → w'.cell? ⟨b, off + j, none⟩ = some u) ∧ By w' (fun y => w.heap.size ≤ y) a2 x.dat ∧ CnX w' p S c' vc vm vw ∧ Kp S w S w' := by
  obtain ⟨v, L, rfl, hsl, hL, hX, hK⟩ := h
  obtain ⟨a2, c2, rfl⟩ := map_one hL
  obtain ⟨b, off, cap, rfl, hc, hb, hcell, hby, _⟩ := hsl.at_ (i := 0) (by simp)
  refine ⟨b, off, cap, a2, c2, rfl, hc, fun j u hj => ?_, hby, hX, hK⟩
  have := hcell j u hj
  rwa [Nat.zero_mul, Nat.zero_add] at this
theorem OutP.zero {w w' : World} {p : Nat} {S : Nat → Prop} {c' : Cn} {vc vm vw : Value} {e : Ending} (h : OutP w p S c' [] vc vm vw e w') : ∃ a cap, e = .returned (.slice a 0 cap) ∧ CnX w' p S c' vc vm vw ∧ Kp S w S w' := by
  obtain ⟨v, L, rfl, hsl, hL, hX, hK⟩ := h
  obtain rfl : L = [] := by cases L with
    | nil => rfl
    | cons y l => simp at hL
  obtain ⟨a, c, rfl⟩ := hsl.slice
  exact ⟨a, c, rfl, hX, hK⟩
section
variable {W : World} {p : Nat} {S : Nat → Prop} {U : Int} {d : List Int} {n : Nat}
theorem gC_first (hn : d.length = n) (h0 : 0 < n) (h9 : n ≤ 900) (t ck : Int) (ag : Bool) : ∃ x, freshL (gC U d 0 t ck ag) ((gC U d 0 t ck ag).waits.length - 0) 0 = ([x], n) := by
  have hl : (gC U d 0 t ck ag).waits.length = n := hn
  have hst := freshL_step (c := gC U d 0 t ck ag) (A := 0) (by show (1 : Int) ≤ 1000; omega) (by rw [hl]; exact h0) (by show ((0 : Nat) : Int) < 4000; omega)
  have hE : endC (gC U d 0 t ck ag) 0 = n := by
    unfold endC
    rw [hl]
    show min (min (n : Int) ((0 : Nat) + 1000)) 4000 = n
    omega
  rw [hE, Int.toNat_natCast] at hst
  have h2 : freshL (gC U d 0 t ck ag) ((gC U d 0 t ck ag).waits.length - n) n = ([], n) := freshL_stop (fun e => by rw [hl] at e; omega)
  rw [h2] at hst
  exact ⟨_, hst⟩
theorem gC_done (hn : d.length = n) (t ck : Int) (ag : Bool) : freshL (gC U d n t ck ag) ((gC U d n t ck ag).waits.length - n) n = ([], n) := freshL_stop (fun e => by
  have hl : (gC U d n t ck ag).waits.length = n := hn
  rw [hl] at e; omega)
theorem gC_OutF (hU : IsU U) (hn : d.length = n) (h0 : 0 < n) (h9 : n ≤ 900) (hb : ∀ x ∈ d, IsB x) (h : CnAt W p S (gC U d 0 0 0 false)) :
    Calls Try.prog 13 #[.pointer (some ⟨p, 0, none⟩)] W fun e w' => ∃ a cap, e = .returned (.slice a 1 cap) ∧ CnAt w' p S (gC U d n 0 0 false) ∧ Kp S W S w' := by
  obtain ⟨vc, vm, vw, hx⟩ := h
  obtain ⟨x, hf⟩ := gC_first (U := U) hn h0 h9 0 0 false
  have hl : (gC U d 0 0 0 false).waits.length = n := hn
  refine (Out_f1 hx rfl rfl rfl rfl (by show (0 : Nat) ≤ 16384; omega) (by show (1 : Int) ≤ 1000 ∧ (1000 : Int) ≤ 65535; omega) hU 0 rfl (by omega) (by rw [hl]; omega) hb x n hf).mono ?_
  intro e w' hop
  obtain ⟨b, off, cap, a2, c2, rfl, _, _, _, hx2, hk2⟩ := hop.one
  exact ⟨_, cap, rfl, ⟨vc, vm, vw, hx2⟩, hk2⟩
theorem gC_Out0 (hU : IsU U) (hn : d.length = n) (h9 : n ≤ 900) (hb : ∀ x ∈ d, IsB x) (t ck : Int) (h : CnAt W p S (gC U d n t ck false)) :
    Calls Try.prog 13 #[.pointer (some ⟨p, 0, none⟩)] W fun e w' => ∃ a cap, e = .returned (.slice a 0 cap) ∧ CnAt w' p S (gC U d n t ck false) ∧ Kp S W S w' := by
  obtain ⟨vc, vm, vw, hx⟩ := h
  have hl : (gC U d n t ck false).waits.length = n := hn
  refine (Out_f0 hx rfl rfl rfl rfl (by show (0 : Nat) ≤ 16384; omega) (by show (1 : Int) ≤ 1000 ∧ (1000 : Int) ≤ 65535; omega) hU n rfl (by omega) (by rw [hl]; omega) hb rfl (gC_done hn t ck false)).mono ?_
  intro e w' hop
  obtain ⟨a, cap, rfl, hx2, hk2⟩ := hop.zero
  exact ⟨a, cap, rfl, ⟨vc, vm, vw, hx2⟩, hk2⟩
theorem gC_OutR (hU : IsU U) (hn : d.length = n) (h0 : 0 < n) (h9 : n ≤ 900) (hb : ∀ x ∈ d, IsB x) (t ck : Int) (h : CnAt W p S (gC U d n t ck true)) :
    Calls Try.prog 13 #[.pointer (some ⟨p, 0, none⟩)] W fun e w' => ∃ b off cap a2 c2, e = .returned (.slice (some ⟨b, off, none⟩) 1 cap) ∧ 1 ≤ cap ∧ w'.cell? ⟨b, off + 4, none⟩ = some (.int .i64 16) ∧ w'.cell? ⟨b, off + 7, none⟩ = some (.slice a2 n c2) ∧ Bytes w' a2 d ∧ CnAt w' p S (gC U d n t ck false) ∧ Kp S W S w' := by
  obtain ⟨vc, vm, vw, hx⟩ := h
  have hl : (gC U d n t ck true).waits.length = n := hn
  have hm : ((n : Nat) : Int) = min (n : Int) (gC U d n t ck true).M := by
    show (n : Int) = min (n : Int) 1000
    omega
  refine (Out_r hx rfl rfl rfl rfl (by show (0 : Nat) ≤ 16384; omega) (by show (1 : Int) ≤ 1000 ∧ (1000 : Int) ≤ 65535; omega) hU n rfl (by omega) (by rw [hl]; omega) hb (gC_done hn t ck true) h0 n hm).mono ?_
  intro e w' hop
  obtain ⟨b, off, cap, a2, c2, rfl, hcap, hcell, hby, hx2, hk2⟩ := hop.one
  have ht : (gC U d n t ck true).waits.take n = d := List.take_of_length_le (by rw [hl]; exact Nat.le_refl _)
  have h7 := hcell 7 _ rfl
  have hby2 := hby.bytes
  have e1 : (segOf (gC U d n t ck true) 16 (gC U d n t ck true).U ((gC U d n t ck true).waits.take n)).dat = d := ht
  rw [e1] at hby2
  refine ⟨b, off, cap, a2, c2, rfl, hcap, hcell 4 _ rfl, ?_, hby2, ⟨vc, vm, vw, hx2⟩, hk2⟩
  have e2 : (segOf (gC U d n t ck true) 16 (gC U d n t ck true).U ((gC U d n t ck true).waits.take n)).dat.length = n := by rw [e1]; exact hn
  rw [e2] at h7
  exact h7
end
end Go.Proofs.Ytmmijbiapflneaa
