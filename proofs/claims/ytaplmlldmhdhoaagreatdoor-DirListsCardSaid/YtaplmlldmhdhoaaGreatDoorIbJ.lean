/- write. -/
import Derived.Test.YtaplmlldmhdhoaaGreatDoorIbI
namespace Go.Proofs.YtaplmlldmhdhoaaGreatDoor
open Go.RowKit Go.Maps
set_option linter.unusedVariables false

/-- How bytes are written: block by block. -/
inductive WriteR (D N : Nat) : Nat → List Int → (Nat → List Int) → (Nat → Bool) → (Nat → Nat) → (Nat → List Int) → (Nat → Bool) → (Nat → Nat) → Nat → Prop
  | nil {at_ : Nat} {c : Nat → List Int} {F : Nat → Bool} {ptr : Nat → Nat} : WriteR D N at_ [] c F ptr c F ptr 0
  | cons {at_ m m0 a q : Nat} {l : List Int} {c c1 c' : Nat → List Int} {F F1 F' : Nat → Bool} {ptr ptr1 ptr' : Nat → Nat} : l ≠ [] → Reach (at_ / 512) D N m c F ptr c1 F1 ptr1 a → 69 < a → a < N → m0 = min l.length (512 - at_ % 512) → WriteR D N (at_ + m0) (l.drop m0) (updN c1 a (layL (c1 a) (at_ % 512) (l.take m0))) F1 ptr1 c' F' ptr' q → WriteR D N at_ l c F ptr c' F' ptr' (q + 3 * m + 1)
def slLen : Value → Nat
  | .slice _ n _ => n
  | _ => 0
theorem By.dropN {w : World} {b off : Nat} {l : List Int} (h : By w (fun _ => True) (some ⟨b, off, none⟩) l) (m : Nat) : By w (fun _ => True) (some ⟨b, off + m, none⟩) (l.drop m) := by
  have := h.cut m (l.length - m)
  rwa [List.take_of_length_le (by simp)] at this
variable {w w' : World} {pf pd n N : Nat} {S S' T : Nat → Prop} {i : Int} {base : Value} {P P' : Int → Option (List Int)} {bc c c' : Nat → List Int} {A0 : Array Value} {size : Int} {ptr : Nat → Nat}
theorem Fw.setSize (h : Fw w pf pd S N i base T bc n P c A0 size ptr) (s : Int) : Fw (w.setCell ⟨pf, 7, none⟩ (.int .u64 s)) pf pd S N i base T bc n P c A0 s ptr := by
  obtain ⟨hD, ⟨A, h1, h2, h3⟩, h4, h5⟩ := h
  have hm : Mods (fun g => g = pf) w (w.setCell ⟨pf, 7, none⟩ (.int .u64 s)) := (Mods.refl (fun g => g = pf) w).setCell pf 7 _ rfl
  refine ⟨hD.mods hm (fun g hg e => by subst e; rcases hg with hg | hg; exact h4 hg; exact h5 hg), ⟨_, setc h1 7 _, ⟨by simp [h2.sz], ?_, ?_, fun j hj => ?_⟩, fun j hj hj2 hj3 => ?_⟩, h4, h5⟩
  · rw [Array.getElem?_setIfInBounds_ne (by omega)]; exact h2.view
  · rw [Array.getElem?_setIfInBounds_self_of_lt (by have := h2.sz; omega)]
  · rw [Array.getElem?_setIfInBounds_ne (by omega)]; exact h2.ptr j hj
  · rw [Array.getElem?_setIfInBounds_ne (by omega)]; exact h3 j hj hj2 hj3
theorem Fw.sizeCell (h : Fw w pf pd S N i base T bc n P c A0 size ptr) : w.cell? ⟨pf, 7, none⟩ = some (.int .u64 size) ∧ w.frozen? ⟨pf, 7, none⟩ = false := let ⟨_, h1, h2, _⟩ := h.A; ⟨cell_of h1 h2.len, froz_of h1 7⟩
set_option maxRecDepth 100000 in
set_option maxHeartbeats 4000000 in
theorem write_any (h : Fw w pf pd S N i base T bc n P c A0 size ptr) (hG : Gl w) (hS0 : ¬ S 1) (hp0 : pf ≠ 1) (D : Nat) (hD : planD N i = (D : Int)) (F : Nat → Bool) (hF : c 69 = bitB F) (at_ : Nat) (l : List Int) (a : Option Addr) (len cp : Nat) (hl : l.length = len) (hlen : 0 < len) (hlc : len ≤ cp) (hy : By w (fun g => ¬ S g ∧ g ≠ pf) a l) (hat : at_ + len ≤ 1082199040) (hs0 : 0 ≤ size) (hs1 : size < 18446744073709551616) (q : Nat) (hn : n + q < 800000) (c' : Nat → List Int) (F' : Nat → Bool) (ptr' : Nat → Nat) (hR : WriteR D N at_ l c F ptr c' F' ptr' q) :
    Calls Tryz.prog 46 #[ptrV pf, .int .u64 at_, .slice a len cp] w fun e w' => e = .returned .nilIface ∧ ∃ S' n' P', n' ≤ n + q ∧ Fw w' pf pd S' N i base T bc n' P' c' A0 (max size (at_ + len : Nat)) ptr' ∧ c' 69 = bitB F' ∧ KpF S pf w S' w' := by
  obtain ⟨s7, z7⟩ := h.sizeCell
  have hu1 : IntKind.u64.wrap (len : Int) = (len : Int) := by rw [IntKind.wrap_u64]; omega
  have hu2 : IntKind.u64.wrap ((at_ : Int) + (len : Int)) = ((at_ + len : Nat) : Int) := by rw [IntKind.wrap_u64]; omega
  have hl0 : (0 : Int) < len := by omega
  obtain ⟨SZ, hSZ⟩ : ∃ SZ, max size ((at_ : Int) + (len : Int)) = SZ := ⟨_, rfl⟩
  have e0 : max size ((at_ + len : Nat) : Int) = SZ := by rw [← hSZ]; congr 1
  rw [e0]
  have hu2' : IntKind.u64.wrap ((at_ : Int) + (len : Int)) = (at_ : Int) + (len : Int) := by rw [IntKind.wrap_u64]; omega
  obtain ⟨W1, hW1⟩ : ∃ W, W = w.setCell ⟨pf, 7, none⟩ (.int .u64 SZ) := ⟨_, rfl⟩
  have hF1 := h.setSize SZ
  rw [← hW1] at hF1
  have hm1 : Mods (fun g => g = pf) w W1 := by rw [hW1]; exact (Mods.refl (fun g => g = pf) w).setCell pf 7 _ rfl
  have hk1 : KpF S pf w S W1 := ⟨fun _ hb => .inl hb, hm1.weak (fun b hb => .inl (.inr hb))⟩
  obtain ⟨Z, hZ⟩ : ∃ Z : Nat → Prop, Z = fun g => g < w.heap.size ∧ ¬ S g ∧ g ≠ pf := ⟨_, rfl⟩
  have HZK : Hid (∀ S1 (V V' : World), KpF S pf w S1 V → ∀ M : Nat → Prop, Mods M V V' → (∀ g, M g → S1 g ∨ g = pf) → ∀ a l, By V Z a l → By V' Z a l) := hid (fun S1 V V' hk M hm hM a l hy => hy.keep (fun g hg hl => hm.block g hl (fun e => by
    rw [hZ] at hg
    rcases hM g e with h1 | h1
    · rcases hk.1 g h1 with h2 | h2
      · exact hg.2.1 h2
      · have := hg.1; omega
    · exact hg.2.2 h1)))
  have hyZ : By w Z a l := hy.weak (fun g hg hl => by rw [hZ]; exact ⟨hl, hg⟩)
  have hy1 := HZK.out S w W1 (KpF.refl _ _ _) _ hm1 (fun g hg => .inr hg) a l hyZ
  have H0 := hid (And.intro hF1 (And.intro hF (And.intro hk1 (And.intro hR (And.intro hy1 (And.intro hl (And.intro hlc hat)))))))
  have HG := hid (And.intro hG (And.intro hS0 hp0))
  have HD := hid hD
  have HN := hid hn
  clear h hF1 hm1 hk1 hyZ hy1 hy hF hR hl hlc hat hG hS0 hp0 hD hn hZ e0 hu2
  go_enter Tryz.func46, Tryz.ntmps46
  go_wp2_with (first | (rw [← hW1]; clear hW1))
  clear s7 z7 hSZ hu1 hu2' hl0
  go_loopw [1, 2] (fun z1 z2 wr => ∃ (at1 : Nat) (l1 : List Int) (a1 : Option Addr) (len1 cp1 n1 q1 : Nat) (S1 : Nat → Prop) (P1 : Int → Option (List Int)) (c1 : Nat → List Int) (F1 : Nat → Bool) (ptr1 : Nat → Nat), z1 = .int .u64 (at1 : Int) ∧ z2 = .slice a1 len1 cp1 ∧ l1.length = len1 ∧ len1 ≤ cp1 ∧ By wr Z a1 l1 ∧ at1 + len1 ≤ 1082199040 ∧ Fw wr pf pd S1 N i base T bc n1 P1 c1 A0 SZ ptr1 ∧ c1 69 = bitB F1 ∧ n1 + q1 ≤ n + q ∧ KpF S pf w S1 wr ∧ WriteR D N at1 l1 c1 F1 ptr1 c' F' ptr' q1) (fun _ z2 _ => slLen z2)
  case atStart =>
    obtain ⟨h1, h2, h3, h4, h5, h6, h7, h8⟩ := H0.out
    exact ⟨at_, l, a, len, cp, n, q, S, P, c, F, ptr, rfl, rfl, h6, h7, h5, h8, h1, h2, Nat.le_refl _, h3, h4⟩
  case round =>
    obtain ⟨at1, l1, a1, len1, cp1, n1, q1, S1, P1, c1, F1, ptr1, rfl, rfl, hl1, hlc1, hy1, hat1, hf1, hF1, hn1, hk1, hR1⟩ := hrel
    rename World => V
    have HF1 := hid hf1
    have HK1 := hid hk1
    have HF69 := hid hF1
    have HN1 := hid hn1
    cases hR1 with
    | nil =>
      obtain rfl : len1 = 0 := hl1.symm
      clear hf1 hk1 hF1 H0 hy1
      go_wp2
      go_ret
      exact ⟨rfl, S1, n1, P1, by omega, HF1.out, HF69.out, HK1.out⟩
    | @cons _ m m0 b q2 _ _ c2 _ _ F2 _ _ ptr2 _ hne hre hb1 hb2 hm0 hR2 =>
      have hlp : 0 < len1 := by rw [← hl1]; exact List.length_pos_iff.2 hne
      have hlp' : (0 : Int) < len1 := by omega
      rw [hl1] at hm0
      obtain ⟨kq, hkq⟩ : ∃ kq, kq = at1 / 512 := ⟨_, rfl⟩
      obtain ⟨fr, hfr⟩ : ∃ fr, fr = at1 % 512 := ⟨_, rfl⟩
      rw [← hkq] at hre
      rw [← hfr] at hm0 hR2
      have q1' : (at1 : Int).tdiv 512 = (kq : Int) := by rw [Int.tdiv_eq_ediv_of_nonneg (by omega), hkq]; omega
      have q2' : (at1 : Int) / 512 = (kq : Int) := by omega
      have r1' : (at1 : Int).tmod 512 = (fr : Int) := by rw [Int.tmod_eq_emod_of_nonneg (by omega), hfr]; omega
      have r2' : (at1 : Int) % 512 = (fr : Int) := by omega
      have w1' : IntKind.i64.wrap (kq : Int) = (kq : Int) := by rw [IntWalk.i64_in _ (by omega)]
      have w2' : IntKind.i64.wrap (fr : Int) = (fr : Int) := by rw [IntWalk.i64_in _ (by omega)]
      have w3' : IntKind.i64.wrap (512 - (fr : Int)) = ((512 - fr : Nat) : Int) := by rw [IntWalk.i64_in _ (by omega)]; omega
      have w4' : min (len1 : Int) ((512 - fr : Nat) : Int) = (m0 : Int) := by omega
      have w5' : IntKind.u64.wrap (m0 : Int) = (m0 : Int) := by rw [IntKind.wrap_u64]; omega
      have w6' : IntKind.u64.wrap ((at1 : Int) + (m0 : Int)) = ((at1 + m0 : Nat) : Int) := by rw [IntKind.wrap_u64]; omega
      have w7' : IntKind.u64.wrap (kq : Int) = (kq : Int) := by rw [IntKind.wrap_u64]; omega
      have w8' : IntKind.u64.wrap (fr : Int) = (fr : Int) := by rw [IntKind.wrap_u64]; omega
      have HGV : Gl V := HG.out.1.kpf hk1 HG.out.2.1 HG.out.2.2
      have HRE := hid (reach_any hf1 HGV (hk1.off0 HG.out.2.1 HG.out.1.lt) HG.out.2.2 D HD.out F1 hF1 kq m (by omega) (by have := HN.out; omega) c2 F2 ptr2 b hre)
      have hm0p : 0 < m0 := by omega
      have hm0l : m0 ≤ len1 := by omega
      have hm0l' : (m0 : Int) ≤ len1 := by omega
      have hm0c : m0 ≤ cp1 := by omega
      have hm0c' : (m0 : Int) ≤ cp1 := by omega
      have HBB := hid (And.intro hb1 hb2)
      have HR2 := hid hR2
      have HY1 := hid hy1
      have HLL := hid (And.intro hl1 (And.intro hlc1 hat1))
      have HFR : Hid (fr + m0 ≤ 512) := hid (by omega)
      have HMM := hid (And.intro hm0p (And.intro hm0l hm0c))
      clear hf1 hk1 hF1 H0 hy1 hre hR2 hne hkq hfr hm0 hb1 hb2 HGV hn1 hl1 hlc1 hat1
      go_wp2_with fail
      refine HRE.out.mono ?_
      rintro e w2 ⟨rfl, S2, n2, P2, hn2, hf2, hF2, hk2⟩
      have hyV := HZK.out S1 V w2 HK1.out _ hk2.2 (fun g hg => hg) a1 l1 HY1.out
      have HY2 := hid hyV
      have HLAY := hid (flay_any hf2 (by have := HN.out; have := HN1.out; omega) b fr HBB.out.2 a1 m0 cp1 (l1.take m0) (by rw [List.length_take, HLL.out.1]; exact Nat.min_eq_left hm0l) ((hyV.take m0).weak (fun _ _ _ => trivial)) hm0p HFR.out)
      have HF2 := hid hF2
      have HK2 := hid hk2
      have HN2 := hid hn2
      clear hf2 hF2 hk2 hn2 hyV HRE
      go_wp2_with fail
      refine HLAY.out.mono ?_
      rintro e w3 ⟨rfl, S3, hf3, hk3⟩
      have hy3 := HZK.out S2 w2 w3 (HK1.out.trans HK2.out) _ hk3.2 (fun g hg => .inl hg) a1 l1 HY2.out
      obtain ⟨gb, go, rfl, _, _⟩ := hy3.addr (by rw [HLL.out.1]; exact hlp)
      have HY3 := hid hy3
      have HF3 := hid hf3
      have HK3 : Hid (KpF S pf w S3 w3) := hid (HK1.out.trans (HK2.out.trans (.of_kp hk3)))
      have h69 : Hid ((updN c2 b (layL (c2 b) fr (l1.take m0))) 69 = bitB F2) := hid (by rw [updN_other _ _ (by have := HBB.out.1; omega)]; exact HF2.out)
      have HNN : Hid (n2 + 1 + q2 ≤ n + q) := hid (by have := HN1.out; have := HN2.out; omega)
      have HDL : Hid ((l1.drop m0).length = len1 - m0) := hid (by rw [List.length_drop, HLL.out.1])
      have HDY : Hid (By w3 Z (some ⟨gb, go + m0, none⟩) (l1.drop m0)) := hid (by
        have := hy3.cut m0 (l1.length - m0)
        rwa [List.take_of_length_le (by simp)] at this)
      clear hf3 hk3 hy3 HLAY
      by_cases hcap : cp1 = m0
      · subst hcap
        have hz : len1 - cp1 = 0 := by have := HLL.out.2.1; omega
        have HDE : Hid (l1.drop cp1 = []) := hid (List.eq_nil_of_length_eq_zero (by rw [HDL.out]; exact hz))
        have HZ0 := hid hz
        clear hz
        go_wp2
        go_roundw
        case rel => exact ⟨at1 + cp1, l1.drop cp1, _, _, _, n2 + 1, q2, S3, _, _, F2, ptr2, rfl, rfl, HDL.out, by have := HLL.out.2.1; omega, by rw [HDE.out]; exact By.nil _ _ _, by have := HLL.out.2.2; omega, HF3.out, h69.out, HNN.out, HK3.out, HR2.out⟩
        case measure => simp [slLen]; omega
      · have hcap2 : ¬ m0 = cp1 := fun e => hcap e.symm
        go_wp2
        go_roundw
        case rel => exact ⟨at1 + m0, l1.drop m0, _, _, _, n2 + 1, q2, S3, _, _, F2, ptr2, rfl, rfl, HDL.out, by have := HLL.out.2.1; omega, HDY.out, by have := HLL.out.2.2; omega, HF3.out, h69.out, HNN.out, HK3.out, HR2.out⟩
        case measure => simp [slLen]; omega
end Go.Proofs.YtaplmlldmhdhoaaGreatDoor
