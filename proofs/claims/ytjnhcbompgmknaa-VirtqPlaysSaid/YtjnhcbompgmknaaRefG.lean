/- The document's driver: Used, where nothing was used, or what does not fly. -/
import Derived.Test.YtjnhcbompgmknaaRefF
namespace Go.Proofs.Ytjnhcbompgmknaa
open Go.RowKit

set_option maxRecDepth 100000 in
set_option maxHeartbeats 2000000 in
theorem refUsed_none (w : World) (p gt fl fc : Nat) (fa : Option Addr) (g len cap base n N put got : Nat) (f : Nat → Int) (hd : RBox w p gt (.slice fa fl fc) g len cap base n put got) (hgot : got < 65536) (hm : Mem w g N f) (G : RGeo len base n N)
    (h : rd f (base + 18 * n + 4 + 2) 2 = got) :
    Calls Try.prog 31 #[.pointer (some ⟨p, 0, none⟩)] w fun e w' => e = .returned (.tuple #[.int .i64 0, .int .i64 0, .int .i64 2]) ∧ Below w.heap.size w w' := by
  obtain ⟨n1, n2, fit, hle, hbig⟩ := G
  obtain ⟨d0, d1, d2, d3, d4, d5, d6, fz4, fz5, fz6⟩ := hd.cells
  have hpl : p < w.heap.size := hd.lt
  have hml : len ≤ maxLen := by unfold maxLen; omega
  have hn0 : ¬ ((n : Int) = 0) := by omega
  have hmlt : got % n < n := Nat.mod_lt _ (by omega)
  have e1 : IntKind.i64.wrap (18 * (n : Int)) = 18 * (n : Int) := IntWalk.i64_in _ (by omega)
  have e2 : IntKind.i64.wrap ((base : Int) + 18 * n) = (base : Int) + 18 * n := IntWalk.i64_in _ (by omega)
  have e3 : IntKind.i64.wrap ((base : Int) + 18 * n + 4) = ((base + 18 * n + 4 : Nat) : Int) := by rw [IntWalk.i64_in _ (by omega)]; omega
  have e9 : IntKind.i64.wrap (((base + 18 * n + 4 : Nat) : Int) + 2) = ((base + 18 * n + 4 + 2 : Nat) : Int) := by rw [IntWalk.i64_in _ (by omega)]; omega
  have e4 : Int.tmod (got : Int) (n : Int) = ((got % n : Nat) : Int) := (Int.ofNat_tmod got n).symm
  have e5 : IntKind.i64.wrap (8 * ((got % n : Nat) : Int)) = 8 * ((got % n : Nat) : Int) := IntWalk.i64_in _ (by omega)
  have e6 : IntKind.i64.wrap (((base + 18 * n + 4 : Nat) : Int) + 4) = ((base + 18 * n + 4 : Nat) : Int) + 4 := IntWalk.i64_in _ (by omega)
  have e7 : IntKind.i64.wrap (((base + 18 * n + 4 : Nat) : Int) + 4 + 8 * ((got % n : Nat) : Int)) = ((base + 18 * n + 4 + (4 + got % n * 8) : Nat) : Int) := by rw [IntWalk.i64_in _ (by omega)]; omega
  have e8 : IntKind.i64.wrap (((base + 18 * n + 4 + (4 + got % n * 8) : Nat) : Int) + 4) = ((base + 18 * n + 4 + (4 + got % n * 8) + 4 : Nat) : Int) := by rw [IntWalk.i64_in _ (by omega)]; omega
  have e10 : IntKind.i64.wrap ((got : Int) + 1) = (got : Int) + 1 := IntWalk.i64_in _ (by omega)
  have e11 : Int.tmod ((got : Int) + 1) 65536 = (((got + 1) % 65536 : Nat) : Int) := by rw [show ((got : Int) + 1) = ((got + 1 : Nat) : Int) by omega]; exact (Int.ofNat_tmod (got + 1) 65536).symm
  have HL2 := hid (fun wx (h : Mem wx g N f) => refle_any wx g N len cap (base + 18 * n + 4 + 2) 2 f h hle hml (by omega) (.inl rfl))
  have HL3 := hid (fun wx (h : Mem wx g N f) => refle_any wx g N len cap (base + 18 * n + 4 + (4 + got % n * 8)) 4 f h hle hml (by omega) (.inr rfl))
  have HL4 := hid (fun wx (h : Mem wx g N f) => refle_any wx g N len cap (base + 18 * n + 4 + (4 + got % n * 8) + 4) 4 f h hle hml (by omega) (.inr rfl))
  have HD := hid hd
  have HM := hid hm
  clear hd hm
  clear HL3 HL4
  generalize rd f (base + 18 * n + 4 + 2) 2 = ix at *
  generalize base + 18 * n + 4 + (4 + got % n * 8) + 4 = a2 at *
  generalize base + 18 * n + 4 + (4 + got % n * 8) = a1 at *
  generalize base + 18 * n + 4 + 2 = pu2 at *
  generalize base + 18 * n + 4 = pu at *
  generalize got % n = m at *
  generalize hg1e : (got + 1) % 65536 = got1 at *
  clear hg1e
  have g1 : (ix == (got : Int)) = true := by simpa using h
  clear h
  go_enter Try.func31, Try.ntmps31
  go_wp2
  go_quiet (fail)
  obtain ⟨wA, hwA⟩ : ∃ wA, wA = w.drewN nq := ⟨_, rfl⟩
  rw [← hwA]
  have hbwA : Below w.heap.size w wA := by rw [hwA]; exact below_drewN (Below.refl _ w) _
  clear hwA
  have HBwA := hid hbwA
  have HDwA : Hid (RBox wA p gt (.slice fa fl fc) g len cap base n put got) := hid ((hbwA.block p hpl).trans HD.out)
  have HMwA := hid (HM.out.below hbwA)
  obtain ⟨d0, d1, d2, d3, d4, d5, d6, fz4, fz5, fz6⟩ := HDwA.out.cells
  clear hbwA
  go_wp2
  go_quiet ((go_at_call 51; exact Calls.quiet_of_same (HL2.out _ (HMwA.out.below (below_drewN (Below.refl wA.heap.size wA) _)))))
  go_wp2
  go_ret3
  exact ⟨rfl, below_drewN HBwA.out _⟩

set_option maxRecDepth 100000 in
set_option maxHeartbeats 2000000 in
theorem refUsed_bad (w : World) (p gt fl fc : Nat) (fa : Option Addr) (g len cap base n N put got : Nat) (f : Nat → Int) (hd : RBox w p gt (.slice fa fl fc) g len cap base n put got) (hgot : got < 65536) (hm : Mem w g N f) (G : RGeo len base n N)
    (F : List (Nat × Value)) (hF : FRow w (.slice fa fl fc) F) (hpF : ∀ b, (Value.slice fa fl fc).ownBlock = some b → b ≠ p) (f2 : fl ≤ 256)
    (h : rd f (base + 18 * n + 4 + 2) 2 ≠ got) (hno : ∀ q ∈ F, (q.1 : Int) ≠ rd f (base + 18 * n + 4 + (4 + got % n * 8)) 4) :
    Calls Try.prog 31 #[.pointer (some ⟨p, 0, none⟩)] w fun e w' => e = .returned (.tuple #[.int .i64 0, .int .i64 0, .int .i64 15]) ∧ Mods (fun b => b = p) w w' ∧ RBox w' p gt (.slice fa fl fc) g len cap base n put ((got + 1) % 65536) := by
  obtain ⟨n1, n2, fit, hle, hbig⟩ := G
  obtain ⟨d0, d1, d2, d3, d4, d5, d6, fz4, fz5, fz6⟩ := hd.cells
  have hpl : p < w.heap.size := hd.lt
  have hml : len ≤ maxLen := by unfold maxLen; omega
  have hn0 : ¬ ((n : Int) = 0) := by omega
  have hmlt : got % n < n := Nat.mod_lt _ (by omega)
  have e1 : IntKind.i64.wrap (18 * (n : Int)) = 18 * (n : Int) := IntWalk.i64_in _ (by omega)
  have e2 : IntKind.i64.wrap ((base : Int) + 18 * n) = (base : Int) + 18 * n := IntWalk.i64_in _ (by omega)
  have e3 : IntKind.i64.wrap ((base : Int) + 18 * n + 4) = ((base + 18 * n + 4 : Nat) : Int) := by rw [IntWalk.i64_in _ (by omega)]; omega
  have e9 : IntKind.i64.wrap (((base + 18 * n + 4 : Nat) : Int) + 2) = ((base + 18 * n + 4 + 2 : Nat) : Int) := by rw [IntWalk.i64_in _ (by omega)]; omega
  have e4 : Int.tmod (got : Int) (n : Int) = ((got % n : Nat) : Int) := (Int.ofNat_tmod got n).symm
  have e5 : IntKind.i64.wrap (8 * ((got % n : Nat) : Int)) = 8 * ((got % n : Nat) : Int) := IntWalk.i64_in _ (by omega)
  have e6 : IntKind.i64.wrap (((base + 18 * n + 4 : Nat) : Int) + 4) = ((base + 18 * n + 4 : Nat) : Int) + 4 := IntWalk.i64_in _ (by omega)
  have e7 : IntKind.i64.wrap (((base + 18 * n + 4 : Nat) : Int) + 4 + 8 * ((got % n : Nat) : Int)) = ((base + 18 * n + 4 + (4 + got % n * 8) : Nat) : Int) := by rw [IntWalk.i64_in _ (by omega)]; omega
  have e8 : IntKind.i64.wrap (((base + 18 * n + 4 + (4 + got % n * 8) : Nat) : Int) + 4) = ((base + 18 * n + 4 + (4 + got % n * 8) + 4 : Nat) : Int) := by rw [IntWalk.i64_in _ (by omega)]; omega
  have e10 : IntKind.i64.wrap ((got : Int) + 1) = (got : Int) + 1 := IntWalk.i64_in _ (by omega)
  have e11 : Int.tmod ((got : Int) + 1) 65536 = (((got + 1) % 65536 : Nat) : Int) := by rw [show ((got : Int) + 1) = ((got + 1 : Nat) : Int) by omega]; exact (Int.ofNat_tmod (got + 1) 65536).symm
  have HL2 := hid (fun wx (h : Mem wx g N f) => refle_any wx g N len cap (base + 18 * n + 4 + 2) 2 f h hle hml (by omega) (.inl rfl))
  have HL3 := hid (fun wx (h : Mem wx g N f) => refle_any wx g N len cap (base + 18 * n + 4 + (4 + got % n * 8)) 4 f h hle hml (by omega) (.inr rfl))
  have HL4 := hid (fun wx (h : Mem wx g N f) => refle_any wx g N len cap (base + 18 * n + 4 + (4 + got % n * 8) + 4) 4 f h hle hml (by omega) (.inr rfl))
  have HD := hid hd
  have HM := hid hm
  clear hd hm
  generalize rd f (base + 18 * n + 4 + 2) 2 = ix at *
  generalize rd f (base + 18 * n + 4 + (4 + got % n * 8)) 4 = hx at *
  generalize rd f (base + 18 * n + 4 + (4 + got % n * 8) + 4) 4 = lx at *
  generalize base + 18 * n + 4 + (4 + got % n * 8) + 4 = a2 at *
  generalize base + 18 * n + 4 + (4 + got % n * 8) = a1 at *
  generalize base + 18 * n + 4 + 2 = pu2 at *
  generalize base + 18 * n + 4 = pu at *
  generalize got % n = m at *
  generalize hg1e : (got + 1) % 65536 = got1 at *
  clear hg1e
  have g1 : (ix == (got : Int)) = false := by simpa using h
  have HNO := hid hno
  have hfl : F.length = fl := by
    obtain ⟨xa, xc, hx⟩ := owns_slice hF
    simp only [Value.slice.injEq] at hx
    omega
  have HFL := hid hfl
  have HF := hid hF
  have HPF := hid hpF
  clear h hno hF hpF hfl
  go_enter Try.func31, Try.ntmps31
  go_wp2
  go_quiet (fail)
  obtain ⟨wA, hwA⟩ : ∃ wA, wA = w.drewN nq := ⟨_, rfl⟩
  rw [← hwA]
  have hbwA : Below w.heap.size w wA := by rw [hwA]; exact below_drewN (Below.refl _ w) _
  clear hwA
  have HBwA := hid hbwA
  have HDwA : Hid (RBox wA p gt (.slice fa fl fc) g len cap base n put got) := hid ((hbwA.block p hpl).trans HD.out)
  have HMwA := hid (HM.out.below hbwA)
  obtain ⟨d0, d1, d2, d3, d4, d5, d6, fz4, fz5, fz6⟩ := HDwA.out.cells
  clear hbwA
  go_wp2
  go_quiet ((go_at_call 51; exact Calls.quiet_of_same (HL2.out _ (HMwA.out.below (below_drewN (Below.refl wA.heap.size wA) _)))))
  obtain ⟨wB, hwB⟩ : ∃ wB, wB = wA.drewN nq := ⟨_, rfl⟩
  rw [← hwB]
  have hbwB : Below w.heap.size w wB := by rw [hwB]; exact below_drewN HBwA.out _
  clear hwB
  have HBwB := hid hbwB
  have HDwB : Hid (RBox wB p gt (.slice fa fl fc) g len cap base n put got) := hid ((hbwB.block p hpl).trans HD.out)
  have HMwB := hid (HM.out.below hbwB)
  obtain ⟨d0, d1, d2, d3, d4, d5, d6, fz4, fz5, fz6⟩ := HDwB.out.cells
  clear hbwB
  clear HBwA HDwA HMwA
  go_wp2
  go_quiet (fail)
  obtain ⟨wC, hwC⟩ : ∃ wC, wC = wB.drewN nq := ⟨_, rfl⟩
  rw [← hwC]
  have hbwC : Below w.heap.size w wC := by rw [hwC]; exact below_drewN HBwB.out _
  clear hwC
  have HBwC := hid hbwC
  have HDwC : Hid (RBox wC p gt (.slice fa fl fc) g len cap base n put got) := hid ((hbwC.block p hpl).trans HD.out)
  have HMwC := hid (HM.out.below hbwC)
  obtain ⟨d0, d1, d2, d3, d4, d5, d6, fz4, fz5, fz6⟩ := HDwC.out.cells
  clear hbwC
  clear HBwB HDwB HMwB
  go_wp2_with fail
  refine (HL3.out _ HMwC.out).mono ?_
  rintro e w1 ⟨rfl, hw1⟩
  rw [hw1]
  clear hw1 w1
  go_wp2_with fail
  refine (HL4.out _ HMwC.out).mono ?_
  rintro e w1 ⟨rfl, hw1⟩
  rw [hw1]
  clear hw1 w1
  go_wp2
  have hdW : RBox (wC.setCell ⟨p, 5, none⟩ (.int .i64 got1)) p gt (.slice fa fl fc) g len cap base n put got1 := setc HDwC.out 5 _
  have hmoW : Mods (fun b => b = p) w (wC.setCell ⟨p, 5, none⟩ (.int .i64 got1)) := (Mods.of_below HBwC.out).setCell p 5 _ rfl
  clear HDwC HMwC HBwC HD HM HL2 HL3 HL4 e2 e3 e4 e5 e6 e7 e8 e9 e10 e11 g1 hmlt
  generalize wC.setCell ⟨p, 5, none⟩ (.int .i64 got1) = W at *
  obtain ⟨d0, d1, d2, d3, d4, d5, d6, fz4, fz5, fz6⟩ := hdW.cells
  have HDW := hid hdW
  have HMOW := hid hmoW
  clear hdW hmoW
  go_loopw [9] (fun x wx => ∃ i : Nat, i ≤ fl ∧ x = .int .i64 i ∧ wx = W) (fun x _ => fl - (RowKit.intOf x).toNat)
  case atStart => exact ⟨0, Nat.zero_le _, rfl, rfl⟩
  case round =>
    obtain ⟨i, hi, rfl, rfl⟩ := hrel
    by_cases hil : i < fl
    · have hii : (i : Int) < fl := by omega
      have ei : IntKind.i64.wrap ((i : Int) + 1) = (i : Int) + 1 := IntWalk.i64_in _ (by omega)
      have hi0 : (0 : Int) ≤ (i : Int) := by omega
      obtain ⟨fb, fcc, hfv, hfb, hcells⟩ := HF.out.open_ (by rw [HFL.out]; omega)
      simp only [Value.slice.injEq] at hfv
      obtain ⟨hfa, _, _⟩ := hfv
      subst hfa
      have c1 := HMOW.out.cell (hcells i (by rw [HFL.out]; exact hil)).1 (HPF.out fb (by simp [Value.ownBlock]))
      have hne := HNO.out (F.getD i (0, undef)) (by rw [List.getD_eq_getElem?_getD, List.getElem?_eq_getElem (by rw [HFL.out]; exact hil)]; exact List.getElem_mem _)
      clear hcells
      generalize (F.getD i (0, undef)).1 = fh at *
      have heb : ((fh : Int) == hx) = false := by simpa using hne
      go_wp2
      go_roundw
      case rel => exact ⟨i + 1, by omega, by go_num, trivial⟩
      case measure => simp only [RowKit.intOf]; omega
    · have hii : ¬ ((i : Int) < fl) := by omega
      go_wp2
      go_ret3
      exact ⟨rfl, HMOW.out, HDW.out⟩
end Go.Proofs.Ytjnhcbompgmknaa
