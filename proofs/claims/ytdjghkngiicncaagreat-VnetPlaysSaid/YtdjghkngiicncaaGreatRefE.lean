/- The document's device: Take. -/
import Derived.Test.YtdjghkngiicncaaGreatRefD
namespace Go.Proofs.YtdjghkngiicncaaGreat
open Go.RowKit

theorem i64_and_nat (a b : Nat) (ha : a < 65536) (hb : b < 65536) : bits .and .i64 (a : Int) (b : Int) = ((a &&& b : Nat) : Int) := by
  have hx : a &&& b < 2 ^ 16 := Nat.and_lt_two_pow _ (by omega)
  have h1 : (BitVec.ofInt 64 (a : Int)).toNat = a := by
    rw [BitVec.ofInt_natCast, BitVec.toNat_ofNat]; exact Nat.mod_eq_of_lt (by omega)
  have h2 : (BitVec.ofInt 64 (b : Int)).toNat = b := by
    rw [BitVec.ofInt_natCast, BitVec.toNat_ofNat]; exact Nat.mod_eq_of_lt (by omega)
  show IntKind.i64.wrap ((BitVec.ofInt 64 (a : Int) &&& BitVec.ofInt 64 (b : Int)).toNat : Int) = _
  rw [BitVec.toNat_and, h1, h2]
  exact IntWalk.i64_in _ (by omega)
theorem andi_one (v : Int) (h0 : 0 ≤ v) (h1 : v < 65536) : bits .and .i64 v 1 = v % 2 := by
  obtain ⟨k, rfl⟩ : ∃ k : Nat, v = k := ⟨v.toNat, by omega⟩
  have := i64_and_nat k 1 (by omega) (by omega)
  rw [show ((1 : Nat) : Int) = 1 from rfl, Nat.and_one_is_mod] at this
  omega
theorem andi_two (v : Int) (h0 : 0 ≤ v) (h1 : v < 65536) : bits .and .i64 v 2 = v / 2 % 2 * 2 := by
  obtain ⟨k, rfl⟩ : ∃ k : Nat, v = k := ⟨v.toNat, by omega⟩
  have := i64_and_nat k 2 (by omega) (by omega)
  rw [show ((2 : Nat) : Int) = 2 from rfl, nat_and_two] at this
  omega

theorem refLe8_any (w : World) (g N len cap a : Nat) (f : Nat → Int) (h : Mem w g N f) (hl : len ≤ N) (hm : len ≤ maxLen) (ha : a + 8 ≤ len) :
    Calls Tryz.prog 71 #[.slice (some ⟨g, 0, none⟩) len cap, .int .i64 a, .int .i64 8] w fun e w' => e = .returned (.tuple #[.int .u64 (rd f a 8), .int .i64 0]) ∧ w' = w := by
  have hcon := refLe_any (some ⟨g, 0, none⟩) cap (at_ f 0 len) a (8 : Nat) w (by rw [at_len]; exact hm) (h.bytes 0 len (by omega))
  obtain ⟨e1, e2, _⟩ := rd_yes (at_ f 0 len) a (8 : Nat) (Wid.wid (n := 8) (.inr (.inr rfl))) (by rw [at_len]; simp [insB]; omega)
  rw [e1, e2] at hcon
  simp only [cutOf, Int.toNat_natCast] at hcon
  rw [at_cut f 0 len a 8 ha, at_len, Nat.zero_add] at hcon
  exact hcon

def RTakePost (w : World) (e : Ending) (w' : World) (p g len cap base n o u : Nat) (f : Nat → Int) : Prop :=
  (rd f (base + 16 * n + 2) 2 = o ∧ e = .returned (.tuple #[.int .i64 0, .slice none 0 0, .int .i64 2]) ∧ RDev w' p g len cap base n o u) ∨
  (rd f (base + 16 * n + 2) 2 ≠ o ∧ RDev w' p g len cap base n ((o + 1) % 65536) u ∧ ∃ hd : Nat, rd f (base + 16 * n + (4 + o % n * 2)) 2 = hd ∧ hd < 65536 ∧
    ((rch f base n (n + 1) hd [] = none ∧ e = .returned (.tuple #[.int .i64 0, .slice none 0 0, .int .i64 15])) ∨
     ∃ L v, rch f base n (n + 1) hd [] = some L ∧ e = .returned (.tuple #[.int .i64 hd, v, .int .i64 0]) ∧ w'.ownsRow w.heap.size 88 3 v L.length (cellsB L)))

set_option maxRecDepth 100000 in
set_option maxHeartbeats 4000000 in
theorem refTake_any (w : World) (p g len cap base n N o u : Nat) (f : Nat → Int) (hdv : RDev w p g len cap base n o u) (hm : Mem w g N f) (G : RGeo len base n N) :
    Calls Tryz.prog 48 #[.pointer (some ⟨p, 0, none⟩)] w fun e w' => Mods (fun b => b = p) w w' ∧ RTakePost w e w' p g len cap base n o u f := by
  obtain ⟨n1, n2, fit, hle, hbig⟩ := G
  obtain ⟨d0, d1, d2, d3, d4, fz3, fz4⟩ := hdv.cells
  have ho : o < 65536 := hdv.2.1
  have hu : u < 65536 := hdv.2.2.1
  have hne : p ≠ g := hdv.2.2.2
  have hpl : p < w.heap.size := hdv.lt
  have hml : len ≤ maxLen := by unfold maxLen; omega
  have hn0 : ¬ ((n : Int) = 0) := by omega
  have hmlt : o % n < n := Nat.mod_lt _ (by omega)
  have e1 : IntKind.i64.wrap (16 * (n : Int)) = 16 * (n : Int) := IntWalk.i64_in _ (by omega)
  have e2 : IntKind.i64.wrap ((base : Int) + 16 * n) = ((base + 16 * n : Nat) : Int) := by rw [IntWalk.i64_in _ (by omega)]; omega
  have e3 : IntKind.i64.wrap (((base + 16 * n : Nat) : Int) + 2) = ((base + 16 * n + 2 : Nat) : Int) := by rw [IntWalk.i64_in _ (by omega)]; omega
  have e4 : Int.tmod (o : Int) (n : Int) = ((o % n : Nat) : Int) := (Int.ofNat_tmod o n).symm
  have e5 : IntKind.i64.wrap (2 * ((o % n : Nat) : Int)) = 2 * ((o % n : Nat) : Int) := IntWalk.i64_in _ (by omega)
  have e6 : IntKind.i64.wrap (((base + 16 * n : Nat) : Int) + 4) = ((base + 16 * n : Nat) : Int) + 4 := IntWalk.i64_in _ (by omega)
  have e7 : IntKind.i64.wrap (((base + 16 * n : Nat) : Int) + 4 + 2 * ((o % n : Nat) : Int)) = ((base + 16 * n + (4 + o % n * 2) : Nat) : Int) := by rw [IntWalk.i64_in _ (by omega)]; omega
  have e10 : IntKind.i64.wrap ((o : Int) + 1) = (o : Int) + 1 := IntWalk.i64_in _ (by omega)
  have e11 : Int.tmod ((o : Int) + 1) 65536 = (((o + 1) % 65536 : Nat) : Int) := by rw [show ((o : Int) + 1) = ((o + 1 : Nat) : Int) by omega]; exact (Int.ofNat_tmod (o + 1) 65536).symm
  have ho1 : (o + 1) % 65536 < 65536 := Nat.mod_lt _ (by omega)
  have b1 : base + 16 * n + 2 + 2 ≤ len := by omega
  have b2 : base + 16 * n + (4 + o % n * 2) + 2 ≤ len := by omega
  have HL2 : Hid (∀ wx, Mem wx g N f → Calls Tryz.prog 60 #[.slice (some ⟨g, 0, none⟩) len cap, .int .i64 ((base + 16 * n + 2 : Nat) : Int), .int .i64 2] wx fun e w' => e = .returned (.int .i64 (rd f (base + 16 * n + 2) 2)) ∧ w' = wx) :=
    hid (fun wx h => refle_any wx g N len cap _ 2 f h hle hml b1 (.inl rfl))
  have HL3 : Hid (∀ wx, Mem wx g N f → Calls Tryz.prog 60 #[.slice (some ⟨g, 0, none⟩) len cap, .int .i64 ((base + 16 * n + (4 + o % n * 2) : Nat) : Int), .int .i64 2] wx fun e w' => e = .returned (.int .i64 (rd f (base + 16 * n + (4 + o % n * 2)) 2)) ∧ w' = wx) :=
    hid (fun wx h => refle_any wx g N len cap _ 2 f h hle hml b2 (.inl rfl))
  have r1 := rd_bd hm (base + 16 * n + 2) 2 (by omega)
  have r2 := rd_bd hm (base + 16 * n + (4 + o % n * 2)) 2 (by omega)
  have HD := hid hdv
  have HM := hid hm
  unfold RTakePost
  obtain ⟨hd, hhd⟩ : ∃ hd : Nat, rd f (base + 16 * n + (4 + o % n * 2)) 2 = hd := ⟨(rd f (base + 16 * n + (4 + o % n * 2)) 2).toNat, by omega⟩
  have hd1 : hd < 65536 := by omega
  rw [hhd] at HL3 r2 ⊢
  clear hdv hm hhd
  generalize rd f (base + 16 * n + 2) 2 = ix at *
  generalize base + 16 * n + (4 + o % n * 2) = pe at *
  generalize base + 16 * n + 2 = po2 at *
  generalize base + 16 * n = po at *
  generalize o % n = m at *
  generalize ho1e : (o + 1) % 65536 = o1 at *
  clear ho1e
  by_cases heq : ix = o
  · have HE := hid heq
    have g1 : (ix == (o : Int)) = true := by simpa using heq
    clear heq
    go_enter Tryz.func48, Tryz.ntmps48
    go_wp2
    go_quiet (fail)
    obtain ⟨wA, hwA⟩ : ∃ wA, wA = w.drewN nq := ⟨_, rfl⟩
    rw [← hwA]
    have hbwA : Below w.heap.size w wA := by rw [hwA]; exact below_drewN (Below.refl _ w) _
    clear hwA
    have HBwA := hid hbwA
    have HDwA := hid (HD.out.keep (hbwA.block p hpl))
    have HMwA := hid (HM.out.below hbwA)
    obtain ⟨d0, d1, d2, d3, d4, fz3, fz4⟩ := HDwA.out.cells
    clear hbwA
    go_wp2
    go_quiet ((go_at_call 60; exact Calls.quiet_of_same (HL2.out _ (HMwA.out.below (below_drewN (Below.refl wA.heap.size wA) _)))))
    go_wp2
    go_ret3
    exact ⟨Mods.of_below (below_drewN HBwA.out _), .inl ⟨HE.out, rfl, HDwA.out.keep rfl⟩⟩
  · have HE := hid heq
    have g1 : (ix == (o : Int)) = false := by simpa using heq
    clear heq
    go_enter Tryz.func48, Tryz.ntmps48
    go_wp2
    go_quiet (fail)
    obtain ⟨wA, hwA⟩ : ∃ wA, wA = w.drewN nq := ⟨_, rfl⟩
    rw [← hwA]
    have hbwA : Below w.heap.size w wA := by rw [hwA]; exact below_drewN (Below.refl _ w) _
    clear hwA
    have HBwA := hid hbwA
    have HDwA := hid (HD.out.keep (hbwA.block p hpl))
    have HMwA := hid (HM.out.below hbwA)
    obtain ⟨d0, d1, d2, d3, d4, fz3, fz4⟩ := HDwA.out.cells
    clear hbwA
    go_wp2
    go_quiet ((go_at_call 60; exact Calls.quiet_of_same (HL2.out _ (HMwA.out.below (below_drewN (Below.refl wA.heap.size wA) _)))))
    obtain ⟨wB, hwB⟩ : ∃ wB, wB = wA.drewN nq := ⟨_, rfl⟩
    rw [← hwB]
    have hbwB : Below w.heap.size w wB := by rw [hwB]; exact below_drewN HBwA.out _
    clear hwB
    have HBwB := hid hbwB
    have HDwB := hid (HD.out.keep (hbwB.block p hpl))
    have HMwB := hid (HM.out.below hbwB)
    obtain ⟨d0, d1, d2, d3, d4, fz3, fz4⟩ := HDwB.out.cells
    clear hbwB
    clear HBwA HDwA HMwA
    go_wp2
    go_quiet ((go_at_call 60; exact Calls.quiet_of_same (HL3.out _ (HMwB.out.below (below_drewN (Below.refl wB.heap.size wB) _)))))
    obtain ⟨wC, hwC⟩ : ∃ wC, wC = wB.drewN nq := ⟨_, rfl⟩
    rw [← hwC]
    have hbwC : Below w.heap.size w wC := by rw [hwC]; exact below_drewN HBwB.out _
    clear hwC
    have HBwC := hid hbwC
    have HDwC := hid (HD.out.keep (hbwC.block p hpl))
    have HMwC := hid (HM.out.below hbwC)
    obtain ⟨d0, d1, d2, d3, d4, fz3, fz4⟩ := HDwC.out.cells
    clear hbwC
    clear HBwB HDwB HMwB
    go_wp2
    have hdW : RDev (wC.setCell ⟨p, 3, none⟩ (.int .i64 o1)) p g len cap base n o1 u := ⟨setc HDwC.out.1 3 _, ho1, hu, hne⟩
    have hmoW : Mods (fun b => b = p) w (wC.setCell ⟨p, 3, none⟩ (.int .i64 o1)) := (Mods.of_below HBwC.out).setCell p 3 _ rfl
    have hmW := HM.out.mods hmoW (fun e => hne e.symm)
    clear HDwC HMwC HBwC HD HM HL2 HL3 e2 e3 e4 e5 e6 e7 e10 e11 b1 b2 r1 g1 hmlt
    generalize wC.setCell ⟨p, 3, none⟩ (.int .i64 o1) = W at *
    have HDW := hid hdW
    have HMOW := hid hmoW
    have HMW := hid hmW
    have hpW := hdW.lt
    clear hdW hmoW hmW d0 d1 d2 d3 d4 fz3 fz4
    generalize hR : rch f base n (n + 1) hd [] = R
    have HR := hid hR
    clear hR
    go_loopw [7, 8] (fun x7 x8 wx => ∃ (L : List Bf) (k : Nat), x8 = .int .i64 k ∧ k < 65536 ∧ L.length ≤ n ∧ wx.ownsRow W.heap.size 88 3 x7 L.length (cellsB L) ∧ Below W.heap.size W wx ∧ rch f base n (n + 1 - L.length) k L = R) (fun x7 _ _ => n + 1 - lenOf x7)
    case atStart => exact ⟨[], hd, rfl, hd1, Nat.zero_le _, ⟨rfl, .inl ⟨rfl, rfl⟩⟩, Below.refl _ _, HR.out⟩
    case round =>
      obtain ⟨L, k, rfl, hk, hL, hown, hbel, hrch⟩ := hrel
      have HOW := hid hown
      have HBL := hid hbel
      have hsx := hbel.size
      have HDX := hid (HDW.out.keep (hbel.block p hpW))
      have HMX := hid (HMW.out.below hbel)
      obtain ⟨d0, d1, d2, d3, d4, fz3, fz4⟩ := HDX.out.cells
      obtain ⟨va, vc, hv⟩ := owns_slice hown
      subst hv
      clear hown hbel fz3 fz4 d3 d4
      obtain ⟨fu, hfu⟩ : ∃ fu, n + 1 - L.length = fu + 1 := ⟨n - L.length, by omega⟩
      rw [hfu, rch] at hrch
      by_cases hpn : n ≤ k
      · rw [if_pos (.inl hpn)] at hrch
        have g0 : (n : Int) ≤ (k : Int) := by omega
        have HRC := hid hrch
        clear hrch
        go_wp2
        go_ret3
        exact ⟨HMOW.out.below HBL.out, .inr ⟨HE.out, HDX.out, hd, rfl, hd1, .inl ⟨HR.out.trans HRC.out.symm, rfl⟩⟩⟩
      · have g0 : ¬ ((n : Int) ≤ (k : Int)) := by omega
        by_cases hLn : L.length = n
        · rw [if_pos (.inr hLn)] at hrch
          have g1 : (n : Int) ≤ (L.length : Int) := by omega
          have HRC := hid hrch
          clear hrch hLn
          generalize L.length = lL at *
          go_wp2
          go_ret3
          exact ⟨HMOW.out.below HBL.out, .inr ⟨HE.out, HDX.out, hd, rfl, hd1, .inl ⟨HR.out.trans HRC.out.symm, rfl⟩⟩⟩
        · have g1 : ¬ ((n : Int) ≤ (L.length : Int)) := by omega
          rw [if_neg (by omega)] at hrch
          have e20 : IntKind.i64.wrap (16 * (k : Int)) = 16 * (k : Int) := IntWalk.i64_in _ (by omega)
          have e21 : IntKind.i64.wrap ((base : Int) + 16 * k) = ((base + k * 16 : Nat) : Int) := by rw [IntWalk.i64_in _ (by omega)]; omega
          have hat : base + k * 16 + 16 ≤ len := by omega
          have r1 := rd_bd HMX.out (base + k * 16) 8 (by omega)
          have r2 := rd_bd HMX.out (base + k * 16 + 8) 4 (by omega)
          have r3 := rd_bd HMX.out (base + k * 16 + 12) 2 (by omega)
          have r4 := rd_bd HMX.out (base + k * 16 + 14) 2 (by omega)
          generalize base + k * 16 = at0 at *
          have e22 : IntKind.i64.wrap ((at0 : Int) + 12) = ((at0 + 12 : Nat) : Int) := by rw [IntWalk.i64_in _ (by omega)]; omega
          have e23 : IntKind.i64.wrap ((at0 : Int) + 8) = ((at0 + 8 : Nat) : Int) := by rw [IntWalk.i64_in _ (by omega)]; omega
          have e24 : IntKind.i64.wrap ((at0 : Int) + 14) = ((at0 + 14 : Nat) : Int) := by rw [IntWalk.i64_in _ (by omega)]; omega
          have HN1 := hid (fun wy (h : Mem wy g N f) => refLe8_any wy g N len cap at0 f h hle hml (by omega))
          have HN2 := hid (fun wy (h : Mem wy g N f) => refle_any wy g N len cap (at0 + 8) 4 f h hle hml (by omega) (.inr rfl))
          have HN3 := hid (fun wy (h : Mem wy g N f) => refle_any wy g N len cap (at0 + 12) 2 f h hle hml (by omega) (.inl rfl))
          have HN4 := hid (fun wy (h : Mem wy g N f) => refle_any wy g N len cap (at0 + 14) 2 f h hle hml (by omega) (.inl rfl))
          have HLN := hid hLn
          clear hLn
          generalize rd f at0 8 = x1 at *
          generalize rd f (at0 + 8) 4 = x2 at *
          generalize rd f (at0 + 12) 2 = x3 at *
          generalize rd f (at0 + 14) 2 = x4 at *
          generalize at0 + 8 = at8 at *
          generalize at0 + 12 = at12 at *
          generalize at0 + 14 = at14 at *
          by_cases hbg : 4611686018427387904 < x1
          · rw [if_pos hbg] at hrch
            have HRC := hid hrch
            clear hrch
            go_wp2_with fail
            refine (HN1.out _ HMX.out).mono ?_
            rintro e w1 ⟨rfl, hw1⟩
            rw [hw1]
            clear hw1 w1
            go_wp2
            go_ret3
            exact ⟨HMOW.out.below HBL.out, .inr ⟨HE.out, HDX.out, hd, rfl, hd1, .inl ⟨HR.out.trans HRC.out.symm, rfl⟩⟩⟩
          · rw [if_neg hbg] at hrch
            have hw1 : IntKind.i64.wrap x1 = x1 := IntWalk.i64_in _ (by omega)
            have hd1' := andi_one x3 r3.1 (by omega)
            have hd2' := andi_two x3 r3.1 (by omega)
            cases hfn : flagN x3
            · cases hfw : flagW x3
              · rw [if_neg (by simp [hfn]), hfw] at hrch
                have k1 : bits .and .i64 x3 1 = 0 := by rw [hd1']; simp [flagN] at hfn; omega
                have k2 : bits .and .i64 x3 2 = 0 := by rw [hd2']; simp [flagW] at hfw; omega
                have HRC := hid hrch
                clear hrch hd1' hd2' hfn hfw
                go_wp2_with fail
                refine (HN1.out _ HMX.out).mono ?_
                rintro e w1 ⟨rfl, hw9⟩
                rw [hw9]
                clear hw9 w1
                go_wp2_with fail
                refine (HN3.out _ HMX.out).mono ?_
                rintro e w1 ⟨rfl, hw9⟩
                rw [hw9]
                clear hw9 w1
                go_wp2_with fail
                refine (HN2.out _ HMX.out).mono ?_
                rintro e w1 ⟨rfl, hw9⟩
                rw [hw9]
                clear hw9 w1
                have HO5 := hid (owns_below HOW.out ((Below.refl _ wr).alloc (Nat.le_refl _) (.cells #[.int .i64 x1, .int .i64 x2, .bool false] 88)))
                have HB5 := hid (HBL.out.alloc hsx (.cells #[.int .i64 x1, .int .i64 x2, .bool false] 88))
                go_wp2_with (at_builtin; refine wpList_append_buf rfl (.tmp 103) (.tmp 117) rfl W.heap.size wr x1 x2 false _ L rfl HO5.out _ rfl (by omega) hsx ?_; intro v6 w6 hown6 hgrow6)
                go_ret3
                have hb6 : Below W.heap.size W w6 := HB5.out.grown hgrow6.out HB5.out.size (fun b hb => (owns_lt HO5.out hb).2)
                exact ⟨HMOW.out.below hb6, .inr ⟨HE.out, HDW.out.keep (hb6.block p hpW), hd, rfl, hd1, .inr ⟨L ++ [Bf.mk x1 x2 false], v6, HR.out.trans HRC.out.symm, rfl, owns_mono hown6.out HMOW.out.size⟩⟩⟩
              · rw [if_neg (by simp [hfn]), hfw] at hrch
                have k1 : bits .and .i64 x3 1 = 0 := by rw [hd1']; simp [flagN] at hfn; omega
                have k2 : bits .and .i64 x3 2 = 2 := by rw [hd2']; simp [flagW] at hfw; omega
                have HRC := hid hrch
                clear hrch hd1' hd2' hfn hfw
                go_wp2_with fail
                refine (HN1.out _ HMX.out).mono ?_
                rintro e w1 ⟨rfl, hw9⟩
                rw [hw9]
                clear hw9 w1
                go_wp2_with fail
                refine (HN3.out _ HMX.out).mono ?_
                rintro e w1 ⟨rfl, hw9⟩
                rw [hw9]
                clear hw9 w1
                go_wp2_with fail
                refine (HN2.out _ HMX.out).mono ?_
                rintro e w1 ⟨rfl, hw9⟩
                rw [hw9]
                clear hw9 w1
                have HO5 := hid (owns_below HOW.out ((Below.refl _ wr).alloc (Nat.le_refl _) (.cells #[.int .i64 x1, .int .i64 x2, .bool true] 88)))
                have HB5 := hid (HBL.out.alloc hsx (.cells #[.int .i64 x1, .int .i64 x2, .bool true] 88))
                go_wp2_with (at_builtin; refine wpList_append_buf rfl (.tmp 103) (.tmp 117) rfl W.heap.size wr x1 x2 true _ L rfl HO5.out _ rfl (by omega) hsx ?_; intro v6 w6 hown6 hgrow6)
                go_ret3
                have hb6 : Below W.heap.size W w6 := HB5.out.grown hgrow6.out HB5.out.size (fun b hb => (owns_lt HO5.out hb).2)
                exact ⟨HMOW.out.below hb6, .inr ⟨HE.out, HDW.out.keep (hb6.block p hpW), hd, rfl, hd1, .inr ⟨L ++ [Bf.mk x1 x2 true], v6, HR.out.trans HRC.out.symm, rfl, owns_mono hown6.out HMOW.out.size⟩⟩⟩
            · cases hfw : flagW x3
              · rw [if_pos (by simp [hfn]), hfw] at hrch
                have k1 : bits .and .i64 x3 1 = 1 := by rw [hd1']; simp [flagN] at hfn; omega
                have k2 : bits .and .i64 x3 2 = 0 := by rw [hd2']; simp [flagW] at hfw; omega
                have HRC := hid hrch
                clear hrch hd1' hd2' hfn hfw
                go_wp2_with fail
                refine (HN1.out _ HMX.out).mono ?_
                rintro e w1 ⟨rfl, hw9⟩
                rw [hw9]
                clear hw9 w1
                go_wp2_with fail
                refine (HN3.out _ HMX.out).mono ?_
                rintro e w1 ⟨rfl, hw9⟩
                rw [hw9]
                clear hw9 w1
                go_wp2_with fail
                refine (HN2.out _ HMX.out).mono ?_
                rintro e w1 ⟨rfl, hw9⟩
                rw [hw9]
                clear hw9 w1
                have HO5 := hid (owns_below HOW.out ((Below.refl _ wr).alloc (Nat.le_refl _) (.cells #[.int .i64 x1, .int .i64 x2, .bool false] 88)))
                have HB5 := hid (HBL.out.alloc hsx (.cells #[.int .i64 x1, .int .i64 x2, .bool false] 88))
                go_wp2_with (at_builtin; refine wpList_append_buf rfl (.tmp 103) (.tmp 117) rfl W.heap.size wr x1 x2 false _ L rfl HO5.out _ rfl (by omega) hsx ?_; intro v6 w6 hown6 hgrow6; have hb6 : Below W.heap.size W w6 := HB5.out.grown hgrow6.out HB5.out.size (fun b hb => (owns_lt HO5.out hb).2); have HB6 := hid hb6; have HM6 := hid (HMW.out.below hb6); have d06 := (HDW.out.keep (hb6.block p hpW)).cells.1; clear hb6)
                refine (HN4.out _ HM6.out).mono ?_
                rintro e w1 ⟨rfl, hw9⟩
                rw [hw9]
                clear hw9 w1
                go_wp2
                go_roundw
                case rel =>
                  refine ⟨L ++ [Bf.mk x1 x2 false], x4.toNat, by rw [Int.toNat_of_nonneg r4.1], by omega, ?_, hown6.out, HB6.out, ?_⟩
                  · rw [List.length_append]; simp; have := HLN.out; omega
                  · rw [← HRC.out, show n + 1 - (L ++ [Bf.mk x1 x2 false]).length = fu by rw [List.length_append]; simp; omega]
                case measure =>
                  obtain ⟨v6a, v6c, rfl⟩ := owns_slice hown6.out
                  have := HLN.out
                  simp [lenOf]
                  omega
              · rw [if_pos (by simp [hfn]), hfw] at hrch
                have k1 : bits .and .i64 x3 1 = 1 := by rw [hd1']; simp [flagN] at hfn; omega
                have k2 : bits .and .i64 x3 2 = 2 := by rw [hd2']; simp [flagW] at hfw; omega
                have HRC := hid hrch
                clear hrch hd1' hd2' hfn hfw
                go_wp2_with fail
                refine (HN1.out _ HMX.out).mono ?_
                rintro e w1 ⟨rfl, hw9⟩
                rw [hw9]
                clear hw9 w1
                go_wp2_with fail
                refine (HN3.out _ HMX.out).mono ?_
                rintro e w1 ⟨rfl, hw9⟩
                rw [hw9]
                clear hw9 w1
                go_wp2_with fail
                refine (HN2.out _ HMX.out).mono ?_
                rintro e w1 ⟨rfl, hw9⟩
                rw [hw9]
                clear hw9 w1
                have HO5 := hid (owns_below HOW.out ((Below.refl _ wr).alloc (Nat.le_refl _) (.cells #[.int .i64 x1, .int .i64 x2, .bool true] 88)))
                have HB5 := hid (HBL.out.alloc hsx (.cells #[.int .i64 x1, .int .i64 x2, .bool true] 88))
                go_wp2_with (at_builtin; refine wpList_append_buf rfl (.tmp 103) (.tmp 117) rfl W.heap.size wr x1 x2 true _ L rfl HO5.out _ rfl (by omega) hsx ?_; intro v6 w6 hown6 hgrow6; have hb6 : Below W.heap.size W w6 := HB5.out.grown hgrow6.out HB5.out.size (fun b hb => (owns_lt HO5.out hb).2); have HB6 := hid hb6; have HM6 := hid (HMW.out.below hb6); have d06 := (HDW.out.keep (hb6.block p hpW)).cells.1; clear hb6)
                refine (HN4.out _ HM6.out).mono ?_
                rintro e w1 ⟨rfl, hw9⟩
                rw [hw9]
                clear hw9 w1
                go_wp2
                go_roundw
                case rel =>
                  refine ⟨L ++ [Bf.mk x1 x2 true], x4.toNat, by rw [Int.toNat_of_nonneg r4.1], by omega, ?_, hown6.out, HB6.out, ?_⟩
                  · rw [List.length_append]; simp; have := HLN.out; omega
                  · rw [← HRC.out, show n + 1 - (L ++ [Bf.mk x1 x2 true]).length = fu by rw [List.length_append]; simp; omega]
                case measure =>
                  obtain ⟨v6a, v6c, rfl⟩ := owns_slice hown6.out
                  have := HLN.out
                  simp [lenOf]
                  omega
end Go.Proofs.YtdjghkngiicncaaGreat
