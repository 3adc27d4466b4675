/- Decode of a block: the program's. Condition: num's table holds its sixteen words. -/
import Derived.Test.YtbimociijdaahaaDoorVgB
namespace Go.Proofs.YtbimociijdaahaaDoor
open Go.RowKit Go.Maps
set_option linter.unusedVariables false

set_option maxRecDepth 100000 in
set_option maxHeartbeats 2000000 in
theorem Decode_512 (w : World) (S : Nat → Prop) (a : Addr) (c : Nat) (l : List Int) (hl : l.length = 512) (hc : 512 ≤ c) (h : By w S (some a) l) (hT : Tab w) :
    Calls Tryd.prog 8 #[.slice (some a) 512 c] w fun e w' => e = .returned (.tuple #[.agg (decA l), n64 (decE l)]) ∧ Below w.heap.size w w' := by
  obtain ⟨W, hW⟩ : ∃ W, W = w.alloc (.cells sup0 30) := ⟨_, rfl⟩
  have hb1 : Below w.heap.size w W := by rw [hW]; exact (Below.refl _ _).alloc (Nat.le_refl _) _
  have hh : W.heap[w.heap.size]? = some (.cells sup0 30 (0, 0)) := by rw [hW]; exact alloc_new w _
  have hI := h.isB
  have HY := hid (h.later hb1)
  have HTT := hid (hT.later hb1)
  have HLE := hid (fun (W' : World) (hb : Below W.heap.size W W') (p : Nat) (x : Int) (hx : x = p) (hp : p + 4 ≤ 512) => le_at W' (some a) 512 c p 4 x 4 l hx rfl hl hc (by decide) (.inl rfl) hp (HY.out.later hb).bytes)
  have d1 := le4_bd l 8 hI
  have d2 := le4_bd l 12 hI
  have d3 := le4_bd l 508 hI
  have HPR := Plan_any (le4 l 8) (le4 l 12)
  have hcr : (l.take 508).length = 508 := by rw [List.length_take, hl]; rfl
  have HK := fun W' (hb : Below W.heap.size W W') => crc1 W' (some a) 508 c 1 (l.take 508) hcr.symm (by decide) ((HY.out.later hb).take 508).bytes (HTT.out.later hb)
  have hqb := crcL_bd (l.take 508) (fun x hx => hI x (List.mem_of_mem_take hx))
  have hcut := fun W' => cutH_run (some a) 512 c 508 (by omega) W'
  have HPX := hid (fun (W' : World) (hb : Below W.heap.size W W') => HasPrefix_any (W'.alloc (.cells (u8s supW).toArray 5 (8, 9))) (some a) (some ⟨W'.heap.size, 0, none⟩) 512 8 c 8 l supW hl rfl (by decide) hc (by decide) ((HY.out.later hb).later ((Below.refl _ _).alloc (Nat.le_refl _) _)).bytes (by_const W' supW (8, 9) supW_isB).bytes)
  have kc := fun (w : World) (C : Array Value) (n c : Nat) => Lib.run_convert_bytes_const (P := Tryd.prog) w 23 5 C n c Tryd.underlying23 Tryd.underlying5
  have HD15 := fun h => dec_15 hl h
  have HD13 := fun h h' h2 => dec_13 hl h h' h2
  have HD0 := fun h h' h2 => dec_0 hl h h' h2
  have e8 : rdN l 8 4 = le4 l 8 := rfl
  have e12 : rdN l 12 4 = le4 l 12 := rfl
  have e508 : rdN l 508 4 = le4 l 508 := rfl
  have HL8 := fun W' hb => HLE.out W' hb 8 8 rfl (by decide)
  have HL12 := fun W' hb => HLE.out W' hb 12 12 rfl (by decide)
  have HL508 := fun W' hb => HLE.out W' hb 508 508 rfl (by decide)
  rw [e8] at HL8
  rw [e12] at HL12
  rw [e508] at HL508
  generalize decE l = E at *
  generalize decA l = A at *
  generalize le4 l 8 = B at *
  generalize le4 l 12 = J at *
  generalize le4 l 508 = Q at *
  generalize crcL (l.take 508) = q at *
  generalize hX8 : l.take 8 = X8 at *
  have HB1 := hid hb1
  have HH := hid hh
  have HKK := hid HK
  replace HL8 := hid HL8
  replace HL12 := hid HL12
  replace HL508 := hid HL508
  replace HPR := hid HPR
  have hu1 : IntKind.i64.wrap B = B := IntWalk.i64_in _ (by omega)
  have hu2 : IntKind.i64.wrap J = J := IntWalk.i64_in _ (by omega)
  have hu3 : IntKind.u64.wrap q = q := IntWalk.u64_in _ (by omega)
  clear hb1 hh HK hI d1 d2 d3 hqb HY h hcr hX8 HLE e8 e12 e508 hT
  unfold sup0 at hW
  go_enter Tryd.func8, Tryd.ntmps8
  go_wp2_with (rw [← hW]; clear hW)
  refine (HL8.out W (Below.refl _ _)).mono ?_
  rintro e w1 ⟨rfl, q1, hq1⟩
  have hb1 : Below W.heap.size W w1 := by rw [hq1]; exact below_drewN (Below.refl _ _) _
  have HC2 := hid (HL12.out w1 hb1)
  have HBa := hid hb1
  clear hq1 hb1
  go_wp2_with fail
  refine HC2.out.mono ?_
  rintro e w2 ⟨rfl, q2, hq2⟩
  have hb2 : Below W.heap.size W w2 := by rw [hq2]; exact below_drewN HBa.out _
  have HBb := hid hb2
  have HC3 := hid (HPR.out w2)
  clear hq2 hb2 HC2 HBa
  by_cases hPz : planE B J = 0
  · rw [supA_ok hPz, hPz] at HC3
    unfold supC at HC3
    have HPZ := hid hPz
    clear hPz
    go_wp2_with fail
    refine HC3.out.mono ?_
    rintro e w4 ⟨rfl, hb4⟩
    obtain ⟨W5, hW5⟩ : ∃ X, X = w4.alloc (.cells #[n64 B, n64 J, n64 1, n64 2, n64 68, n64 69, n64 (planT B), n64 (planD B J)] 30) := ⟨_, rfl⟩
    have hb45 : Below w4.heap.size w4 W5 := by rw [hW5]; exact (Below.refl _ _).alloc (Nat.le_refl _) _
    have hb5 : Below W.heap.size W W5 := HBb.out.trans ((hb4.trans (hb45.mono hb4.size)).mono HBb.out.size)
    have hs5 : W5.heap[w4.heap.size]? = some (.cells #[n64 B, n64 J, n64 1, n64 2, n64 68, n64 69, n64 (planT B), n64 (planD B J)] 30 (0, 0)) := by rw [hW5]; exact alloc_new w4 _
    have HS5 := hid hs5
    have HB5 := hid hb5
    have HPX5 := HPX.out W5 hb5
    obtain ⟨W6, hW6⟩ : ∃ X, X = W5.alloc (.cells (u8s supW).toArray 5 (8, 9)) := ⟨_, rfl⟩
    have hb6 : Below W.heap.size W W6 := by rw [hW6]; exact hb5.alloc hb5.size _
    have hb56 : Below W5.heap.size W5 W6 := by rw [hW6]; exact (Below.refl _ _).alloc (Nat.le_refl _) _
    rw [← hW6] at HPX5
    have HS6 := hid ((hb56.block _ (Array.getElem?_eq_some_iff.1 hs5).1).trans hs5)
    have HB6 := hid hb6
    have HX5 := hid HPX5
    have hWW : W6 = W5.alloc (.cells #[.int .u8 85, .int .u8 78, .int .u8 68, .int .u8 67, .int .u8 82, .int .u8 79, .int .u8 70, .int .u8 49] 5 (8, 9)) := hW6
    clear hb4 hb45 hb5 hs5 HPX5 hb6 hb56 HC3 HPX hW6
    go_wp2_with (first | (rw [← hW5]; clear hW5) | (rw [← hWW]; clear hWW))
    refine HX5.out.mono ?_
    rintro e w7 ⟨rfl, rfl⟩
    clear HX5
    have HFH : Hid (∀ W', Below W.heap.size W W' → W'.heap[w.heap.size]? = some (.cells sup0 30 (0, 0)) ∧ Below w.heap.size w W') := hid (fun W' hb => ⟨(hb.block _ (Array.getElem?_eq_some_iff.1 HH.out).1).trans HH.out, HB1.out.trans (hb.mono HB1.out.size)⟩)
    by_cases hS8 : X8 = supW
    · have hdS : decide (X8 = supW) = true := by simpa using hS8
      rw [hdS]
      have HC8 := hid (HL508.out w7 HB6.out)
      clear hdS
      go_wp2_with fail
      refine HC8.out.mono ?_
      rintro e w8 ⟨rfl, q8, hq8⟩
      have hb8 : Below W.heap.size W w8 := by rw [hq8]; exact below_drewN HB6.out _
      have hs8 : w8.heap[w4.heap.size]? = some (.cells #[n64 B, n64 J, n64 1, n64 2, n64 68, n64 69, n64 (planT B), n64 (planD B J)] 30 (0, 0)) := by rw [hq8]; exact HS6.out
      have HC9 := HKK.out w8 hb8
      obtain ⟨W9, hW9⟩ : ∃ X, X = w8.alloc (.cells #[.slice (some a) 508 c] 23) := ⟨_, rfl⟩
      rw [← hW9] at HC9
      have hb89 : Below w8.heap.size w8 W9 := by rw [hW9]; exact (Below.refl _ _).alloc (Nat.le_refl _) _
      have hs9 := (hb89.block _ (Array.getElem?_eq_some_iff.1 hs8).1).trans hs8
      obtain ⟨s0, s1, s2, s3, s4, s5, s6, s7⟩ := cells8 hs9
      obtain ⟨hh9, hB9⟩ := HFH.out W9 (hb8.trans (hb89.mono hb8.size))
      have HH9 := hid hh9
      have HB9 := hid hB9
      have hf9 := fun k => froz_of hh9 k
      unfold sup0 at hh9
      obtain ⟨z0, z1, z2, z3, z4, z5, z6, z7⟩ := cells8 hh9
      replace HC9 := hid HC9
      clear hq8 hb8 hs8 hb89 hs9 hh9 hB9 HC8 HFH
      by_cases hQ : Q = q
      · obtain ⟨rfl, rfl⟩ := HD0 hS8 HPZ.out hQ
        subst hQ
        have hQ' : (Q != Q) = false := by simp
        clear HD0 HD13 HD15 hS8
        go_wp2_with (first | (rw [← hW9]; clear hW9))
        refine HC9.out.mono ?_
        rintro e w10 ⟨rfl, hw10⟩
        rw [hw10]
        clear hw10
        go_wp2
        exact bodyPost_ret (results_ct rfl _ _ _ _ _ _ rfl (set8_heap HH9.out _ _ _ _ _ _ _ _) Tryd.underlying30 sizeSup) rfl ⟨rfl, set8_below HB9.out (Nat.le_refl _) _ _ _ _ _ _ _ _⟩
      · obtain ⟨rfl, rfl⟩ := HD13 hS8 HPZ.out hQ
        have hQ' : (Q != q) = true := by simpa using hQ
        clear HD0 HD13 HD15 hS8
        go_wp2_with (first | (rw [← hW9]; clear hW9))
        refine HC9.out.mono ?_
        rintro e w10 ⟨rfl, hw10⟩
        rw [hw10]
        clear hw10
        go_wp2
        exact bodyPost_ret (results_ct rfl _ _ _ _ _ _ rfl (set8_heap HH9.out _ _ _ _ _ _ _ _) Tryd.underlying30 sizeSup) rfl ⟨rfl, set8_below HB9.out (Nat.le_refl _) _ _ _ _ _ _ _ _⟩
    · have hdS : decide (X8 = supW) = false := by simpa using hS8
      rw [hdS]
      obtain ⟨rfl, rfl⟩ := HD15 (.inl hS8)
      obtain ⟨hh9, hB9⟩ := HFH.out w7 HB6.out
      have HH9 := hid hh9
      have HB9 := hid hB9
      have hf9 := fun k => froz_of hh9 k
      unfold sup0 at hh9
      obtain ⟨z0, z1, z2, z3, z4, z5, z6, z7⟩ := cells8 hh9
      clear hdS HD0 HD13 HD15 hS8 hh9 hB9 HFH
      go_wp2
      exact bodyPost_ret (results_ct rfl _ _ _ _ _ _ rfl (set8_heap HH9.out _ _ _ _ _ _ _ _) Tryd.underlying30 sizeSup) rfl ⟨rfl, set8_below HB9.out (Nat.le_refl _) _ _ _ _ _ _ _ _⟩
  · rw [supA_no hPz] at HC3
    unfold sup0 at HC3
    obtain ⟨rfl, rfl⟩ := HD15 (.inr hPz)
    generalize planE B J = Ez at *
    have hEz : (Ez != 0) = true := by simpa using hPz
    clear hPz HD0 HD13 HD15
    go_wp2_with fail
    refine HC3.out.mono ?_
    rintro e w4 ⟨rfl, hb4⟩
    have hbW4 : Below W.heap.size W w4 := HBb.out.trans (hb4.mono HBb.out.size)
    have hh4 : w4.heap[w.heap.size]? = some (.cells sup0 30 (0, 0)) := (hbW4.block _ (Array.getElem?_eq_some_iff.1 HH.out).1).trans HH.out
    unfold sup0 at hh4
    obtain ⟨hha, hfa, y0, y1, y2, y3, y4, y5, y6, y7⟩ := cells8a hh4
    have HHA := hid hha
    have HBA : Hid (∀ o, Below w.heap.size w (w4.alloc o)) := hid (fun o => HB1.out.trans ((hbW4.alloc hbW4.size o).mono HB1.out.size))
    clear hb4 hh4 hha hbW4 HC3
    go_wp2
    exact bodyPost_ret (results_ct rfl _ _ _ _ _ _ rfl (set8_heap (HHA.out _) _ _ _ _ _ _ _ _) Tryd.underlying30 sizeSup) rfl ⟨rfl, set8_below (HBA.out _) (Nat.le_refl _) _ _ _ _ _ _ _ _⟩
end Go.Proofs.YtbimociijdaahaaDoor
