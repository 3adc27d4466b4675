/- RefG, RefH in one text. -/
import Derived.Test.YtdjghkngiicncaaGreatRefF
/- The document's driver: Used, where nothing was used, or what does not fly. -/
namespace Go.Proofs.YtdjghkngiicncaaGreat
open Go.RowKit

set_option maxRecDepth 100000 in
set_option maxHeartbeats 2000000 in
theorem refUsed_none (w : World) (p gt fl fc : Nat) (fa : Option Addr) (g len cap base n N put got : Nat) (f : Nat → Int) (hd : RBox w p gt (.slice fa fl fc) g len cap base n put got) (hgot : got < 65536) (hm : Mem w g N f) (G : RGeo len base n N)
    (h : rd f (base + 18 * n + 4 + 2) 2 = got) :
    Calls Tryz.prog 36 #[.pointer (some ⟨p, 0, none⟩)] w fun e w' => e = .returned (.tuple #[.int .i64 0, .int .i64 0, .int .i64 2]) ∧ Below w.heap.size w w' := by
  obtain ⟨n1, n2, fit, hle, hbig⟩ := G
  obtain ⟨d0, d1, d2, d3, d4, d5, d6, fz4, fz5, fz6⟩ := hd.cells
  have hpl : p < w.heap.size := hd.lt
  have hml : len ≤ maxLen := by unfold maxLen; omega
  have hn0 : ¬ ((n : Int) = 0) := by omega
  have hmlt : got % n < n := Nat.mod_lt _ (by omega)
  have e1 : IntKind.i64.wrap (18 * (n : Int)) = 18 * (n : Int) := IntWalk.i64_in _ (by omega)
  have e2 : IntKind.i64.wrap ((base : Int) + 18 * n) = (base : Int) + 18 * n := IntWalk.i64_in _ (by omega)
  have e3 : IntKind.i64.wrap ((base : Int) + 18 * n + 4) = ((base + 18 * n + 4 : Nat) : Int) := by rw [IntWalk.i64_in _ (by omega)]; omega
  have e9 : IntKind.i64.wrap (((base + 18 * n + 4 : Nat) : Int) + 2) = ((base + 18 * n + 4 + 2 : Nat) : Int) := by rw [IntWalk.i64_in _ (by omega)]; omega
  have e4 : Int.tmod (got : Int) (n : Int) = ((got % n : Nat) : Int) := (Int.ofNat_tmod got n).symm
  have e5 : IntKind.i64.wrap (8 * ((got % n : Nat) : Int)) = 8 * ((got % n : Nat) : Int) := IntWalk.i64_in _ (by omega)
  have e6 : IntKind.i64.wrap (((base + 18 * n + 4 : Nat) : Int) + 4) = ((base + 18 * n + 4 : Nat) : Int) + 4 := IntWalk.i64_in _ (by omega)
  have e7 : IntKind.i64.wrap (((base + 18 * n + 4 : Nat) : Int) + 4 + 8 * ((got % n : Nat) : Int)) = ((base + 18 * n + 4 + (4 + got % n * 8) : Nat) : Int) := by rw [IntWalk.i64_in _ (by omega)]; omega
  have e8 : IntKind.i64.wrap (((base + 18 * n + 4 + (4 + got % n * 8) : Nat) : Int) + 4) = ((base + 18 * n + 4 + (4 + got % n * 8) + 4 : Nat) : Int) := by rw [IntWalk.i64_in _ (by omega)]; omega
  have e10 : IntKind.i64.wrap ((got : Int) + 1) = (got : Int) + 1 := IntWalk.i64_in _ (by omega)
  have e11 : Int.tmod ((got : Int) + 1) 65536 = (((got + 1) % 65536 : Nat) : Int) := by rw [show ((got : Int) + 1) = ((got + 1 : Nat) : Int) by omega]; exact (Int.ofNat_tmod (got + 1) 65536).symm
  have HL2 := hid (fun wx (h : Mem wx g N f) => refle_any wx g N len cap (base + 18 * n + 4 + 2) 2 f h hle hml (by omega) (.inl rfl))
  have HL3 := hid (fun wx (h : Mem wx g N f) => refle_any wx g N len cap (base + 18 * n + 4 + (4 + got % n * 8)) 4 f h hle hml (by omega) (.inr rfl))
  have HL4 := hid (fun wx (h : Mem wx g N f) => refle_any wx g N len cap (base + 18 * n + 4 + (4 + got % n * 8) + 4) 4 f h hle hml (by omega) (.inr rfl))
  have HD := hid hd
  have HM := hid hm
  clear hd hm
  clear HL3 HL4
  generalize rd f (base + 18 * n + 4 + 2) 2 = ix at *
  generalize base + 18 * n + 4 + (4 + got % n * 8) + 4 = a2 at *
  generalize base + 18 * n + 4 + (4 + got % n * 8) = a1 at *
  generalize base + 18 * n + 4 + 2 = pu2 at *
  generalize base + 18 * n + 4 = pu at *
  generalize got % n = m at *
  generalize hg1e : (got + 1) % 65536 = got1 at *
  clear hg1e
  have g1 : (ix == (got : Int)) = true := by simpa using h
  clear h
  go_enter Tryz.func36, Tryz.ntmps36
  go_wp2
  go_quiet (fail)
  obtain ⟨wA, hwA⟩ : ∃ wA, wA = w.drewN nq := ⟨_, rfl⟩
  rw [← hwA]
  have hbwA : Below w.heap.size w wA := by rw [hwA]; exact below_drewN (Below.refl _ w) _
  clear hwA
  have HBwA := hid hbwA
  have HDwA : Hid (RBox wA p gt (.slice fa fl fc) g len cap base n put got) := hid ((hbwA.block p hpl).trans HD.out)
  have HMwA := hid (HM.out.below hbwA)
  obtain ⟨d0, d1, d2, d3, d4, d5, d6, fz4, fz5, fz6⟩ := HDwA.out.cells
  clear hbwA
  go_wp2
  go_quiet ((go_at_call 60; exact Calls.quiet_of_same (HL2.out _ (HMwA.out.below (below_drewN (Below.refl wA.heap.size wA) _)))))
  go_wp2
  go_ret3
  exact ⟨rfl, below_drewN HBwA.out _⟩

set_option maxRecDepth 100000 in
set_option maxHeartbeats 2000000 in
theorem refUsed_bad (w : World) (p gt fl fc : Nat) (fa : Option Addr) (g len cap base n N put got : Nat) (f : Nat → Int) (hd : RBox w p gt (.slice fa fl fc) g len cap base n put got) (hgot : got < 65536) (hm : Mem w g N f) (G : RGeo len base n N)
    (F : List (Nat × Value)) (hF : FRow w (.slice fa fl fc) F) (hpF : ∀ b, (Value.slice fa fl fc).ownBlock = some b → b ≠ p) (f2 : fl ≤ 256)
    (h : rd f (base + 18 * n + 4 + 2) 2 ≠ got) (hno : ∀ q ∈ F, (q.1 : Int) ≠ rd f (base + 18 * n + 4 + (4 + got % n * 8)) 4) :
    Calls Tryz.prog 36 #[.pointer (some ⟨p, 0, none⟩)] w fun e w' => e = .returned (.tuple #[.int .i64 0, .int .i64 0, .int .i64 15]) ∧ Mods (fun b => b = p) w w' ∧ RBox w' p gt (.slice fa fl fc) g len cap base n put ((got + 1) % 65536) := by
  obtain ⟨n1, n2, fit, hle, hbig⟩ := G
  obtain ⟨d0, d1, d2, d3, d4, d5, d6, fz4, fz5, fz6⟩ := hd.cells
  have hpl : p < w.heap.size := hd.lt
  have hml : len ≤ maxLen := by unfold maxLen; omega
  have hn0 : ¬ ((n : Int) = 0) := by omega
  have hmlt : got % n < n := Nat.mod_lt _ (by omega)
  have e1 : IntKind.i64.wrap (18 * (n : Int)) = 18 * (n : Int) := IntWalk.i64_in _ (by omega)
  have e2 : IntKind.i64.wrap ((base : Int) + 18 * n) = (base : Int) + 18 * n := IntWalk.i64_in _ (by omega)
  have e3 : IntKind.i64.wrap ((base : Int) + 18 * n + 4) = ((base + 18 * n + 4 : Nat) : Int) := by rw [IntWalk.i64_in _ (by omega)]; omega
  have e9 : IntKind.i64.wrap (((base + 18 * n + 4 : Nat) : Int) + 2) = ((base + 18 * n + 4 + 2 : Nat) : Int) := by rw [IntWalk.i64_in _ (by omega)]; omega
  have e4 : Int.tmod (got : Int) (n : Int) = ((got % n : Nat) : Int) := (Int.ofNat_tmod got n).symm
  have e5 : IntKind.i64.wrap (8 * ((got % n : Nat) : Int)) = 8 * ((got % n : Nat) : Int) := IntWalk.i64_in _ (by omega)
  have e6 : IntKind.i64.wrap (((base + 18 * n + 4 : Nat) : Int) + 4) = ((base + 18 * n + 4 : Nat) : Int) + 4 := IntWalk.i64_in _ (by omega)
  have e7 : IntKind.i64.wrap (((base + 18 * n + 4 : Nat) : Int) + 4 + 8 * ((got % n : Nat) : Int)) = ((base + 18 * n + 4 + (4 + got % n * 8) : Nat) : Int) := by rw [IntWalk.i64_in _ (by omega)]; omega
  have e8 : IntKind.i64.wrap (((base + 18 * n + 4 + (4 + got % n * 8) : Nat) : Int) + 4) = ((base + 18 * n + 4 + (4 + got % n * 8) + 4 : Nat) : Int) := by rw [IntWalk.i64_in _ (by omega)]; omega
  have e10 : IntKind.i64.wrap ((got : Int) + 1) = (got : Int) + 1 := IntWalk.i64_in _ (by omega)
  have e11 : Int.tmod ((got : Int) + 1) 65536 = (((got + 1) % 65536 : Nat) : Int) := by rw [show ((got : Int) + 1) = ((got + 1 : Nat) : Int) by omega]; exact (Int.ofNat_tmod (got + 1) 65536).symm
  have HL2 := hid (fun wx (h : Mem wx g N f) => refle_any wx g N len cap (base + 18 * n + 4 + 2) 2 f h hle hml (by omega) (.inl rfl))
  have HL3 := hid (fun wx (h : Mem wx g N f) => refle_any wx g N len cap (base + 18 * n + 4 + (4 + got % n * 8)) 4 f h hle hml (by omega) (.inr rfl))
  have HL4 := hid (fun wx (h : Mem wx g N f) => refle_any wx g N len cap (base + 18 * n + 4 + (4 + got % n * 8) + 4) 4 f h hle hml (by omega) (.inr rfl))
  have HD := hid hd
  have HM := hid hm
  clear hd hm
  generalize rd f (base + 18 * n + 4 + 2) 2 = ix at *
  generalize rd f (base + 18 * n + 4 + (4 + got % n * 8)) 4 = hx at *
  generalize rd f (base + 18 * n + 4 + (4 + got % n * 8) + 4) 4 = lx at *
  generalize base + 18 * n + 4 + (4 + got % n * 8) + 4 = a2 at *
  generalize base + 18 * n + 4 + (4 + got % n * 8) = a1 at *
  generalize base + 18 * n + 4 + 2 = pu2 at *
  generalize base + 18 * n + 4 = pu at *
  generalize got % n = m at *
  generalize hg1e : (got + 1) % 65536 = got1 at *
  clear hg1e
  have g1 : (ix == (got : Int)) = false := by simpa using h
  have HNO := hid hno
  have hfl : F.length = fl := by
    obtain ⟨xa, xc, hx⟩ := owns_slice hF
    simp only [Value.slice.injEq] at hx
    omega
  have HFL := hid hfl
  have HF := hid hF
  have HPF := hid hpF
  clear h hno hF hpF hfl
  go_enter Tryz.func36, Tryz.ntmps36
  go_wp2
  go_quiet (fail)
  obtain ⟨wA, hwA⟩ : ∃ wA, wA = w.drewN nq := ⟨_, rfl⟩
  rw [← hwA]
  have hbwA : Below w.heap.size w wA := by rw [hwA]; exact below_drewN (Below.refl _ w) _
  clear hwA
  have HBwA := hid hbwA
  have HDwA : Hid (RBox wA p gt (.slice fa fl fc) g len cap base n put got) := hid ((hbwA.block p hpl).trans HD.out)
  have HMwA := hid (HM.out.below hbwA)
  obtain ⟨d0, d1, d2, d3, d4, d5, d6, fz4, fz5, fz6⟩ := HDwA.out.cells
  clear hbwA
  go_wp2
  go_quiet ((go_at_call 60; exact Calls.quiet_of_same (HL2.out _ (HMwA.out.below (below_drewN (Below.refl wA.heap.size wA) _)))))
  obtain ⟨wB, hwB⟩ : ∃ wB, wB = wA.drewN nq := ⟨_, rfl⟩
  rw [← hwB]
  have hbwB : Below w.heap.size w wB := by rw [hwB]; exact below_drewN HBwA.out _
  clear hwB
  have HBwB := hid hbwB
  have HDwB : Hid (RBox wB p gt (.slice fa fl fc) g len cap base n put got) := hid ((hbwB.block p hpl).trans HD.out)
  have HMwB := hid (HM.out.below hbwB)
  obtain ⟨d0, d1, d2, d3, d4, d5, d6, fz4, fz5, fz6⟩ := HDwB.out.cells
  clear hbwB
  clear HBwA HDwA HMwA
  go_wp2
  go_quiet (fail)
  obtain ⟨wC, hwC⟩ : ∃ wC, wC = wB.drewN nq := ⟨_, rfl⟩
  rw [← hwC]
  have hbwC : Below w.heap.size w wC := by rw [hwC]; exact below_drewN HBwB.out _
  clear hwC
  have HBwC := hid hbwC
  have HDwC : Hid (RBox wC p gt (.slice fa fl fc) g len cap base n put got) := hid ((hbwC.block p hpl).trans HD.out)
  have HMwC := hid (HM.out.below hbwC)
  obtain ⟨d0, d1, d2, d3, d4, d5, d6, fz4, fz5, fz6⟩ := HDwC.out.cells
  clear hbwC
  clear HBwB HDwB HMwB
  go_wp2_with fail
  refine (HL3.out _ HMwC.out).mono ?_
  rintro e w1 ⟨rfl, hw1⟩
  rw [hw1]
  clear hw1 w1
  go_wp2_with fail
  refine (HL4.out _ HMwC.out).mono ?_
  rintro e w1 ⟨rfl, hw1⟩
  rw [hw1]
  clear hw1 w1
  go_wp2
  have hdW : RBox (wC.setCell ⟨p, 5, none⟩ (.int .i64 got1)) p gt (.slice fa fl fc) g len cap base n put got1 := setc HDwC.out 5 _
  have hmoW : Mods (fun b => b = p) w (wC.setCell ⟨p, 5, none⟩ (.int .i64 got1)) := (Mods.of_below HBwC.out).setCell p 5 _ rfl
  clear HDwC HMwC HBwC HD HM HL2 HL3 HL4 e2 e3 e4 e5 e6 e7 e8 e9 e10 e11 g1 hmlt
  generalize wC.setCell ⟨p, 5, none⟩ (.int .i64 got1) = W at *
  obtain ⟨d0, d1, d2, d3, d4, d5, d6, fz4, fz5, fz6⟩ := hdW.cells
  have HDW := hid hdW
  have HMOW := hid hmoW
  clear hdW hmoW
  go_loopw [9] (fun x wx => ∃ i : Nat, i ≤ fl ∧ x = .int .i64 i ∧ wx = W) (fun x _ => fl - (RowKit.intOf x).toNat)
  case atStart => exact ⟨0, Nat.zero_le _, rfl, rfl⟩
  case round =>
    obtain ⟨i, hi, rfl, rfl⟩ := hrel
    by_cases hil : i < fl
    · have hii : (i : Int) < fl := by omega
      have ei : IntKind.i64.wrap ((i : Int) + 1) = (i : Int) + 1 := IntWalk.i64_in _ (by omega)
      have hi0 : (0 : Int) ≤ (i : Int) := by omega
      obtain ⟨fb, fcc, hfv, hfb, hcells⟩ := HF.out.open_ (by rw [HFL.out]; omega)
      simp only [Value.slice.injEq] at hfv
      obtain ⟨hfa, _, _⟩ := hfv
      subst hfa
      have c1 := HMOW.out.cell (hcells i (by rw [HFL.out]; exact hil)).1 (HPF.out fb (by simp [Value.ownBlock]))
      have hne := HNO.out (F.getD i (0, undef)) (by rw [List.getD_eq_getElem?_getD, List.getElem?_eq_getElem (by rw [HFL.out]; exact hil)]; exact List.getElem_mem _)
      clear hcells
      generalize (F.getD i (0, undef)).1 = fh at *
      have heb : ((fh : Int) == hx) = false := by simpa using hne
      go_wp2
      go_roundw
      case rel => exact ⟨i + 1, by omega, by go_num, trivial⟩
      case measure => simp only [RowKit.intOf]; omega
    · have hii : ¬ ((i : Int) < fl) := by omega
      go_wp2
      go_ret3
      exact ⟨rfl, HMOW.out, HDW.out⟩
end Go.Proofs.YtdjghkngiicncaaGreat

/- Rows of chains: what is put behind them. -/
namespace Go.Proofs.YtdjghkngiicncaaGreat
open Go.RowKit

theorem info90 : ∃ i, Tryz.prog.info? 127 = some i ∧ i.zero = some (.agg #[.int .i64 0, .slice none 0 0]) ∧ i.size = 2 ∧ i.bytes = 32 := by
  have : (Tryz.prog.info? 127).map (fun i => (i.zero, i.size, i.bytes)) = some (some (.agg #[.int .i64 0, .slice none 0 0]), 2, 32) := by kernel_rfl
  cases h : Tryz.prog.info? 127 with
  | none => rw [h] at this; cases this
  | some i => rw [h] at this; simp at this; exact ⟨i, rfl, this.1, this.2.1, this.2.2⟩
theorem cellsF_append (F F' : List (Nat × Value)) : cellsF (F ++ F') = cellsF F ++ cellsF F' := by simp [cellsF]
theorem cellsF_one {F : List (Nat × Value)} (h : ∀ q ∈ F, q.2.oneCell' = true) : ∀ u ∈ cellsF F, u.oneCell' = true := by
  intro u hu
  simp only [cellsF, List.mem_flatMap] at hu
  obtain ⟨q, hq, hu⟩ := hu
  simp only [List.mem_cons, List.not_mem_nil, or_false] at hu
  rcases hu with rfl | rfl
  · rfl
  · exact h q hq

theorem wpList_append_ch {w : World} {ops : Array Oper} {rest : List Oper} {o : Oper} {a : Act} {Q : Exit → Act → World → Prop} (hgd : o.guard = none) (s x : Operand)
    (ho : o.op = .call { callee := .builtin .append, args := #[s, x], argTypes := #[109, 109] }) (base : Nat)
    (v : Value) (L : List (Nat × Value)) (hs : a.eval s = v) (hown : w.ownsRow base 127 2 v L.length (cellsF L)) (cb off m c : Nat) (M : List (Nat × Value)) (hx : a.eval x = .slice (some ⟨cb, off, none⟩) m c) (hM : M.length = m)
    (hcells : ∀ i, i < m → w.cell? ⟨cb, off + i * 2, none⟩ = some (.int .i64 (M.getD i (0, undef)).1) ∧ w.cell? ⟨cb, off + i * 2 + 1, none⟩ = some (M.getD i (0, undef)).2) (h1 : ∀ q ∈ M, q.2.oneCell' = true)
    (hl : L.length + m ≤ 65536) (hb : base ≤ w.heap.size)
    (h : ∀ (v' : Value) (w' : World), Hid (w'.ownsRow base 127 2 v' (L ++ M).length (cellsF (L ++ M))) → Hid (w.grownBy w' v.ownBlock) → Hid (v'.ownBlock = v.ownBlock ∨ v'.ownBlock = some w.heap.size) → wpList Tryz.prog ops Q rest (a.put o.dst v') w') :
    wpList Tryz.prog ops Q (o :: rest) a w := by
  obtain ⟨i0, hi, hz0, hz1, hz2⟩ := info90
  refine wpList_append_own_at _ hgd s x 109 ho base 127 i0 _ 2 32 Tryz.underlying109 hi hz0 hz1 hz2 rfl (by decide) v L.length (cellsF L) hs hown ⟨cb, off, none⟩ m c (cellsF M) hx (by rw [cellsF_len, hM]) (fun j u hj => ?_) (cellsF_one h1) (by unfold maxLen; omega) (by omega) hb ?_
  · have hj2 : j < M.length * 2 := by have := (List.getElem?_eq_some_iff.1 hj).1; rw [cellsF_len] at this; exact this
    rw [add_addr]
    obtain ⟨c1, c2⟩ := hcells (j / 2) (by omega)
    obtain ⟨g1, g2⟩ := cellsF_get M (j / 2) (by omega)
    rcases (show j = j / 2 * 2 ∨ j = j / 2 * 2 + 1 by omega) with e | e
    · rw [e, c1, ← g1, ← e]; exact hj
    · rw [e, ← Nat.add_assoc, c2, ← g2, ← e]; exact hj
  · intro v' w' k1 k2 _ k4
    refine h v' w' (hid ?_) (hid k2) (hid k4)
    rw [List.length_append, cellsF_append, hM]
    exact k1
end Go.Proofs.YtdjghkngiicncaaGreat
