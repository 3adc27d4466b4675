/- The document's driver: Used, where a chain comes home. -/
import Derived.Test.YtdjghkngiicncaaGreatRefH
namespace Go.Proofs.YtdjghkngiicncaaGreat
open Go.RowKit

theorem Tk.congr {w : World} {gt n : Nat} {t t' : Nat → Bool} (h : Tk w gt n t) (ht : ∀ i, i < n → t' i = t i) : Tk w gt n t' := World.rowIs.congr h (fun i hi => by rw [ht i hi])
theorem Tk.set {w : World} {gt n : Nat} {t : Nat → Bool} (h : Tk w gt n t) (x : Nat) (v : Bool) : Tk (w.setCell ⟨gt, x, none⟩ (.bool v)) gt n (fun i => if i = x then v else t i) :=
  World.rowIs.congr (World.rowIs.set h x (.bool v)) (fun i _ => by by_cases e : i = x <;> simp [e])
theorem take_has (ch : List Nat) (k : Nat) (hk : k < ch.length) (i : Nat) : (ch.take (k + 1)).contains i = ((ch.take k).contains i || (i == ch.getD k 0)) := by
  rw [List.take_succ_eq_append_getElem hk, List.contains_eq_any_beq, List.any_append, List.contains_eq_any_beq]
  simp [List.getD, hk]
theorem getD_mid {α : Type} (l1 l2 : List α) (x d : α) (i : Nat) : (i < l1.length → (l1 ++ x :: l2).getD i d = l1.getD i d) ∧ (l1 ++ x :: l2).getD l1.length d = x ∧ (l1 ++ x :: l2).getD (l1.length + 1 + i) d = l2.getD i d := by
  refine ⟨fun h => ?_, ?_, ?_⟩
  · simp [List.getD, List.getElem?_append_left h]
  · simp [List.getD]
  · rw [List.getD, List.getElem?_append_right (by omega), show l1.length + 1 + i - l1.length = i + 1 by omega, List.getElem?_cons_succ, List.getD]

def behind2 (b len cap lo : Nat) : Value := .slice (if cap = lo then some ⟨b, 0, none⟩ else some ⟨b, lo * 2, none⟩) (len - lo) (cap - lo)
set_option maxRecDepth 100000 in
theorem cut82_h (b len cap hi : Nat) (hh : hi ≤ cap) (W : World) : (Instr.slice 109 (.slice (some ⟨b, 0, none⟩) len cap) none (some (.int .i64 hi)) none).run Tryz.prog W = .ok (.slice (some ⟨b, 0, none⟩) hi cap) W := by
  have hz : (sizeOf 127).run Tryz.prog W = .ok 2 W := by kernel_rfl
  rw [run_slice_h (P := Tryz.prog) W 109 (some ⟨b, 0, none⟩) len cap Tryz.underlying109 .i64 hi (by omega) (by omega)]
  have e : Tryz.prog.elem 109 = 127 := by kernel_rfl
  rw [e, hz]
  simp [sliced, Addr.add]
set_option maxRecDepth 100000 in
theorem cut82_l (b len cap lo : Nat) (h : lo ≤ len) (W : World) : (Instr.slice 109 (.slice (some ⟨b, 0, none⟩) len cap) (some (.int .i64 lo)) none none).run Tryz.prog W = .ok (behind2 b len cap lo) W := by
  have hz : (sizeOf 127).run Tryz.prog W = .ok 2 W := by kernel_rfl
  rw [run_slice_l (P := Tryz.prog) W 109 (some ⟨b, 0, none⟩) len cap Tryz.underlying109 .i64 lo (by omega) (by omega)]
  have e : Tryz.prog.elem 109 = 127 := by kernel_rfl
  rw [e, hz]
  unfold behind2
  by_cases h2 : cap = lo
  · simp [sliced, h2]
  · simp [sliced, Addr.add, h2]
    omega
theorem behind2_slice (b len cap lo : Nat) : ∃ off, behind2 b len cap lo = .slice (some ⟨b, off, none⟩) (len - lo) (cap - lo) ∧ (off = lo * 2 ∨ cap = lo) := by
  unfold behind2
  by_cases h : cap = lo
  · exact ⟨0, by rw [if_pos h], .inr h⟩
  · exact ⟨lo * 2, by rw [if_neg h], .inl rfl⟩

set_option maxRecDepth 100000 in
set_option maxHeartbeats 4000000 in
theorem refUsed_ok (w : World) (p gt fl fc : Nat) (fa : Option Addr) (g len cap base n N put got : Nat) (f : Nat → Int) (hd : RBox w p gt (.slice fa fl fc) g len cap base n put got) (hgot : got < 65536) (hm : Mem w g N f) (G : RGeo len base n N)
    (F1 F2 : List (Nat × Value)) (h0 : Nat) (v0 : Value) (ch : List Nat) (t : Nat → Bool) (hF : FRow w (.slice fa fl fc) (F1 ++ (h0, v0) :: F2)) (hch : IRow w v0 ch) (htk : Tk w gt n t) (hlt : ∀ x ∈ ch, x < n) (hcl : 0 < ch.length ∧ ch.length ≤ 256)
    (f2 : fl ≤ 256) (hone : ∀ q ∈ F1 ++ (h0, v0) :: F2, q.2.oneCell' = true)
    (h : rd f (base + 18 * n + 4 + 2) 2 ≠ got) (hno : ∀ q ∈ F1, (q.1 : Int) ≠ rd f (base + 18 * n + 4 + (4 + got % n * 8)) 4) (hyes : (h0 : Int) = rd f (base + 18 * n + 4 + (4 + got % n * 8)) 4) :
    Calls Tryz.prog 36 #[.pointer (some ⟨p, 0, none⟩)] w fun e w' => e = .returned (.tuple #[.int .i64 (rd f (base + 18 * n + 4 + (4 + got % n * 8)) 4), .int .i64 (rd f (base + 18 * n + 4 + (4 + got % n * 8) + 4) 4), .int .i64 0]) ∧ Mods (fun b => b = p ∨ b = gt) w w' ∧
      ∃ vf, RBox w' p gt vf g len cap base n put ((got + 1) % 65536) ∧ Tk w' gt n (fun i => t i && !(ch.contains i)) ∧ FRow w' vf (F1 ++ F2) ∧ ∀ b, vf.ownBlock = some b → w.heap.size ≤ b := by
  have hkp : w.heap[p]? = _ := hd
  obtain ⟨ct, hkt, jk1, jk2⟩ := id htk
  clear jk1 jk2
  have hgtp : gt ≠ p := fun e => by rw [e, hkp] at hkt; cases hkt
  obtain ⟨vb, vc, hv0, hvb, jk1, jk2, hvc⟩ := hch.open_ hcl.1
  clear jk1 jk2
  obtain ⟨curv, hkv⟩ := hch.kind hvb
  have hvp : vb ≠ p := fun e => by rw [e, hkp] at hkv; cases hkv
  have hvt : vb ≠ gt := fun e => by rw [e, hkt] at hkv; cases hkv
  obtain ⟨fb, fcc, hfv, hfb, hcells⟩ := hF.open_ (by simp; omega)
  have hown := hF.2
  have hfcap : fl ≤ fc := by
    rcases hown with ⟨e1, _⟩ | ⟨g', cap', cur, e1, _, _, hc1, _⟩
    · rw [hfv] at e1; cases e1
    · simp only [Value.slice.injEq] at e1
      obtain ⟨_, e2, e3⟩ := e1
      omega
  obtain ⟨curf, hkf⟩ := owns_kind hF (g := fb) (by rw [hfv]; rfl)
  have hfp : fb ≠ p := fun e => by rw [e, hkp] at hkf; cases hkf
  have hft : fb ≠ gt := fun e => by rw [e, hkt] at hkf; cases hkf
  have hlen : fl = F1.length + 1 + F2.length := by
    simp only [Value.slice.injEq] at hfv
    have := hfv.2.1
    simp at this
    omega
  simp only [Value.slice.injEq] at hfv
  have hfa := hfv.1
  subst hfa
  obtain ⟨f1, hf1⟩ : ∃ f1, f1 = F1.length := ⟨_, rfl⟩
  have HC1 : Hid (∀ i, i < f1 → w.cell? ⟨fb, i * 2, none⟩ = some (.int .i64 (F1.getD i (0, undef)).1) ∧ w.cell? ⟨fb, i * 2 + 1, none⟩ = some (F1.getD i (0, undef)).2) := hid (fun i hi => by
    have := hcells i (by simp; omega)
    rw [(getD_mid F1 F2 (h0, v0) (0, undef) i).1 (by omega)] at this
    exact this)
  have HC2 : Hid (w.cell? ⟨fb, f1 * 2, none⟩ = some (.int .i64 h0) ∧ w.cell? ⟨fb, f1 * 2 + 1, none⟩ = some v0) := hid (by
    have := hcells f1 (by simp; omega)
    rw [hf1, (getD_mid F1 F2 (h0, v0) (0, undef) 0).2.1] at this
    rw [hf1]
    exact this)
  have HC3 : Hid (∀ i, i < F2.length → w.cell? ⟨fb, (f1 + 1 + i) * 2, none⟩ = some (.int .i64 (F2.getD i (0, undef)).1) ∧ w.cell? ⟨fb, (f1 + 1 + i) * 2 + 1, none⟩ = some (F2.getD i (0, undef)).2) := hid (fun i hi => by
    have := hcells (f1 + 1 + i) (by simp; omega)
    rw [hf1, (getD_mid F1 F2 (h0, v0) (0, undef) i).2.2] at this
    rw [hf1]
    exact this)
  have HF1 := hid hf1
  have HLEN := hid hlen
  have HON1 : Hid (∀ q ∈ F1, q.2.oneCell' = true) := hid (fun q hq => hone q (by simp [hq]))
  have HON2 : Hid (∀ q ∈ F2, q.2.oneCell' = true) := hid (fun q hq => hone q (by simp [hq]))
  have HVC := hid hvc
  have HNO := hid hno
  have HT := hid htk
  have HLT := hid hlt
  have hfll : f1 < fl := by omega
  have hgtl : gt < w.heap.size := htk.lt
  have hfbl : fb < w.heap.size := hfb
  subst hv0
  clear hkp hkt hkv hkf hfv hown hcells hone hch hF hvc hno htk hlt hlen hf1 hvb hfb
  obtain ⟨n1, n2, fit, hle, hbig⟩ := G
  obtain ⟨d0, d1, d2, d3, d4, d5, d6, fz4, fz5, fz6⟩ := hd.cells
  have hpl : p < w.heap.size := hd.lt
  have hml : len ≤ maxLen := by unfold maxLen; omega
  have hn0 : ¬ ((n : Int) = 0) := by omega
  have hmlt : got % n < n := Nat.mod_lt _ (by omega)
  have e1 : IntKind.i64.wrap (18 * (n : Int)) = 18 * (n : Int) := IntWalk.i64_in _ (by omega)
  have e2 : IntKind.i64.wrap ((base : Int) + 18 * n) = (base : Int) + 18 * n := IntWalk.i64_in _ (by omega)
  have e3 : IntKind.i64.wrap ((base : Int) + 18 * n + 4) = ((base + 18 * n + 4 : Nat) : Int) := by rw [IntWalk.i64_in _ (by omega)]; omega
  have e9 : IntKind.i64.wrap (((base + 18 * n + 4 : Nat) : Int) + 2) = ((base + 18 * n + 4 + 2 : Nat) : Int) := by rw [IntWalk.i64_in _ (by omega)]; omega
  have e4 : Int.tmod (got : Int) (n : Int) = ((got % n : Nat) : Int) := (Int.ofNat_tmod got n).symm
  have e5 : IntKind.i64.wrap (8 * ((got % n : Nat) : Int)) = 8 * ((got % n : Nat) : Int) := IntWalk.i64_in _ (by omega)
  have e6 : IntKind.i64.wrap (((base + 18 * n + 4 : Nat) : Int) + 4) = ((base + 18 * n + 4 : Nat) : Int) + 4 := IntWalk.i64_in _ (by omega)
  have e7 : IntKind.i64.wrap (((base + 18 * n + 4 : Nat) : Int) + 4 + 8 * ((got % n : Nat) : Int)) = ((base + 18 * n + 4 + (4 + got % n * 8) : Nat) : Int) := by rw [IntWalk.i64_in _ (by omega)]; omega
  have e8 : IntKind.i64.wrap (((base + 18 * n + 4 + (4 + got % n * 8) : Nat) : Int) + 4) = ((base + 18 * n + 4 + (4 + got % n * 8) + 4 : Nat) : Int) := by rw [IntWalk.i64_in _ (by omega)]; omega
  have e10 : IntKind.i64.wrap ((got : Int) + 1) = (got : Int) + 1 := IntWalk.i64_in _ (by omega)
  have e11 : Int.tmod ((got : Int) + 1) 65536 = (((got + 1) % 65536 : Nat) : Int) := by rw [show ((got : Int) + 1) = ((got + 1 : Nat) : Int) by omega]; exact (Int.ofNat_tmod (got + 1) 65536).symm
  have HL2 := hid (fun wx (h : Mem wx g N f) => refle_any wx g N len cap (base + 18 * n + 4 + 2) 2 f h hle hml (by omega) (.inl rfl))
  have HL3 := hid (fun wx (h : Mem wx g N f) => refle_any wx g N len cap (base + 18 * n + 4 + (4 + got % n * 8)) 4 f h hle hml (by omega) (.inr rfl))
  have HL4 := hid (fun wx (h : Mem wx g N f) => refle_any wx g N len cap (base + 18 * n + 4 + (4 + got % n * 8) + 4) 4 f h hle hml (by omega) (.inr rfl))
  have HD := hid hd
  have HM := hid hm
  clear hd hm
  generalize rd f (base + 18 * n + 4 + 2) 2 = ix at *
  generalize rd f (base + 18 * n + 4 + (4 + got % n * 8)) 4 = hx at *
  generalize rd f (base + 18 * n + 4 + (4 + got % n * 8) + 4) 4 = lx at *
  generalize base + 18 * n + 4 + (4 + got % n * 8) + 4 = a2 at *
  generalize base + 18 * n + 4 + (4 + got % n * 8) = a1 at *
  generalize base + 18 * n + 4 + 2 = pu2 at *
  generalize base + 18 * n + 4 = pu at *
  generalize got % n = m at *
  generalize hg1e : (got + 1) % 65536 = got1 at *
  clear hg1e
  have g1 : (ix == (got : Int)) = false := by simpa using h
  have HY := hid hyes
  clear h hyes
  go_enter Tryz.func36, Tryz.ntmps36
  go_wp2
  go_quiet (fail)
  obtain ⟨wA, hwA⟩ : ∃ wA, wA = w.drewN nq := ⟨_, rfl⟩
  rw [← hwA]
  have hbwA : Below w.heap.size w wA := by rw [hwA]; exact below_drewN (Below.refl _ w) _
  clear hwA
  have HBwA := hid hbwA
  have HDwA : Hid (RBox wA p gt (.slice (some ⟨fb, 0, none⟩) fl fc) g len cap base n put got) := hid ((hbwA.block p hpl).trans HD.out)
  have HMwA := hid (HM.out.below hbwA)
  obtain ⟨d0, d1, d2, d3, d4, d5, d6, fz4, fz5, fz6⟩ := HDwA.out.cells
  clear hbwA
  go_wp2
  go_quiet ((go_at_call 60; exact Calls.quiet_of_same (HL2.out _ (HMwA.out.below (below_drewN (Below.refl wA.heap.size wA) _)))))
  obtain ⟨wB, hwB⟩ : ∃ wB, wB = wA.drewN nq := ⟨_, rfl⟩
  rw [← hwB]
  have hbwB : Below w.heap.size w wB := by rw [hwB]; exact below_drewN HBwA.out _
  clear hwB
  have HBwB := hid hbwB
  have HDwB : Hid (RBox wB p gt (.slice (some ⟨fb, 0, none⟩) fl fc) g len cap base n put got) := hid ((hbwB.block p hpl).trans HD.out)
  have HMwB := hid (HM.out.below hbwB)
  obtain ⟨d0, d1, d2, d3, d4, d5, d6, fz4, fz5, fz6⟩ := HDwB.out.cells
  clear hbwB
  clear HBwA HDwA HMwA
  go_wp2
  go_quiet (fail)
  obtain ⟨wC, hwC⟩ : ∃ wC, wC = wB.drewN nq := ⟨_, rfl⟩
  rw [← hwC]
  have hbwC : Below w.heap.size w wC := by rw [hwC]; exact below_drewN HBwB.out _
  clear hwC
  have HBwC := hid hbwC
  have HDwC : Hid (RBox wC p gt (.slice (some ⟨fb, 0, none⟩) fl fc) g len cap base n put got) := hid ((hbwC.block p hpl).trans HD.out)
  have HMwC := hid (HM.out.below hbwC)
  obtain ⟨d0, d1, d2, d3, d4, d5, d6, fz4, fz5, fz6⟩ := HDwC.out.cells
  clear hbwC
  clear HBwB HDwB HMwB
  go_wp2_with fail
  refine (HL3.out _ HMwC.out).mono ?_
  rintro e w1 ⟨rfl, hw1⟩
  rw [hw1]
  clear hw1 w1
  go_wp2_with fail
  refine (HL4.out _ HMwC.out).mono ?_
  rintro e w1 ⟨rfl, hw1⟩
  rw [hw1]
  clear hw1 w1
  go_wp2
  have hdW : RBox (wC.setCell ⟨p, 5, none⟩ (.int .i64 got1)) p gt (.slice (some ⟨fb, 0, none⟩) fl fc) g len cap base n put got1 := setc HDwC.out 5 _
  have hmoW : Mods (fun b => b = p) w (wC.setCell ⟨p, 5, none⟩ (.int .i64 got1)) := (Mods.of_below HBwC.out).setCell p 5 _ rfl
  clear HDwC HMwC HBwC HD HM HL2 HL3 HL4 e2 e3 e4 e5 e6 e7 e8 e9 e10 e11 g1 hmlt
  generalize wC.setCell ⟨p, 5, none⟩ (.int .i64 got1) = W at *
  obtain ⟨d0, d1, d2, d3, d4, d5, d6, fz4, fz5, fz6⟩ := hdW.cells
  have HDW := hid hdW
  have HMOW := hid hmoW
  clear hdW hmoW
  go_loopw [9] (fun x wx => ∃ i : Nat, i ≤ f1 ∧ x = .int .i64 i ∧ wx = W) (fun x _ => f1 - (RowKit.intOf x).toNat)
  case atStart => exact ⟨0, Nat.zero_le _, rfl, rfl⟩
  case round =>
    obtain ⟨i, hi, rfl, hww⟩ := hrel
    rw [hww]
    clear hww
    have hii : (i : Int) < fl := by omega
    have ei : IntKind.i64.wrap ((i : Int) + 1) = (i : Int) + 1 := IntWalk.i64_in _ (by omega)
    have hi0 : (0 : Int) ≤ (i : Int) := by omega
    by_cases hil : i < f1
    · have c1 := HMOW.out.cell (HC1.out i hil).1 hfp
      have hne := HNO.out (F1.getD i (0, undef)) (by rw [List.getD_eq_getElem?_getD, List.getElem?_eq_getElem (by rw [← HF1.out]; exact hil)]; exact List.getElem_mem _)
      generalize (F1.getD i (0, undef)).1 = fh at *
      have heb : ((fh : Int) == hx) = false := by simpa using hne
      clear hne
      go_wp2
      go_roundw
      case rel => exact ⟨i + 1, by omega, by go_num, trivial⟩
      case measure => simp only [RowKit.intOf]; omega
    · obtain rfl : i = f1 := by omega
      have c1 := HMOW.out.cell HC2.out.1 hfp
      have c2 := HMOW.out.cell HC2.out.2 hfp
      have heb : ((h0 : Int) != hx) = false := by rw [HY.out]; simp
      clear hil
      go_wp2
      go_loopw [10] (fun x wx => ∃ k : Nat, k ≤ ch.length ∧ x = .int .i64 k ∧ Tk wx gt n (fun j => t j && !((ch.take k).contains j)) ∧ Mods (fun b => b = gt) W wx) (fun x _ => ch.length - (RowKit.intOf x).toNat)
      case atStart => exact ⟨0, Nat.zero_le _, rfl, (HT.out.keep (HMOW.out.block gt hgtl hgtp)).congr (fun j _ => by simp), Mods.refl _ _⟩
      case round =>
        clear c1
        obtain ⟨k, hk, rfl, htk, hmo⟩ := hrel
        have d3k := hmo.cell d3 (fun e => hgtp e.symm)
        have d6k := hmo.cell d6 (fun e => hgtp e.symm)
        have c2k := hmo.cell c2 hft
        have HTK := hid htk
        have HMO := hid hmo
        by_cases hkl : k < ch.length
        · have hki : (k : Int) < ch.length := by omega
          have hk0 : (0 : Int) ≤ (k : Int) := by omega
          have ek : IntKind.i64.wrap ((k : Int) + 1) = (k : Int) + 1 := IntWalk.i64_in _ (by omega)
          have ck := hmo.cell (HMOW.out.cell (HVC.out k hkl).1 hvp) hvt
          have hcx := HLT.out (ch.getD k 0) (getD_mem ch 0 k hkl)
          have HTH := hid (take_has ch k hkl)
          clear htk hmo
          generalize hcxe : ch.getD k 0 = cx at *
          clear hcxe
          have hcn : (cx : Int) < n := by omega
          have hc0 : (0 : Int) ≤ (cx : Int) := by omega
          have hct := HTK.out.cell hcx
          have hfz := HTK.out.frozen cx
          have hms : Mods (fun b => b = gt) wr (wr.setCell ⟨gt, cx, none⟩ (.bool false)) := (Mods.refl (fun b => b = gt) wr).setCell gt cx (.bool false) rfl
          have HS5 := hid (And.intro (hms.cell d3k (fun e => hgtp e.symm)) (And.intro (hms.cell d6k (fun e => hgtp e.symm)) (And.intro (hms.cell c2k hft) (hms.cell ck hvt))))
          clear hms
          go_wp2
          go_region_held3 (fun w' => w'.cell? ⟨p, 3, none⟩ = some (.slice (some ⟨gt, 0, none⟩) n n) ∧ w'.cell? ⟨p, 6, none⟩ = some (.slice (some ⟨fb, 0, none⟩) fl fc) ∧ w'.cell? ⟨fb, i * 2 + 1, none⟩ = some (.slice (some ⟨vb, 0, none⟩) ch.length vc) ∧ w'.cell? ⟨vb, k, none⟩ = some (.int .i64 cx)) ((first | exact ⟨d3k, d6k, c2k, ck⟩ | exact HS5.out)) (fail)
          go_wp2
          go_roundw
          case rel =>
            refine ⟨k + 1, by omega, by go_num, (HTK.out.set cx false).congr (fun j _ => ?_), ?_⟩
            · rw [HTH.out]
              by_cases e : j = cx
              · simp [e]
              · rw [if_neg e, beq_eq_false_iff_ne.2 e, Bool.or_false]
            · exact (HMO.out.setCell gt cx _ rfl).drew
          case measure => simp only [RowKit.intOf]; omega
        · have hki : ¬ ((k : Int) < ch.length) := by omega
          obtain rfl : k = ch.length := by omega
          have hcut1 := cut82_h fb fl fc i (by omega)
          have hcut2 := cut82_l fb fl fc (i + 1) (by omega)
          rw [show ((i + 1 : Nat) : Int) = (i : Int) + 1 by omega] at hcut2
          obtain ⟨off, hbe, hoff⟩ := behind2_slice fb fl fc (i + 1)
          rw [hbe] at hcut2
          have hHE : wr.ownsRow w.heap.size 127 2 (.slice none 0 0) ([] : List (Nat × Value)).length (cellsF []) := ⟨rfl, .inl ⟨rfl, rfl⟩⟩
          have HE := hid hHE
          have HCA : Hid (∀ j, j < i → wr.cell? ⟨fb, 0 + j * 2, none⟩ = some (.int .i64 (F1.getD j (0, undef)).1) ∧ wr.cell? ⟨fb, 0 + j * 2 + 1, none⟩ = some (F1.getD j (0, undef)).2) := hid (fun j hj => by
            rw [Nat.zero_add]
            exact ⟨hmo.cell (HMOW.out.cell (HC1.out j hj).1 hfp) hft, hmo.cell (HMOW.out.cell (HC1.out j hj).2 hfp) hft⟩)
          have HCB : Hid (∀ j, j < fl - (i + 1) → wr.cell? ⟨fb, off + j * 2, none⟩ = some (.int .i64 (F2.getD j (0, undef)).1) ∧ wr.cell? ⟨fb, off + j * 2 + 1, none⟩ = some (F2.getD j (0, undef)).2) := hid (fun j hj => by
            rcases hoff with rfl | e
            · have h3 := HC3.out j (by have := HLEN.out; have := HF1.out; omega)
              rw [show (i + 1) * 2 + j * 2 = (i + 1 + j) * 2 by omega]
              exact ⟨hmo.cell (HMOW.out.cell h3.1 hfp) hft, hmo.cell (HMOW.out.cell h3.2 hfp) hft⟩
            · omega)
          have HSZ := hid (Nat.le_trans HMOW.out.size hmo.size)
          have HBX : Hid (RBox wr p gt (.slice (some ⟨fb, 0, none⟩) fl fc) g len cap base n put got1) := hid ((hmo.block p HDW.out.lt (fun e => hgtp e.symm)).trans HDW.out)
          have HL2 : Hid (F2.length = fl - (i + 1)) := hid (by have := HLEN.out; have := HF1.out; omega)
          clear htk hmo hbe hoff hHE
          go_wp2_with (first | (at_builtin; refine wpList_append_ch rfl (.tmp 118) (.tmp 124) rfl w.heap.size _ ([] : List (Nat × Value)) rfl HE.out fb 0 i fc F1 rfl HF1.out.symm HCA.out HON1.out (by simp; omega) HSZ.out ?_; intro v6 w6 hown6 hgrow6 hblk6; have hm6 : Mods (fun _ => False) wr w6 := (Mods.refl (fun _ => False) wr).grown hgrow6.out (fun b e => by cases e); have HM6 := hid hm6; have d66 := hm6.cell d6k (fun e => e); have HBX6 : Hid (RBox w6 p gt (.slice (some ⟨fb, 0, none⟩) fl fc) g len cap base n put got1) := hid ((hm6.block p HBX.out.lt (fun e => e)).trans HBX.out); have HCB6 : Hid (∀ j, j < fl - (i + 1) → w6.cell? ⟨fb, off + j * 2, none⟩ = some (.int .i64 (F2.getD j (0, undef)).1) ∧ w6.cell? ⟨fb, off + j * 2 + 1, none⟩ = some (F2.getD j (0, undef)).2) := hid (fun j hj => ⟨hm6.cell (HCB.out j hj).1 (fun e => e), hm6.cell (HCB.out j hj).2 (fun e => e)⟩); have HSZ6 := hid (Nat.le_trans HSZ.out hm6.size); have HLA : Hid (([] ++ F1).length + (fl - (i + 1)) ≤ 65536) := hid (by have := HF1.out; simp; omega); clear hm6 HCA HCB) | (at_builtin; refine wpList_append_ch rfl (.tmp 127) (.tmp 134) rfl w.heap.size _ ([] ++ F1) rfl hown6.out fb off (fl - (i + 1)) (fc - (i + 1)) F2 rfl HL2.out HCB6.out HON2.out HLA.out HSZ6.out ?_; intro v7 w7 hown7 hgrow7 hblk7; have hm7 : Mods (fun b => w.heap.size ≤ b) w6 w7 := (Mods.refl (fun b => w.heap.size ≤ b) w6).grown hgrow7.out (fun b e => .inl (owns_lt hown6.out e).2); have hbx7 : RBox w7 p gt (.slice (some ⟨fb, 0, none⟩) fl fc) g len cap base n put got1 := (hm7.block p HBX6.out.lt (by omega)).trans HBX6.out; obtain ⟨_, _, _, _, _, _, d67, _, _, fz67⟩ := hbx7.cells; have HBX7 := hid hbx7; have HM7 := hid hm7; clear hm7 hbx7; obtain ⟨va7, vc7, hv7⟩ := owns_slice hown7.out; subst hv7))
          go_ret3
          have hB7 : ∀ b, b < w.heap.size → w7.heap[b]? = wr.heap[b]? := fun b hb => (HM7.out.block b (Nat.lt_of_lt_of_le hb HSZ6.out) (by omega)).trans (HM6.out.block b (Nat.lt_of_lt_of_le hb HSZ.out) (fun e => e))
          have hmA : Mods (fun b => b = p ∨ b = gt) w wr := (HMOW.out.weak (fun b e => .inl (.inl e))).trans HMO.out (fun b e => .inl (.inr e))
          have hown8 : w7.ownsRow w.heap.size 127 2 (.slice va7 (F1.length + F2.length) vc7) (F1 ++ F2).length (cellsF (F1 ++ F2)) := by
            have h := hown7.out
            simp only [List.nil_append, List.length_append] at h
            rw [List.length_append]
            exact h
          refine ⟨rfl, ?_, _, setc HBX7.out 6 _, ?_, ?_, fun b hb => (owns_lt hown8 hb).2⟩
          · exact ((hmA.trans HM6.out (fun b e => e.elim)).trans HM7.out (fun b e => .inr e)).setCell p 6 _ (.inl rfl)
          · refine Tk.keep (w := w7) ?_ (Below.heap_setCell _ _ _ _ hgtp)
            refine (HTK.out.keep (hB7 gt hgtl)).congr (fun j _ => ?_)
            rw [List.take_length]
            simp
          · refine owns_mono (base := w.heap.size) ?_ (Nat.zero_le _)
            refine owns_keep hown8 (fun b hb => Below.heap_setCell _ _ _ _ ?_)
            have := (owns_lt hown8 hb).2
            show b ≠ p
            omega
end Go.Proofs.YtdjghkngiicncaaGreat
