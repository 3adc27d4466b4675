/- log. -/
import Derived.Test.YtoifeioijoancaaDoorWcB
namespace Go.Proofs.YtoifeioijoancaaDoor
open Go.RowKit Go.Maps
set_option linter.unusedVariables false

/-- The first k bytes of a block laid into a log. -/
def layP (f : Nat → Int) (p : Pt) (k : Nat) : Nat → Int := fun i => if 0 ≤ p.blk ∧ p.blk < 66 ∧ 512 * p.blk.toNat ≤ i ∧ i < 512 * p.blk.toNat + k then p.dat.getD (i - 512 * p.blk.toNat) 0 else f i
def layF (f : Nat → Int) (p : Pt) : Nat → Int := layP f p (min 512 p.dat.length)
def logF (l : List Pt) : Nat → Int := l.foldl layF (fun _ => 0)
def logL (l : List Pt) : List Int := (List.range 33792).map (logF l)
theorem logL_len (l : List Pt) : (logL l).length = 33792 := by simp [logL]
theorem logL_getD (l : List Pt) (i : Nat) (h : i < 33792) : (logL l).getD i 0 = logF l i := by simp [logL, List.getD, h]
theorem logF_snoc (l : List Pt) (p : Pt) : logF (l ++ [p]) = layF (logF l) p := by simp [logF]
theorem layP_zero (f : Nat → Int) (p : Pt) : layP f p 0 = f := by
  funext i
  unfold layP
  rw [if_neg (by omega)]
theorem layP_out {f : Nat → Int} {p : Pt} (h : p.blk < 0 ∨ 66 ≤ p.blk) (k : Nat) : layP f p k = f := by
  funext i
  unfold layP
  rw [if_neg (by omega)]
theorem layP_isB {f : Nat → Int} {p : Pt} (hf : ∀ i, IsB (f i)) (hp : ∀ x ∈ p.dat, IsB x) (k : Nat) : ∀ i, IsB (layP f p k i) := by
  intro i
  unfold layP
  split
  · by_cases h : i - 512 * p.blk.toNat < p.dat.length
    · exact mem_getD p.dat IsB hp _ h
    · rw [getD_out _ _ (by omega)]; unfold IsB; omega
  · exact hf i
theorem logF_isB : ∀ (l : List Pt) (f : Nat → Int), (∀ i, IsB (f i)) → (∀ p ∈ l, ∀ x ∈ p.dat, IsB x) → ∀ i, IsB (l.foldl layF f i)
  | [], f, hf, _, i => hf i
  | p :: l, f, hf, hp, i => logF_isB l (layF f p) (layP_isB hf (hp p (by simp)) _) (fun q hq => hp q (by simp [hq])) i
theorem logL_isB (l : List Pt) (h : ∀ p ∈ l, ∀ x ∈ p.dat, IsB x) : ∀ x ∈ logL l, IsB x := by
  intro x hx
  simp only [logL, List.mem_map] at hx
  obtain ⟨i, _, rfl⟩ := hx
  exact logF_isB l _ (fun _ => by unfold IsB; omega) h i
set_option maxRecDepth 100000 in
set_option maxHeartbeats 4000000 in
theorem log_any (w : World) (S : Nat → Prop) (a : Option Addr) (c : Nat) (L : List Pw) (h : Ps w S a L) (hl : L.length ≤ 1000000) :
    Calls Tryd.prog 14 #[.slice a L.length c] w fun e w' => ∃ g, e = .returned (.slice (some ⟨g, 0, none⟩) 33792 33792) ∧ By w' (New w) (some ⟨g, 0, none⟩) (logL (L.map Pw.pt)) ∧ Below w.heap.size w w' := by
  have hmk : ∀ W : World, (Instr.makeSlice 27 (.int .i64 33792) (.int .i64 33792)).run Tryd.prog W = .ok (.slice (some ⟨W.heap.size, 0, none⟩) 33792 33792) (W.alloc (.cells (madeCells #[.int .u8 0] 33792) 5)) := run_make_row' (P := Tryd.prog) 27 5 (.int .u8 0) 1 Tryd.underlying27 info5 rfl .i64 .i64 33792 (by omega) (by omega)
  have hrm := World.rowIs_made w (.int .u8 0) 33792 5
  obtain ⟨W1, hW1⟩ : ∃ W1, W1 = w.alloc (.cells (madeCells #[.int .u8 0] 33792) 5) := ⟨_, rfl⟩
  rw [← hW1] at hrm
  have hb1 : Below w.heap.size w W1 := by rw [hW1]; exact (Below.refl _ _).alloc (Nat.le_refl _) _
  have HP := hid h
  have HB1 := hid hb1
  have HRM : Hid (W1.rowIs w.heap.size 5 33792 (fun i => .int .u8 (logF [] i))) := hid hrm
  obtain ⟨n, hn⟩ : ∃ n, n = L.length := ⟨_, rfl⟩
  have HN := hid hn
  rw [← hn] at hl ⊢
  have HIB : Hid (∀ p ∈ L.map Pw.pt, ∀ x ∈ p.dat, IsB x) := hid (fun p hp x hx => by
    rw [List.mem_map] at hp
    obtain ⟨q, hq, rfl⟩ := hp
    exact (h.1 q hq).1.isB x hx)
  clear h hrm hb1 hn
  go_enter Tryd.func14, Tryd.ntmps14
  go_wp2_with (rw [← hW1])
  clear hW1 hmk
  go_loopw [4, 5] (fun z z5 wr => ∃ k : Nat, k ≤ n ∧ z = .int .i64 k ∧ wr.rowIs w.heap.size 5 33792 (fun i => .int .u8 (logF ((L.map Pw.pt).take k) i)) ∧ Below w.heap.size w wr) (fun z _ _ => n - (RowKit.intOf z).toNat)
  case atStart => exact ⟨0, Nat.zero_le _, rfl, HRM.out, HB1.out⟩
  case round =>
    obtain ⟨k, hk, rfl, hr, hb⟩ := hrel
    have HR := hid hr
    have HB := hid hb
    clear HRM HB1 hr
    by_cases hlt : k < n
    · have hki : (k : Int) < n := by omega
      have hkL : k < L.length := by rw [← HN.out]; exact hlt
      obtain ⟨gl, off, ha, _, hc0, hc1⟩ := HP.out.at_ hkL
      subst ha
      have HC0 := hid hc0
      have HC1 := hid hc1
      have HD := hid (HP.out.dat hkL)
      have HSN : Hid (logF ((L.map Pw.pt).take (k + 1)) = layF (logF ((L.map Pw.pt).take k)) (L.getD k default).pt) := hid (by rw [map_take_snoc hkL, logF_snoc])
      generalize logF ((L.map Pw.pt).take k) = f at *
      generalize L.getD k default = P at *
      obtain ⟨ln, hln⟩ : ∃ ln, ln = P.dat.length := ⟨_, rfl⟩
      have HLN := hid hln
      rw [← hln] at HC1
      clear hb hln hc0 hc1
      go_wp2
      go_loopw [5] (fun z5 wq => ∃ j : Nat, j ≤ ln ∧ z5 = .int .i64 j ∧ wq.rowIs w.heap.size 5 33792 (fun i => .int .u8 (layP f P.pt j i)) ∧ Below w.heap.size w wq ∧ (0 < j → j ≤ 512 ∧ 0 ≤ P.blk ∧ P.blk < 66)) (fun z5 _ => ln - (RowKit.intOf z5).toNat)
      case atStart => exact ⟨0, Nat.zero_le _, rfl, by rw [layP_zero]; exact HR.out, HB.out, fun h => by omega⟩
      case round =>
        obtain ⟨j, hj, rfl, hr, hb, hjj⟩ := hrel
        have HRq := hid hr
        have HBq := hid hb
        have HJJ := hid hjj
        have hc0 := cell_later hb HC0.out
        have hc1 := cell_later hb HC1.out
        by_cases h1 : j < ln
        · have h1i : (j : Int) < ln := by omega
          by_cases h2 : j < 512
          · have h2i : (j : Int) < 512 := by omega
            by_cases h3 : 0 ≤ P.blk
            · by_cases h4 : P.blk < 66
              · obtain ⟨B, hB⟩ := Int.eq_ofNat_of_zero_le h3
                obtain ⟨gd, od, had, hcd⟩ := HD.out.1.bytes.open_ (by rw [← HLN.out]; omega)
                have hcd := cell_later hb (hcd j (by rw [← HLN.out]; exact h1))
                rw [had] at hc1
                rw [hB] at hc0
                have hB66 : B < 66 := by omega
                obtain ⟨v0, hcv⟩ : ∃ v, wr.cell? ⟨w.heap.size, 512 * B + j, none⟩ = some v := ⟨_, hr.cell (by omega)⟩
                have hf := hr.frozen (512 * B + j)
                have q1 : IntKind.i64.wrap (512 * (B : Int)) = 512 * (B : Int) := IntWalk.i64_in _ (by omega)
                have q2 : IntKind.i64.wrap (512 * (B : Int) + (j : Int)) = 512 * (B : Int) + (j : Int) := IntWalk.i64_in _ (by omega)
                have q3 : (0 : Int) ≤ 512 * (B : Int) + (j : Int) := by omega
                have q4 : 512 * (B : Int) + (j : Int) < 33792 := by omega
                have q5 : (512 * (B : Int) + (j : Int)).toNat = 512 * B + j := by omega
                have HBB := hid hB
                have g3 : (0 : Int) ≤ (B : Int) := by omega
                have g4 : (B : Int) < 66 := by omega
                clear hr hb hjj HJJ hB h3 h4 had
                generalize hx : P.dat.getD j 0 = x at *
                have HX := hid hx
                clear hx
                go_wp2
                go_region
                go_wp2
                go_roundw
                case rel =>
                  refine ⟨j + 1, by omega, by go_num, ?_, (HBq.out.setCell (Nat.le_refl _) _).drew, fun _ => by have := HBB.out; omega⟩
                  refine (HRq.out.set (512 * B + j) (.int .u8 x)).congr fun i hi => ?_
                  unfold layP
                  have hblk : P.pt.blk = (B : Int) := HBB.out
                  have hdat : P.pt.dat = P.dat := rfl
                  rw [hblk, hdat, Int.toNat_natCast]
                  by_cases e : i = 512 * B + j
                  · subst e
                    rw [if_pos rfl, if_pos (by omega), show 512 * B + j - 512 * B = j by omega, HX.out]
                  · rw [if_neg e]
                    by_cases e2 : 512 * B ≤ i ∧ i < 512 * B + j
                    · rw [if_pos (by omega), if_pos (by omega)]
                    · rw [if_neg (by omega), if_neg (by omega)]
                case measure => simp [RowKit.intOf]; omega
              · have h4i : ¬ (P.blk < 66) := h4
                have HEX : Hid (layP f P.pt j = layF f P.pt) := hid (by unfold layF; rw [layP_out (.inr (show 66 ≤ P.blk by omega)), layP_out (.inr (show 66 ≤ P.blk by omega))])
                clear hr hb hjj HJJ
                go_wp2
                go_roundw
                case rel => exact ⟨k + 1, by omega, by go_num, by rw [HSN.out, ← HEX.out]; exact HRq.out, HBq.out⟩
                case measure => simp [RowKit.intOf]; omega
            · have h3i : ¬ (0 ≤ P.blk) := h3
              have HEX : Hid (layP f P.pt j = layF f P.pt) := hid (by unfold layF; rw [layP_out (.inl (show P.blk < 0 by omega)), layP_out (.inl (show P.blk < 0 by omega))])
              clear hr hb hjj HJJ
              go_wp2
              go_roundw
              case rel => exact ⟨k + 1, by omega, by go_num, by rw [HSN.out, ← HEX.out]; exact HRq.out, HBq.out⟩
              case measure => simp [RowKit.intOf]; omega
          · have h2i : ¬ ((j : Int) < 512) := by omega
            have HEX : Hid (layP f P.pt j = layF f P.pt) := hid (by
              have h5 := (hjj (by omega)).1
              have h6 : P.pt.dat.length = ln := HLN.out.symm
              unfold layF
              rw [h6, show min 512 ln = j by omega])
            clear hr hb hjj HJJ
            go_wp2
            go_roundw
            case rel => exact ⟨k + 1, by omega, by go_num, by rw [HSN.out, ← HEX.out]; exact HRq.out, HBq.out⟩
            case measure => simp [RowKit.intOf]; omega
        · have h1i : ¬ ((j : Int) < ln) := by omega
          have HEX : Hid (layP f P.pt j = layF f P.pt) := hid (by
            have h6 : P.pt.dat.length = ln := HLN.out.symm
            unfold layF
            rw [h6]
            by_cases h0 : 0 < j
            · have h5 := (hjj h0).1
              rw [show min 512 ln = j by omega]
            · rw [show min 512 ln = j by omega])
          clear hr hb hjj HJJ
          go_wp2
          go_roundw
          case rel => exact ⟨k + 1, by omega, by go_num, by rw [HSN.out, ← HEX.out]; exact HRq.out, HBq.out⟩
          case measure => simp [RowKit.intOf]; omega
    · have hki : ¬ ((k : Int) < n) := by omega
      obtain rfl : k = n := by omega
      go_wp2
      go_ret
      refine ⟨_, rfl, By.of_row (l := logL (L.map Pw.pt)) ?_ (Nat.le_refl _) (logL_isB _ HIB.out) (by rw [logL_len]; exact Nat.le_refl _), HB.out⟩
      have := HR.out
      rw [List.take_of_length_le (by rw [List.length_map, ← HN.out]; exact Nat.le_refl _)] at this
      exact this.congr (fun i hi => by rw [logL_getD _ i hi])
end Go.Proofs.YtoifeioijoancaaDoor
