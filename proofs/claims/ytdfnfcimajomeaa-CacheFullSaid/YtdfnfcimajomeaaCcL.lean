/- CacheFull: a cache all of whose blocks are dirty or pinned takes no other one. -/
import Derived.Test.YtdfnfcimajomeaaCcFrame
namespace Go.Proofs.Ytdfnfcimajomeaa
open Go.RowKit Go.Maps

/-! ### what is laid in -/
def fe (d : List Int) (b : Bool) (j : Nat) : Ec := if b then ⟨j, d, false, 1⟩ else ⟨j, d, true, 0⟩
theorem fe_num (d : List Int) (b : Bool) (j : Nat) : (fe d b j).num = j := by unfold fe; cases b <;> rfl
theorem fe_may (d : List Int) (b : Bool) (j : Nat) : may (fe d b j) = false := by unfold fe may; cases b <;> rfl
def fr (d : List Int) (P : Nat → Bool) (i : Nat) : List Ec := (List.range i).map fun j => fe d (P j) j
theorem fr_len (d : List Int) (P : Nat → Bool) (i : Nat) : (fr d P i).length = i := by unfold fr; simp
theorem fr_succ (d : List Int) (P : Nat → Bool) (i : Nat) : fr d P (i + 1) = fr d P i ++ [fe d (P i) i] := by unfold fr; rw [List.range_succ]; simp
theorem fr_nums (d : List Int) (P : Nat → Bool) (i : Nat) : nums (fr d P i) = (List.range i).map fun (j : Nat) => (j : Int) := by
  unfold nums fr
  rw [List.map_map]
  apply List.map_congr_left
  intro j _
  exact fe_num d (P j) j
theorem fr_mem (d : List Int) (P : Nat → Bool) (i : Nat) (x : Int) : x ∈ nums (fr d P i) ↔ 0 ≤ x ∧ x < i := by
  rw [fr_nums]
  simp only [List.mem_map, List.mem_range]
  constructor
  · rintro ⟨j, h1, rfl⟩; omega
  · intro h; exact ⟨x.toNat, by omega, by omega⟩
theorem fr_nd (d : List Int) (P : Nat → Bool) (i : Nat) : (nums (fr d P i)).Nodup := by
  rw [fr_nums, List.nodup_iff_pairwise_ne, List.pairwise_map]
  exact (List.nodup_iff_pairwise_ne.1 List.nodup_range).imp (fun {a b} hne e => hne (by omega))
theorem fr_at (d : List Int) (P : Nat → Bool) (i k : Nat) (h : k < i) : atL (fr d P i) k = fe d (P k) k := by
  have hm : fe d (P k) k ∈ fr d P i := List.mem_map.2 ⟨k, by simpa using h, rfl⟩
  have := atL_of (fr_nd d P i) hm
  rwa [fe_num] at this
theorem fr_room (d : List Int) (P : Nat → Bool) (N i : Nat) (h : i < N) : (Cs.mk N (fr d P i)).room = some ⟨N, fr d P i⟩ := by
  unfold Cs.room
  rw [if_pos (by rw [fr_len]; exact h)]
theorem fr_full (d : List Int) (P : Nat → Bool) (N : Nat) : (Cs.mk N (fr d P N)).room = none := by
  unfold Cs.room
  rw [if_neg (by rw [fr_len]; exact Nat.lt_irrefl N)]
  have : (fr d P N).find? may = none := by
    rw [List.find?_eq_none]
    intro x hx
    unfold fr at hx
    obtain ⟨j, _, rfl⟩ := List.mem_map.1 hx
    rw [fe_may]
    simp
  rw [this]
  rfl
theorem fr_fill (d : List Int) (hd : d.length = 512) (P : Nat → Bool) (N i : Nat) (h : i < N) : fillR ⟨N, fr d P i⟩ i 512 = 0 ∧ fillS ⟨N, fr d P i⟩ i d = (Cs.mk N (fr d P i)).add ⟨i, d, false, 0⟩ :=
  fill_ok (by omega) (by rw [fr_mem]; omega) (fr_room d P N i h) d hd
theorem fr_pin (d : List Int) (P : Nat → Bool) (N i : Nat) (hp : P i = true) : pinR ((Cs.mk N (fr d P i)).add ⟨i, d, false, 0⟩) i = 0 ∧ pinS ((Cs.mk N (fr d P i)).add ⟨i, d, false, 0⟩) i = ⟨N, fr d P (i + 1)⟩ := by
  have hm : (i : Int) ∈ nums ((Cs.mk N (fr d P i)).add ⟨i, d, false, 0⟩).row := add_mem (Cs.mk N (fr d P i)) ⟨i, d, false, 0⟩
  unfold pinR pinS
  rw [if_pos hm, if_pos hm, chg_add (k := (i : Int)) rfl (by rw [fr_mem]; omega), fr_succ, hp]
  exact ⟨rfl, rfl⟩
theorem fr_put (d : List Int) (hd : d.length = 512) (P : Nat → Bool) (N i : Nat) (h : i < N) (hp : P i = false) : putR ⟨N, fr d P i⟩ i 512 = 0 ∧ putS ⟨N, fr d P i⟩ i d = ⟨N, fr d P (i + 1)⟩ := by
  obtain ⟨h1, h2⟩ := put_new (A := ⟨N, fr d P i⟩) (k := i) (by omega) (by rw [fr_mem]; omega) (fr_room d P N i h) d hd
  refine ⟨h1, h2.trans ?_⟩
  rw [fr_succ, hp]
  rfl
/-- The one that is let loose. -/
def fl (d : List Int) (P : Nat → Bool) (N k : Nat) : Cs := ⟨N, (fr d P N).map fun e => if e.num = (k : Int) then ⟨k, d, false, 0⟩ else e⟩
theorem fl_nums (d : List Int) (P : Nat → Bool) (N k : Nat) : nums (fl d P N k).row = nums (fr d P N) := by
  unfold fl nums
  rw [List.map_map]
  apply List.map_congr_left
  intro e _
  simp only [Function.comp]
  split
  · rename_i h; exact h.symm
  · rfl
theorem fl_chg (d : List Int) (P : Nat → Bool) (N k : Nat) (h : k < N) (f : Ec → Ec) (hf : f (fe d (P k) k) = ⟨k, d, false, 0⟩) : (Cs.mk N (fr d P N)).chg k f = fl d P N k := by
  unfold Cs.chg fl
  simp only
  congr 1
  apply List.map_congr_left
  intro e he
  by_cases e1 : e.num = (k : Int)
  · rw [if_pos e1, if_pos e1]
    have := atL_of (fr_nd d P N) he
    rw [e1, fr_at d P N k h] at this
    rw [← this]
    exact hf
  · rw [if_neg e1, if_neg e1]
theorem fl_drop (d : List Int) (P : Nat → Bool) (N k : Nat) (h : k < N) : droR ⟨N, fr d P N⟩ k = 8 ∧ droS ⟨N, fr d P N⟩ k = ⟨N, fr d P N⟩ := by
  have hr : droR ⟨N, fr d P N⟩ k = 8 := by
    unfold droR
    rw [if_pos (by rw [fr_mem]; omega), if_neg]
    show ¬ may (atL (fr d P N) k) = true
    rw [fr_at d P N k h, fe_may]
    simp
  refine ⟨hr, ?_⟩
  unfold droS
  rw [hr, if_neg (by omega)]
theorem fl_unpin (d : List Int) (P : Nat → Bool) (N k : Nat) (h : k < N) (hp : P k = true) : unpR ⟨N, fr d P N⟩ k = 0 ∧ unpS ⟨N, fr d P N⟩ k = fl d P N k := by
  have hat : (Cs.mk N (fr d P N)).at k = ⟨k, d, false, 1⟩ := by
    show atL (fr d P N) k = _
    rw [fr_at d P N k h, hp]; rfl
  have hr : unpR ⟨N, fr d P N⟩ k = 0 := by
    unfold unpR
    rw [if_pos (by rw [fr_mem]; omega), hat, if_neg (by simp)]
  refine ⟨hr, ?_⟩
  unfold unpS
  rw [if_pos hr]
  exact fl_chg d P N k h unpF (by rw [hp]; rfl)
theorem fl_clean (d : List Int) (P : Nat → Bool) (N k : Nat) (h : k < N) (hp : P k = false) : pinR ⟨N, fr d P N⟩ k = 0 ∧ cleS ⟨N, fr d P N⟩ k = fl d P N k := by
  unfold pinR cleS
  rw [if_pos (by rw [fr_mem]; omega), if_pos (by rw [fr_mem]; omega)]
  exact ⟨rfl, fl_chg d P N k h cleF (by rw [hp]; rfl)⟩
theorem fl_room (d : List Int) (P : Nat → Bool) (N k : Nat) (h : k < N) : (fl d P N k).room = some ((fl d P N k).cut k) := by
  unfold Cs.room
  rw [if_neg (by unfold fl; simp [fr_len])]
  have hmem : (⟨k, d, false, 0⟩ : Ec) ∈ (fl d P N k).row := by
    unfold fl
    refine List.mem_map.2 ⟨fe d (P k) k, List.mem_map.2 ⟨k, by simpa using h, rfl⟩, ?_⟩
    rw [if_pos (fe_num d (P k) k)]
  cases hf : (fl d P N k).row.find? may with
  | none => have := List.find?_eq_none.1 hf _ hmem; simp [may] at this
  | some x =>
    have h1 := List.find?_some hf
    have h2 := List.mem_of_find?_eq_some hf
    have : x.num = k := by
      unfold fl at h2
      obtain ⟨e, he, rfl⟩ := List.mem_map.1 h2
      by_cases e1 : e.num = (k : Int)
      · rw [if_pos e1]
      · rw [if_neg e1] at h1
        unfold fr at he
        obtain ⟨j, _, rfl⟩ := List.mem_map.1 he
        rw [fe_may] at h1
        cases h1
    simp [this]
theorem fl_fill (d : List Int) (hd : d.length = 512) (P : Nat → Bool) (N k : Nat) (h : k < N) (hN : N ≤ 20) : fillR (fl d P N k) 100 512 = 0 ∧ ∃ C, fillS (fl d P N k) 100 d = C ∧ (k : Int) ∉ nums C.row ∧ (100 : Int) ∈ nums C.row ∧ (C.use 100).row.length = N := by
  obtain ⟨h1, h2⟩ := fill_ok (A := fl d P N k) (k := 100) (by omega) (by rw [fl_nums, fr_mem]; omega) (fl_room d P N k h) d hd
  have hnd : (nums (fl d P N k).row).Nodup := by rw [fl_nums]; exact fr_nd d P N
  have hkm : (k : Int) ∈ nums (fl d P N k).row := by rw [fl_nums, fr_mem]; omega
  have hl := wo_len hnd hkm
  have hl2 : (fl d P N k).row.length = N := by unfold fl; simp [fr_len]
  refine ⟨h1, _, h2, ?_, add_mem _ _, ?_⟩
  · unfold Cs.add Cs.cut
    rw [nums_app, List.mem_append, nums_mem_wo]
    simp [nums]
    omega
  · have hnm : (100 : Int) ∉ nums ((fl d P N k).cut k).row := fun e => by
      rw [nums_cut, nums_mem_wo, fl_nums, fr_mem] at e
      omega
    have hnd2 : (nums (((fl d P N k).cut k).add ⟨100, d, false, 0⟩).row).Nodup := by
      unfold Cs.add
      rw [nums_app, List.nodup_append]
      refine ⟨nd_wo hnd _, by simp [nums], fun a ha b hb e => ?_⟩
      simp [nums] at hb
      rw [e, hb] at ha
      exact hnm ha
    have hl3 := wo_len hnd2 (k := 100) (add_mem ((fl d P N k).cut k) ⟨100, d, false, 0⟩)
    have hl4 : (((fl d P N k).cut k).add ⟨100, d, false, 0⟩).row.length = N := by
      unfold Cs.add
      rw [List.length_append, nums_cut]
      simp
      omega
    unfold Cs.use
    rw [List.length_append]
    simp only [List.length_cons, List.length_nil]
    omega
theorem fr_pins (d : List Int) (P : Nat → Bool) (i : Nat) : ∀ e ∈ fr d P i, -1000000000 ≤ e.pins ∧ e.pins ≤ 1000000000 := by
  intro e he
  unfold fr at he
  obtain ⟨j, _, rfl⟩ := List.mem_map.1 he
  unfold fe
  cases P j <;> simp
set_option maxRecDepth 100000 in
set_option maxHeartbeats 8000000 in
theorem Full_any (w0 : World) (x y : Int) (ap : Option Addr) (pl : List Bool) (cap ln : Nat) (hpl : Bools w0 ap pl) (hln : pl.length = ln) (hl : ln ≤ maxLen) :
    Calls Try.prog 4 #[.int .i64 x, .slice ap ln cap, .int .i64 y] w0 fun e w' => e = .returned (.bool true) ∧ Below w0.heap.size w0 w' := by
  have HKN := hid (known_any w0)
  obtain ⟨N, hN, hN1, hN2⟩ : ∃ N : Nat, 1 + wi x 20 = (N : Int) ∧ 1 ≤ N ∧ N ≤ 20 := by
    have := wi_bd x 20 (by omega)
    exact ⟨(1 + wi x 20).toNat, by omega, by omega, by omega⟩
  have HW1 : Hid (∀ w : World, Calls Try.prog 16 #[.int .i64 x, .int .i64 20] w fun e w' => e = .returned (.int .i64 (wi x 20)) ∧ w' = w) := hid (fun w => within_any x 20 (by omega) (by omega) w)
  have hwr : IntKind.i64.wrap (1 + wi x 20) = (N : Int) := by rw [hN]; exact IntWalk.i64_in _ (by omega)
  obtain ⟨k, hk, hkN⟩ : ∃ k : Nat, wi y N = (k : Int) ∧ k < N := by
    have := wi_bd y N (by omega)
    exact ⟨(wi y N).toNat, by omega, by omega⟩
  have HW2 : Hid (∀ w : World, Calls Try.prog 16 #[.int .i64 y, .int .i64 N] w fun e w' => e = .returned (.int .i64 k) ∧ w' = w) := hid (fun w => by rw [← hk]; exact within_any y N (by omega) (by omega) w)
  have HP := hid hpl
  have HLN := hid hln
  have hlm : (ln : Int) ≤ 9223372036854775807 := by unfold maxLen at hl; omega
  have hmk := make512
  clear hN hk hpl hln hl
  generalize wi x 20 = wx at *
  -- what the law reads of pin
  obtain ⟨P, hP⟩ : ∃ P : Nat → Bool, ∀ i, P i = pl.getD i false := ⟨fun i => pl.getD i false, fun _ => rfl⟩
  have HPC : Hid (∀ i, i < ln → ∃ b off, ap = some ⟨b, off, none⟩ ∧ w0.cell? ⟨b, off + i, none⟩ = some (.bool (P i))) := hid (fun i hi => by rw [hP]; exact HP.out i (by rw [HLN.out]; exact hi))
  have HPF : Hid (∀ i, ¬ i < ln → P i = false) := hid (fun i hi => by rw [hP, ← HLN.out] at *; simp [List.getD]; rw [List.getElem?_eq_none (by omega)]; rfl)
  clear hP HP HLN
  have i100 : IsI 100 := isI_of (by omega) (by omega)
  go_enter Try.func4, Try.ntmps4
  go_wp2_with fail
  refine HKN.out.mono ?_
  rintro e w1 ⟨rfl, hb1⟩
  have HB1 := hid hb1
  clear hb1
  go_wp2_with fail
  refine (HW1.out w1).mono ?_
  rintro e w2 ⟨rfl, hw2⟩
  rw [hw2]
  clear hw2
  go_wp2_with fail
  refine (New_ok w1 N hN1 (by omega)).mono ?_
  rintro e w2 ⟨p, S, rfl, hc, hb, hl⟩
  obtain ⟨d, hbk, hv⟩ := (⟨hc, HB1.out.trans (hb.mono HB1.out.size), fun b hb2 => Nat.le_trans HB1.out.size (hl b hb2)⟩ : Hv w0 w2 p S ⟨N, []⟩ 0).made
  have HBK := hid hbk
  have HV := hid hv
  have HL := hid hbk.len
  clear hc hb hl hbk hv
  go_wp2_with fail
  go_loopw [10] (fun i wr => ∃ (j : Nat) (S1 : Nat → Prop), j ≤ N ∧ i = .int .i64 j ∧ Hv w0 wr p S1 ⟨N, fr d P j⟩ j ∧ Bk w0 wr S1 w2.heap.size d) (fun i _ => N - (RowKit.intOf i).toNat)
  case atStart => exact ⟨0, S, Nat.zero_le _, rfl, HV.out, HBK.out⟩
  case round =>
    obtain ⟨j, S1, hj, rfl, hv1, hk1⟩ := hrel
    have HV1 := hid hv1
    have HK1 := hid hk1
    clear hv1 hk1 HV HBK
    by_cases hlt : j < N
    · have hji : (j : Int) < N := by omega
      have ij : IsI (j : Int) := isI_of (by omega) (by omega)
      have HF := hid (HV1.out.fill HK1.out j ij (by omega))
      rw [(fr_fill d HL.out P N j hlt).1, (fr_fill d HL.out P N j hlt).2] at HF
      have HU := hid (HV1.out.put HK1.out j ij (by omega))
      have HUF := hid (fr_put d HL.out P N j hlt)
      have HPI := hid (fr_pin d P N j)
      have HPP : Hid (∀ e ∈ ((Cs.mk N (fr d P j)).add ⟨j, d, false, 0⟩).row, -1000000000 ≤ e.pins ∧ e.pins ≤ 1000000000) := hid (fun e he => by
        unfold Cs.add at he
        rcases List.mem_append.1 he with h | h
        · exact fr_pins d P j e h
        · rw [List.mem_singleton.1 h]; simp)
      by_cases hjl : j < ln
      · have hjl2 : (j : Int) < ln := by omega
        obtain ⟨b, off, ha, hc⟩ := HPC.out j hjl
        subst ha
        replace hc := cell_later HV1.out.bel hc
        generalize P j = pj at *
        cases pj with
        | true =>
          go_wp2_with fail
          refine HF.out.mono ?_
          rintro e w3 ⟨rfl, S3, h3, hb3, _⟩
          have HPN := hid (Pin_any h3.ca j ij HPP.out)
          rw [(HPI.out (by first | rfl | trivial)).1, (HPI.out (by first | rfl | trivial)).2] at HPN
          have H3 := hid h3
          have HB3 := hid hb3
          clear h3 hb3
          go_wp2_with fail
          refine HPN.out.mono ?_
          rintro e w4 ⟨rfl, S4, h4, hk4⟩
          have H4 := hid (H3.out.step h4 hk4)
          have HB4 := hid (HB3.out.keep hk4)
          clear h4 hk4
          go_wp2_with fail
          go_roundw
          case rel => exact ⟨j + 1, S4, by omega, by go_num, H4.out, HB4.out⟩
          case measure => simp [RowKit.intOf]; omega
        | false =>
          rw [(HUF.out (by first | rfl | trivial)).1, (HUF.out (by first | rfl | trivial)).2] at HU
          go_wp2_with fail
          refine HU.out.mono ?_
          rintro e w3 ⟨rfl, S3, h3, hb3, _⟩
          have H3 := hid h3
          have HB3 := hid hb3
          clear h3 hb3
          go_wp2_with fail
          go_roundw
          case rel => exact ⟨j + 1, S3, by omega, by go_num, H3.out, HB3.out⟩
          case measure => simp [RowKit.intOf]; omega
      · have hjl2 : ¬ ((j : Int) < ln) := by omega
        have hjl3 : decide ((j : Int) < ln) = false := decide_eq_false hjl2
        rw [(HUF.out (HPF.out j hjl)).1, (HUF.out (HPF.out j hjl)).2] at HU
        go_wp2_with fail
        refine HU.out.mono ?_
        rintro e w3 ⟨rfl, S3, h3, hb3, _⟩
        have H3 := hid h3
        have HB3 := hid hb3
        clear h3 hb3
        go_wp2_with fail
        go_roundw
        case rel => exact ⟨j + 1, S3, by omega, by go_num, H3.out, HB3.out⟩
        case measure => simp [RowKit.intOf]; omega
    · have hji : ¬ ((j : Int) < N) := by omega
      obtain rfl : j = N := by omega
      have HF1 := hid (HV1.out.fill HK1.out 100 i100 (by omega))
      have hf1 := fill_full (A := ⟨j, fr d P j⟩) (k := 100) (by omega) (by rw [fr_mem]; omega) (fr_full d P j) d HL.out
      have HU1 : Hid (putR ⟨j, fr d P j⟩ 100 512 = 7 ∧ putS ⟨j, fr d P j⟩ 100 d = ⟨j, fr d P j⟩) := hid (put_full (A := ⟨j, fr d P j⟩) (k := 100) (by omega) (by rw [fr_mem]; omega) (fr_full d P j) d HL.out)
      rw [hf1.1, hf1.2] at HF1
      have HFL := hid (fr_len d P j)
      have HDR := hid (fl_drop d P j k hkN)
      have HUN := hid (fl_unpin d P j k hkN)
      have HCL := hid (fl_clean d P j k hkN)
      obtain ⟨q1, C, q2, q3, q4, q5⟩ := fl_fill d HL.out P j k hkN hN2
      have HQ1 := hid q1
      have HQ2 := hid q2
      have HQ3 := hid q3
      have HQ4 := hid q4
      have HQ5 := hid q5
      have ik : IsI (k : Int) := isI_of (by omega) (by omega)
      have HPS := hid (fr_pins d P j)
      clear hf1 q1 q2 q3 q4 q5
      go_wp2_with fail
      refine HF1.out.mono ?_
      rintro e w3 ⟨rfl, S3, h3, hb3, _⟩
      have HU := hid (h3.put hb3 100 i100 (by omega))
      rw [HU1.out.1, HU1.out.2] at HU
      clear h3 hb3 HF1 HV1 HK1
      go_wp2_with fail
      refine HU.out.mono ?_
      rintro e w4 ⟨rfl, S4, h4, hb4, _⟩
      have HHE := hid (Held_any h4.ca)
      simp only at HHE
      rw [HFL.out] at HHE
      have H4 := hid h4
      have HB4 := hid hb4
      clear h4 hb4 HU
      go_wp2_with fail
      refine HHE.out.mono ?_
      rintro e w5 ⟨v5, rfl, h5, hb5⟩
      obtain ⟨a5, c5, e5⟩ := owns_slice h5
      subst e5
      have H5 := hid (H4.out.below hb5)
      have HB5 := hid (HB4.out.keep (Kp.below hb5))
      clear h5 hb5 H4 HB4 HHE
      go_wp2_with fail
      refine (HW2.out w5).mono ?_
      rintro e w6 ⟨rfl, hw6⟩
      rw [hw6]
      clear hw6
      have HDP := hid (Drop_any H5.out.ca k ik)
      rw [HDR.out.1, HDR.out.2] at HDP
      -- the rest, from the world in which k may go
      have HREST : Hid (∀ w7 S7 m7, Hv w0 w7 p S7 (fl d P j k) m7 → Bk w0 w7 S7 w2.heap.size d → m7 < 1000 → Calls Try.prog 17 #[pv p, .int .i64 100, .slice (some ⟨w2.heap.size, 0, none⟩) 512 512] w7 fun e w' => e = .returned (.int .i64 0) ∧ ∃ S', Hv w0 w' p S' C (m7 + 1)) := hid (fun w7 S7 m7 h7 hb7 hm7 => by
        have := h7.fill hb7 100 i100 (by omega)
        rw [HQ1.out, HQ2.out] at this
        exact this.mono (fun e w' ⟨e1, S', e2, _⟩ => ⟨e1, S', e2⟩))
      by_cases hkl : k < ln
      · have hkl2 : (k : Int) < ln := by omega
        obtain ⟨b, off, ha, hc⟩ := HPC.out k hkl
        subst ha
        replace hc := cell_later H5.out.bel hc
        generalize P k = pk at *
        cases pk with
        | true =>
          go_wp2_with fail
          refine HDP.out.mono ?_
          rintro e w7 ⟨rfl, S7, h7, hk7⟩
          have HUP := hid (Unpin_any h7 k ik HPS.out)
          rw [(HUN.out (by first | rfl | trivial)).1, (HUN.out (by first | rfl | trivial)).2] at HUP
          have H7 := hid (H5.out.step h7 hk7)
          have HB7 := hid (HB5.out.keep hk7)
          clear h7 hk7
          go_wp2_with fail
          refine HUP.out.mono ?_
          rintro e w8 ⟨rfl, S8, h8, hk8⟩
          have HRS := hid (HREST.out w8 S8 _ (H7.out.step h8 hk8) (HB7.out.keep hk8) (by omega))
          clear h8 hk8 HUP HDP HREST H7 HB7 H5 HB5
          go_wp2_with fail
          refine HRS.out.mono ?_
          rintro e w9 ⟨rfl, S9, h9⟩
          have H9 := hid h9
          clear h9
          go_wp2_with fail
          refine (Get_no H9.out.ca k ik HQ3.out).mono ?_
          rintro e w10 ⟨rfl, hw10⟩
          rw [hw10]
          clear hw10
          go_wp2_with fail
          refine (Get_has H9.out.ca 100 i100 HQ4.out).mono ?_
          rintro e w11 ⟨v11, S11, rfl, h11, hk11, h12⟩
          have H11 := hid (H9.out.step h11 hk11)
          obtain ⟨a11, c11, e11⟩ := owns_slice h12.1
          subst e11
          have HHF := hid (Held_any h11)
          rw [HQ5.out] at HHF
          clear h11 hk11 h12
          generalize (C.at 100).dat.length = dl at *
          go_wp2_with fail
          refine HHF.out.mono ?_
          rintro e w12 ⟨v12, rfl, h12, hb12⟩
          obtain ⟨a12, c12, e12⟩ := owns_slice h12
          subst e12
          have HBB := hid (H11.out.below hb12).bel
          clear h12 hb12
          go_wp2_with fail
          go_ret
          exact ⟨rfl, HBB.out⟩
        | false =>
          go_wp2_with fail
          refine HDP.out.mono ?_
          rintro e w7 ⟨rfl, S7, h7, hk7⟩
          have HUP := hid (Clean_any h7 k ik)
          rw [(HCL.out (by first | rfl | trivial)).1, (HCL.out (by first | rfl | trivial)).2] at HUP
          have H7 := hid (H5.out.step h7 hk7)
          have HB7 := hid (HB5.out.keep hk7)
          clear h7 hk7
          go_wp2_with fail
          refine HUP.out.mono ?_
          rintro e w8 ⟨rfl, S8, h8, hk8⟩
          have HRS := hid (HREST.out w8 S8 _ (H7.out.step h8 hk8) (HB7.out.keep hk8) (by omega))
          clear h8 hk8 HUP HDP HREST H7 HB7 H5 HB5
          go_wp2_with fail
          refine HRS.out.mono ?_
          rintro e w9 ⟨rfl, S9, h9⟩
          have H9 := hid h9
          clear h9
          go_wp2_with fail
          refine (Get_no H9.out.ca k ik HQ3.out).mono ?_
          rintro e w10 ⟨rfl, hw10⟩
          rw [hw10]
          clear hw10
          go_wp2_with fail
          refine (Get_has H9.out.ca 100 i100 HQ4.out).mono ?_
          rintro e w11 ⟨v11, S11, rfl, h11, hk11, h12⟩
          have H11 := hid (H9.out.step h11 hk11)
          obtain ⟨a11, c11, e11⟩ := owns_slice h12.1
          subst e11
          have HHF := hid (Held_any h11)
          rw [HQ5.out] at HHF
          clear h11 hk11 h12
          generalize (C.at 100).dat.length = dl at *
          go_wp2_with fail
          refine HHF.out.mono ?_
          rintro e w12 ⟨v12, rfl, h12, hb12⟩
          obtain ⟨a12, c12, e12⟩ := owns_slice h12
          subst e12
          have HBB := hid (H11.out.below hb12).bel
          clear h12 hb12
          go_wp2_with fail
          go_ret
          exact ⟨rfl, HBB.out⟩
      · have hkl2 : ¬ ((k : Int) < ln) := by omega
        have hkl3 : decide ((k : Int) < ln) = false := decide_eq_false hkl2
        go_wp2_with fail
        refine HDP.out.mono ?_
        rintro e w7 ⟨rfl, S7, h7, hk7⟩
        have HUP := hid (Clean_any h7 k ik)
        rw [(HCL.out (HPF.out k hkl)).1, (HCL.out (HPF.out k hkl)).2] at HUP
        have H7 := hid (H5.out.step h7 hk7)
        have HB7 := hid (HB5.out.keep hk7)
        clear h7 hk7
        go_wp2_with fail
        refine HUP.out.mono ?_
        rintro e w8 ⟨rfl, S8, h8, hk8⟩
        have HRS := hid (HREST.out w8 S8 _ (H7.out.step h8 hk8) (HB7.out.keep hk8) (by omega))
        clear h8 hk8 HUP HDP HREST H7 HB7 H5 HB5
        go_wp2_with fail
        refine HRS.out.mono ?_
        rintro e w9 ⟨rfl, S9, h9⟩
        have H9 := hid h9
        clear h9
        go_wp2_with fail
        refine (Get_no H9.out.ca k ik HQ3.out).mono ?_
        rintro e w10 ⟨rfl, hw10⟩
        rw [hw10]
        clear hw10
        go_wp2_with fail
        refine (Get_has H9.out.ca 100 i100 HQ4.out).mono ?_
        rintro e w11 ⟨v11, S11, rfl, h11, hk11, h12⟩
        have H11 := hid (H9.out.step h11 hk11)
        obtain ⟨a11, c11, e11⟩ := owns_slice h12.1
        subst e11
        have HHF := hid (Held_any h11)
        rw [HQ5.out] at HHF
        clear h11 hk11 h12
        generalize (C.at 100).dat.length = dl at *
        go_wp2_with fail
        refine HHF.out.mono ?_
        rintro e w12 ⟨v12, rfl, h12, hb12⟩
        obtain ⟨a12, c12, e12⟩ := owns_slice h12
        subst e12
        have HBB := hid (H11.out.below hb12).bel
        clear h12 hb12
        go_wp2_with fail
        go_ret
        exact ⟨rfl, HBB.out⟩
end Go.Proofs.Ytdfnfcimajomeaa
