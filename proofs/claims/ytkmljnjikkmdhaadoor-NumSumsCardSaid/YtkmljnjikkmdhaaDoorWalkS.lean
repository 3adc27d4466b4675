import Derived.Test.YtkmljnjikkmdhaaDoorRows
import Derived.Test.YtkmljnjikkmdhaaDoorWalkR
import Derived.WalkKit
import Derived.WalkSpells
import Derived.WalkLawsBesides
import Derived.Deep.QuietTactic
import Derived.BigQuiet
/-
  The walk of NumSums: it returns true, and nothing old is changed. Conditions: the table is as the program lays it; at most 2^47 rows.
-/
namespace Go.Proofs.YtkmljnjikkmdhaaDoor
open Go.RowKit
set_option linter.unusedVariables false

def InRows (w : World) (a : Option Addr) (ls : List (List Int)) : Prop :=
  ∀ i, i < ls.length → ∃ b off ai ci, a = some ⟨b, off, none⟩ ∧ w.cell? ⟨b, off + i, none⟩ = some (.slice ai (ls.getD i []).length ci) ∧ Bytes w ai (ls.getD i []) ∧ (ai = none → ci = 0)
theorem InRows.later {w w' : World} {a : Option Addr} {ls : List (List Int)} (h : InRows w a ls) (hb : Below w.heap.size w w') : InRows w' a ls := by
  intro i hi
  obtain ⟨b, off, ai, ci, ha, hc, hB, hn⟩ := h i hi
  exact ⟨b, off, ai, ci, ha, cell_later hb hc, hB.later hb, hn⟩
theorem upTo_row (ls : List (List Int)) (k : Nat) (hk : k < ls.length) : upTo ls k 0 ++ ls.getD k [] = upTo ls (k + 1) 0 := by
  rw [← upTo_next ls k (ls.getD k []).length hk (Nat.le_refl _)]
  unfold upTo
  simp
theorem upTo_small (ls : List (List Int)) (k : Nat) (hk : k ≤ ls.length) (h : ∀ i, i < k → (ls.getD i []).length ≤ 16384) : (upTo ls k 0).length ≤ 16384 * k := by
  induction k with
  | zero => simp [upTo]
  | succ k ih =>
    rw [← upTo_row ls k (by omega), List.length_append]
    have := ih (by omega) (fun i hi => h i (by omega))
    have := h k (by omega)
    omega
theorem lend_at (a : Option Addr) (k cap : Nat) (l : List Int) (w : World) (hk : l.length = k) (hl : l.length ≤ 140737488355328) (h : Bytes w a l) :
    Calls Tryd.prog 9 #[.slice a k cap] w fun e w' => e = .returned (.slice (some ⟨w.heap.size, 0, none⟩) k (k + 9)) ∧ Below w.heap.size w w' ∧ w'.heap.size = w.heap.size + 1 ∧
      w'.rowIs w.heap.size 5 (k + 9) (fun i => .int .u8 (marks l i)) := by
  subst hk; exact lend_any a cap l w hl h
theorem kept_at (g : Nat) (a : Option Addr) (k cap : Nat) (l : List Int) (w : World) (hk : l.length = k) (hl : l.length ≤ 140737488355328) (hr : w.rowIs g 5 (k + 9) (fun i => .int .u8 (marks l i))) (h : Bytes w a l) :
    Calls Tryd.prog 15 #[.slice (some ⟨g, 0, none⟩) k (k + 9), .slice a k cap] w fun e w' => e = .returned (.bool true) ∧ ∃ q, w' = w.drewN q := by
  subst hk; exact kept_any g a cap l w hl hr h

theorem St.opened {base : Nat} {w0 wr : World} {ls : List (List Int)} {k : Nat} {vA vM : Value} {gs : Nat → Nat} (h : St base w0 wr ls k vA vM gs) (hk : k ≤ ls.length) (hI : ∀ l ∈ ls, ∀ x ∈ l, IsB x) :
    ∃ aA capA aM capM, vA = .slice aA (upTo ls k 0).length capA ∧ Bytes wr aA (upTo ls k 0) ∧ vM = .slice aM k capM ∧ RowsOf wr aM (ls.take k) ∧ k ≤ capM ∧
      ∀ i, i < k → ∃ g, aM = some ⟨g, 0, none⟩ ∧ wr.cell? ⟨g, i, none⟩ = some (.slice (some ⟨gs i, 0, none⟩) (ls.getD i []).length ((ls.getD i []).length + 9)) := by
  obtain ⟨aA, capA, hA, hBA, _, _⟩ := h.all.bytes (upTo_isB ls hI k 0)
  have hcells : ∃ aM capM, vM = .slice aM k capM ∧ k ≤ capM ∧ ∀ i, i < k → ∃ g, aM = some ⟨g, 0, none⟩ ∧ wr.cell? ⟨g, i, none⟩ = some (.slice (some ⟨gs i, 0, none⟩) (ls.getD i []).length ((ls.getD i []).length + 9)) := by
    rcases h.mine.2 with ⟨rfl, h0⟩ | ⟨g, cap, cur, rfl, hg, hh, hn, hc, hs, ht⟩
    · exact ⟨none, 0, by rw [h0], by omega, fun i hi => by omega⟩
    · refine ⟨_, cap, rfl, hn, fun i hi => ⟨g, rfl, ?_⟩⟩
      have hi2 : i < cur.size := by omega
      have e := congrArg (fun q => q[i]?) ht
      simp [hi, hi2] at e
      simp [World.cell?, hh, hi2, e, lentCell]
  obtain ⟨aM, capM, hM, hcM, hcs⟩ := hcells
  refine ⟨aA, capA, aM, capM, hA, hBA, hM, ?_, hcM, hcs⟩
  intro i hi
  rw [List.length_take] at hi
  have hik : i < k := by omega
  obtain ⟨g, ha, hc⟩ := hcs i hik
  have e : (ls.take k).getD i [] = ls.getD i [] := by
    have h2 : i < ls.length := by omega
    simp [List.getD, hik, h2]
  rw [e]
  refine ⟨g, 0, _, _, ha, by rw [Nat.zero_add]; exact hc, ?_⟩
  refine marks_bytes (fun x hx => ?_) (h.rows i hik)
  have h2 : i < ls.length := by omega
  have e2 : ls.getD i [] = ls[i] := by simp [List.getD, h2]
  rw [e2] at hx
  exact hI _ (List.getElem_mem h2) x hx
theorem crc_at (a : Option Addr) (n cap : Nat) (ls : List (List Int)) (w : World) (hn : ls.length = n) (hl : ls.length ≤ 140737488355328) (htot : ls.flatten.length ≤ 1099511627776) (h : RowsOf w a ls) (hT : Tab w) :
    Calls Tryd.prog 20 #[.slice a n cap] w fun e w' => e = .returned (.int .u32 (4294967295 - crcOn 4294967295 ls.flatten)) ∧ w' = w := by
  subst hn; exact crc_any a cap ls w hl htot h hT
theorem inet_at (a : Option Addr) (n cap : Nat) (ls : List (List Int)) (w : World) (hn : ls.length = n) (hl : ls.length ≤ 140737488355328) (htot : ls.flatten.length ≤ 1099511627776) (h : RowsOf w a ls) :
    Calls Tryd.prog 21 #[.slice a n cap] w fun e w' => e = .returned (.int .u16 (65535 - inetFold (wsum 0 ls.flatten))) ∧ w' = w := by
  subst hn; exact inet_any a cap ls w hl htot h
theorem refCrc_at (a : Option Addr) (n cap : Nat) (l : List Int) (w : World) (hn : l.length = n) (hl : l.length ≤ 140737488355328) (h : Bytes w a l) :
    Calls Tryd.prog 22 #[.slice a n cap] w fun e w' => e = .returned (.int .u32 (4294967295 - crcOn 4294967295 l)) ∧ w' = w := by
  subst hn; exact refCrc_any a cap l w hl h
theorem refInet_at (a : Option Addr) (n cap : Nat) (l : List Int) (w : World) (hn : l.length = n) (hl : l.length ≤ 1099511627776) (h : Bytes w a l) :
    Calls Tryd.prog 23 #[.slice a n cap] w fun e w' => e = .returned (.int .u16 (65535 - inetFold (wsum 0 l))) ∧ w' = w := by
  subst hn; exact refInet_any a cap l w hl h
theorem upTo_flat (ls : List (List Int)) (k : Nat) : (ls.take k).flatten = upTo ls k 0 := by unfold upTo; simp
theorem InRows.isB {w : World} {a : Option Addr} {ls : List (List Int)} (h : InRows w a ls) : ∀ l ∈ ls, ∀ x ∈ l, IsB x := by
  intro l hl x hx
  obtain ⟨i, hi, rfl⟩ := List.getElem_of_mem hl
  obtain ⟨b, off, ai, ci, _, _, hb, _⟩ := h i hi
  have e : ls.getD i [] = ls[i] := by simp [List.getD, hi]
  rw [e] at hb
  exact hb.isB x hx
theorem own_st {w : World} {base : Nat} {v : Value} {l m : List Int} (h : Own w base v l) (e : l = m) : Own w base v m := by rw [← e]; exact h
set_option maxHeartbeats 1000000 in
theorem numSums_t (a : Option Addr) (cap : Nat) (ls : List (List Int)) (w : World) (hl : ls.length ≤ 140737488355328) (h : InRows w a ls) (hT : Tab w) :
    Calls Tryd.prog 5 #[.slice a ls.length cap] w fun e w' => e = .returned (.bool true) ∧ Below w.heap.size w w' := by
  have HT := hid hT
  have HR := hid h
  clear h hT
  obtain ⟨n, hn⟩ : ∃ n, ls.length = n := ⟨_, rfl⟩
  have HN := hid hn
  rw [hn] at hl ⊢
  clear hn
  go_enter Tryd.func5, Tryd.ntmps5
  go_wp2_with fail
  refine (known_any _ HT.out).mono ?_
  rintro e w1 ⟨rfl, hb1⟩
  have HB1 := hid hb1
  have HR1 := hid (HR.out.later hb1)
  have HT1 := hid (HT.out.later hb1)
  clear hb1 HR HT
  go_wp2_with fail
  go_loopw [3, 4, 5] (fun vA vM i wr => ∃ (k : Nat) (gs : Nat → Nat), k ≤ n ∧ k ≤ 100 ∧ i = .int .i64 k ∧ Hid (∀ i, i < k → (ls.getD i []).length ≤ 16384) ∧ Hid (St w1.heap.size w1 wr ls k vA vM gs)) (fun _ _ i _ => n - (intOf i).toNat)
  case atStart =>
    refine ⟨0, fun _ => 0, Nat.zero_le _, Nat.zero_le _, rfl, hid (fun i hi => by omega), hid ?_⟩
    exact ⟨⟨rfl, .inl ⟨rfl, rfl⟩⟩, ⟨rfl, .inl ⟨rfl, rfl⟩⟩, fun i hi => by omega, fun i hi => by omega, fun g hg => by simp [Value.ownBlock] at hg, fun i hi => by omega, fun i hi => by omega, Below.refl _ _⟩
  case round =>
    obtain ⟨k, gs, hk, hk100, rfl, hlens, hst⟩ := hrel
    by_cases hlt : k < n ∧ k < 100
    · obtain ⟨hkn, hk1⟩ := hlt
      have hkl : k < ls.length := by rw [HN.out]; exact hkn
      obtain ⟨b, off, ai, ci, rfl, hc0, hB0, hnil0⟩ := HR1.out k hkl
      obtain ⟨row, hrow⟩ : ∃ row, ls.getD k [] = row := ⟨_, rfl⟩
      rw [hrow] at hc0 hB0
      obtain ⟨m, hm⟩ : ∃ m, row.length = m := ⟨_, rfl⟩
      rw [hm] at hc0
      have HRow := hid hrow
      have HKL := hid hkl
      clear hrow hkl
      have hcw : ∀ wx, Below w1.heap.size w1 wx → wx.cell? ⟨b, off + k, none⟩ = some (.slice ai m ci) := fun wx hbx => cell_later hbx hc0
      have hc := hcw _ hst.out.below
      have HM := hid hm
      have HBy := hid hB0
      have HNil := hid hnil0
      have HCW := hid hcw
      have hki : (k : Int) < (n : Int) := by omega
      have hki2 : (k : Int) < 100 := by omega
      clear hm hB0 hnil0 hcw hc0
      by_cases hbig : 16384 < m
      · have hbi : (16384 : Int) < (m : Int) := by omega
        go_wp2
        go_ret
        exact ⟨rfl, HB1.out.trans (hst.out.below.mono HB1.out.size)⟩
      · have hbi : ¬ ((16384 : Int) < (m : Int)) := by omega
        have hsz : w1.heap.size ≤ wr.heap.size := hst.out.below.size
        go_wp2_with (at_builtin; refine wpList_append_where rfl (.tmp 27) (.tmp 31) rfl w1.heap.size _ (upTo ls k 0) row rfl hst.out.all m HM.out ai ci rfl (HBy.out.later hst.out.below) HNil.out ?o1 hsz ?_; rotate_left 1; intro vA' w2 hA' hgA hatA; have hbel2 := hst.out.below.grown hgA.out hsz (fun g hg => (owns_lt hst.out.all hg).2); have hc2 := HCW.out _ hbel2; have HBel2 := hid hbel2; clear hbel2)
        case o1 => have := upTo_small ls k (by rw [HN.out]; omega) hlens.out; rw [HM.out]; omega
        have hA2 := hid (own_st hA'.out (show upTo ls k 0 ++ row = upTo ls (k + 1) 0 by rw [← HRow.out]; exact upTo_row ls k HKL.out))
        clear hA'
        refine (lend_at ai m ci row w2 HM.out (by rw [HM.out]; omega) (HBy.out.later HBel2.out)).mono ?_
        rintro e w3 ⟨rfl, hb3, hs3, hr3⟩
        have hM3 := hid (show w3.ownsRow w1.heap.size 22 1 _ k ((List.range k).map (lentCell ls gs)) from owns_keep hst.out.mine fun g hg => by
          have hlt := owns_lt hst.out.mine hg
          rw [hb3.block g (Nat.lt_of_lt_of_le hlt.1 hgA.out.size)]
          exact hgA.out.block g hlt.1 (fun e => hst.out.apart g e.symm hg))
        have HB3 := hid hb3
        have HS3 := hid hs3
        have HR3 := hid hr3
        have hsz3 : w1.heap.size ≤ w3.heap.size := by have := HBel2.out.size; omega
        clear hb3 hs3 hr3 hc hc2
        go_wp2_with (at_builtin; refine wpList_append_row rfl (.tmp 33) (.tmp 39) rfl w1.heap.size _ k _ rfl hM3.out rfl rfl (by omega) hsz3 ?_; intro vM' w5 hM' hgM hatM)
        have hstep := hid (St.step (ls := ls) hst.out hsz hA2.out hgA.out hatA.out HB3.out HS3.out (by rw [HRow.out, HM.out]; exact HR3.out) (by rw [HRow.out, HM.out]; exact hM'.out) (by rw [HRow.out, HM.out]; exact hgM.out) hatM.out)
        have hlens2 := hid (show ∀ i, i < k + 1 → (ls.getD i []).length ≤ 16384 from fun i hi => by
          by_cases e : i = k
          · subst e; rw [HRow.out, HM.out]; omega
          · exact hlens.out i (by omega))
        clear hA2 hgA hatA hM3 HB3 HS3 HR3 hM' hgM hatM hst hlens
        go_wp2
        go_roundw
        case rel => exact ⟨k + 1, _, by omega, by omega, by go_num, hlens2, hstep⟩
        case measure => simp [intOf]; omega
    · have HIB := hid HR1.out.isB
      obtain ⟨aA, capA, aM, capM, hvA, hBA, hvM, hRows, hcM, hcs⟩ := hst.out.opened (by rw [HN.out]; exact hk) HIB.out
      have hLb := upTo_small ls k (by rw [HN.out]; exact hk) hlens.out
      have hkl : (ls.take k).length = k := by rw [List.length_take, HN.out]; omega
      have hfl := upTo_flat ls k
      obtain ⟨L, hL⟩ : ∃ L, upTo ls k 0 = L := ⟨_, rfl⟩
      rw [hL] at hvA hBA hLb hfl
      obtain ⟨len, hlen⟩ : ∃ len, L.length = len := ⟨_, rfl⟩
      rw [hlen] at hvA hLb
      subst hvA
      subst hvM
      have HBA := hid hBA
      have HRows := hid hRows
      have HCs := hid hcs
      have HKL := hid hkl
      have HFl := hid hfl
      have HLen := hid hlen
      have hT2 := hid (HT1.out.later hst.out.below)
      clear hBA hRows hcs hkl hfl hlen hL
      have hcond : (¬ ((k : Int) < (n : Int))) ∨ ((k : Int) < (n : Int) ∧ ¬ ((k : Int) < 100)) := by omega
      rcases hcond with hc1 | ⟨hc1, hc2⟩
      all_goals
        go_wp2_with fail
        refine (crc_at aM k capM (ls.take k) wr HKL.out (by rw [HKL.out]; omega) (by rw [HFl.out, HLen.out]; omega) HRows.out hT2.out).mono ?_
        rintro e w2 ⟨rfl, rfl⟩
        rw [HFl.out]
        go_wp2_with fail
        refine (inet_at aM k capM (ls.take k) w2 HKL.out (by rw [HKL.out]; omega) (by rw [HFl.out, HLen.out]; omega) HRows.out).mono ?_
        rintro e w3 ⟨rfl, rfl⟩
        rw [HFl.out]
        obtain ⟨A, hA⟩ : ∃ A, 4294967295 - crcOn 4294967295 L = A := ⟨_, rfl⟩
        obtain ⟨B, hB⟩ : ∃ B, 65535 - inetFold (wsum 0 L) = B := ⟨_, rfl⟩
        rw [hA, hB]
        have HA := hid hA
        have HB := hid hB
        clear hA hB
        go_wp2_with fail
        go_loopw [8] (fun i wx => ∃ j q : Nat, j ≤ k ∧ i = .int .i64 j ∧ wx = w3.drewN q) (fun i _ => k - (intOf i).toNat)
        case atStart => exact ⟨0, 0, Nat.zero_le _, rfl, rfl⟩
        case round =>
          obtain ⟨j, q, hj, rfl, rfl⟩ := hrel
          by_cases hjk : j < k
          · obtain ⟨g, rfl, hcm⟩ := HCs.out j hjk
            obtain ⟨b, off, ai, ci, rfl, hcl, hBl, _⟩ := HR1.out j (by rw [HN.out]; omega)
            have hcl2 := cell_later hst.out.below hcl
            have hrj := hst.out.rows j hjk
            have hlj := hlens.out j hjk
            obtain ⟨row, hrow⟩ : ∃ row, ls.getD j [] = row := ⟨_, rfl⟩
            rw [hrow] at hcm hcl2 hBl hrj hlj
            obtain ⟨m, hm⟩ : ∃ m, row.length = m := ⟨_, rfl⟩
            rw [hm] at hcm hcl2 hrj hlj
            obtain ⟨wx, hwx⟩ : ∃ wx, w3.drewN q = wx := ⟨_, rfl⟩
            have hkep := hid (show ∀ q2, Calls Tryd.prog 15 #[.slice (some ⟨gs j, 0, none⟩) m (m + 9), .slice ai m ci] (wx.drewN q2) fun e w' => e = .returned (.bool true) ∧ ∃ q, w' = (wx.drewN q2).drewN q from fun q2 => kept_at (gs j) ai m ci row (wx.drewN q2) hm (by omega) (by rw [← hwx]; exact hrj) (by rw [← hwx]; exact hBl.later (below_drewN (below_drewN hst.out.below _) _)))
            have hcmx : wx.cell? ⟨g, j, none⟩ = some (.slice (some ⟨gs j, 0, none⟩) m (m + 9)) := by rw [← hwx]; exact hcm
            have hclx : wx.cell? ⟨b, off + j, none⟩ = some (.slice ai m ci) := by rw [← hwx]; exact hcl2
            have hji : (j : Int) < (k : Int) := by omega
            have hjn : (j : Int) < (n : Int) := by omega
            rw [hwx]
            have HWX := hid hwx
            clear hcl hBl hrj hrow hm hcm hcl2 hwx
            go_wp2
            go_quiet ((go_at_call 15; exact Calls.quiet_of (hkep.out _)))
            go_wp2
            go_roundw
            case rel => exact ⟨j + 1, _, by omega, by go_num, by rw [← HWX.out, World.drewN_drewN]⟩
            case measure => simp [intOf]; omega
          · go_wp2_with fail
            refine (refCrc_at aA len capA L _ HLen.out (by rw [HLen.out]; omega) (HBA.out.drewN q)).mono ?_
            rintro e w4 ⟨rfl, rfl⟩
            rw [HA.out]
            go_wp2_with fail
            refine (refInet_at aA len capA L _ HLen.out (by rw [HLen.out]; omega) (HBA.out.drewN q)).mono ?_
            rintro e w4 ⟨rfl, rfl⟩
            rw [HB.out]
            go_wp2
            go_ret
            exact ⟨rfl, below_drewN (HB1.out.trans (hst.out.below.mono HB1.out.size)) q⟩
end Go.Proofs.YtkmljnjikkmdhaaDoor
