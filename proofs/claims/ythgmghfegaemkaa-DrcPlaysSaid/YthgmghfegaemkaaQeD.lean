/- The document's Begin, of one that is not known: the walk. -/
import Derived.Test.YthgmghfegaemkaaQeC
namespace Go.Proofs.Ythgmghfegaemkaa
open Go.RowKit Go.Maps
set_option linter.unusedVariables false

set_option maxRecDepth 100000 in
set_option maxHeartbeats 8000000 in
theorem dBegin_room (w : World) (q : Nat) (T : Nat → Prop) (n : Nat) (E : List De) (v : Value) (h : DbX w q T n E v) (k : Ky) (hf : fndT (toT E) k = none) (hE : E.length ≤ 1000) (hlt : E.length < n) :
    Calls Try.prog 9 #[.pointer (some ⟨q, 0, none⟩), kV k] w (dBeginPost w q T n (toT E) k) := by
  obtain ⟨m, hm⟩ : ∃ m, E.length = m := ⟨_, rfl⟩
  obtain ⟨ra, cap, rfl⟩ := h.row.shape
  rw [hm] at h
  obtain ⟨g3, hg3⟩ : ∃ g, w.heap.size = g := ⟨_, rfl⟩
  obtain ⟨W1, hW1⟩ : ∃ W, W = w.alloc (.cells (kL k).toArray 40) := ⟨_, rfl⟩
  have b1 : Below w.heap.size w W1 := by rw [hW1]; exact below_alloc (Below.refl _ _) (Nat.le_refl _) _
  have hg1 : W1.heap[g3]? = some (.cells (kL k).toArray 40 (0, 0)) := by rw [hW1, ← hg3]; exact alloc_new w _
  have c0 : W1.cell? ⟨q, 0, none⟩ = some (.int .i64 n) := cell_later b1 (cell_of h.box rfl)
  have c1 : W1.cell? ⟨q, 1, none⟩ = some (.slice ra m cap) := cell_later b1 (cell_of h.box rfl)
  have k0 : W1.cell? ⟨g3, 0, none⟩ = some (.int .u32 k.ip) := cell_of hg1 rfl
  have k1 : W1.cell? ⟨g3, 1, none⟩ = some (.int .i64 k.port) := cell_of hg1 rfl
  have k2 : W1.cell? ⟨g3, 2, none⟩ = some (.int .u32 k.xid) := cell_of hg1 rfl
  have k3 : W1.cell? ⟨g3, 3, none⟩ = some (.int .u32 k.proc) := cell_of hg1 rfl
  have k4 : W1.cell? ⟨g3, 4, none⟩ = some (.int .u32 k.sum) := cell_of hg1 rfl
  have HC : Hid (∀ i, i < m → ∃ b off, ra = some ⟨b, off, none⟩ ∧ m ≤ cap ∧ ∃ K : Ky, ∃ d : Bool, d = dnT (toT E) i ∧ K ≠ k ∧ W1.cell? ⟨b, off + i * 7, none⟩ = some (.int .u32 K.ip) ∧ W1.cell? ⟨b, off + i * 7 + 1, none⟩ = some (.int .i64 K.port) ∧ W1.cell? ⟨b, off + i * 7 + 2, none⟩ = some (.int .u32 K.xid) ∧ W1.cell? ⟨b, off + i * 7 + 3, none⟩ = some (.int .u32 K.proc) ∧ W1.cell? ⟨b, off + i * 7 + 4, none⟩ = some (.int .u32 K.sum) ∧ W1.cell? ⟨b, off + i * 7 + 5, none⟩ = some (.bool d)) := hid (fun i hi => by
    have hiE : i < E.length := by omega
    obtain ⟨b, off, cap', ev, hcap, hcl, hfz⟩ := h.cells hm (by omega)
    simp only [Value.slice.injEq, true_and] at ev
    obtain ⟨rfl, rfl⟩ := ev
    have g (j : Nat) (u : Value) (hu : (dC E[i])[j]? = some u) : W1.cell? ⟨b, off + i * 7 + j, none⟩ = some u := cell_later b1 (hcl i hi j u hu)
    refine ⟨b, off, rfl, hcap, E[i].1, E[i].2.1.isSome, ?_, ?_, g 0 _ rfl, g 1 _ rfl, g 2 _ rfl, g 3 _ rfl, g 4 _ rfl, g 5 _ rfl⟩
    · rw [dnT_at (by rw [toT_len]; exact hiE), toT_at hiE]
    · have := fndT_none.1 hf _ (List.getElem_mem (l := toT E) (by rw [toT_len]; exact hiE))
      rw [toT_at hiE] at this
      exact this)
  obtain ⟨eC, eR, eL⟩ := beC_new (n := n) hf
  have HEC := hid eC
  have HER := hid eR
  have HEL := hid eL
  have HB1 := hid b1
  have HH := hid h
  have HF := hid hf
  have HM := hid hm
  have hm1 : m ≤ 1000 := by omega
  have HW := hW1.symm
  have hlz8 : ¬ ((n : Int) ≤ (m : Int)) := by omega
  have HRM := hid (rmT_room (n := n) (L := toT E) (by rw [toT_len]; exact hlt))
  clear hlt
  clear hW1 b1 hg1 h hf eC eR eL hE hm
  go_enter Try.func9, Try.ntmps9
  go_wp2
  go_loopw [6] (fun iv wr => ∃ i : Nat, ∃ nq, i ≤ m ∧ iv = .int .i64 i ∧ wr = W1.drewN nq) (fun iv _ => m - (intOfD iv).toNat)
  case atStart => exact ⟨0, 0, Nat.zero_le _, rfl, rfl⟩
  case round =>
    obtain ⟨i, nq0, hi, rfl, rfl⟩ := hrel
    by_cases him : i < m
    · have hlz : (i : Int) < (m : Int) := by omega
      obtain ⟨b, off, rfl, hcap, K, d, hA, hB, e0, e1, e2, e3, e4, e5⟩ := HC.out i him
      have hq : ∀ W, (binOp .eql 40 (.agg #[.int .u32 K.ip, .int .i64 K.port, .int .u32 K.xid, .int .u32 K.proc, .int .u32 K.sum]) (.agg #[.int .u32 k.ip, .int .i64 k.port, .int .u32 k.xid, .int .u32 k.proc, .int .u32 k.sum])).run Try.prog W = .ok (.bool (decide (K = k))) W := fun W => eqlD K k W
      have hdk : decide (K = k) = false := by simpa using hB
      rw [hdk] at hq
      clear hA hB hdk
      go_wp2_with fail
      go_quiet (fail)
      go_wp2
      go_roundw
      case rel => exact ⟨i + 1, _, by omega, by go_num, rfl⟩
      case measure => simp [intOfD]; omega
    · have hlz : ¬ (i : Int) < (m : Int) := by omega
      have him2 : i = m := by omega
      subst him2
      go_wp2_with fail
      go_quiet (fail)
      go_wp2_with fail
      have eX : (W1.drewN nq0).drewN nq = W1.drewN (nq0 + nq) := by simp
      rw [eX]
      obtain ⟨X, hX⟩ : ∃ X, X = W1.drewN (nq0 + nq) := ⟨_, rfl⟩
      rw [← hX]
      have HBX : Hid (Below w.heap.size w X) := hid (by rw [hX]; exact below_drewN HB1.out _)
      have bX : Below W1.heap.size W1 X := by rw [hX]; exact below_drewN (Below.refl _ _) _
      have x0 := cell_later bX k0
      have x1 := cell_later bX k1
      have x2 := cell_later bX k2
      have x3 := cell_later bX k3
      have x4 := cell_later bX k4
      have x10 := cell_later bX c0
      have x11 := cell_later bX c1
      obtain ⟨W7, hW7, hq7, a8, c8, w8, hap, hq8, hD, hK⟩ := DbX.push (HH.out.later HBX.out.drew) HF.out HM.out hm1
      have hap2 : (Builtin.append_ #[46, 46] 46 #[.slice ra i cap, .slice (some ⟨X.heap.size, 0, none⟩) 1 1]).run Try.prog (X.alloc (.cells #[.int .u32 k.ip, .int .i64 k.port, .int .u32 k.xid, .int .u32 k.proc, .int .u32 k.sum, .bool false, .slice none 0 0] 50)).drew = .ok (.slice a8 (i + 1) c8) w8 := by rw [hW7] at hap; exact hap
      have bA : Below X.heap.size X (X.alloc (.cells #[.int .u32 k.ip, .int .i64 k.port, .int .u32 k.xid, .int .u32 k.proc, .int .u32 k.sum, .bool false, .slice none 0 0] 50)) := below_alloc (Below.refl _ _) (Nat.le_refl _) _
      have y0 := cell_later bA x0
      have y1 := cell_later bA x1
      have y2 := cell_later bA x2
      have y3 := cell_later bA x3
      have y4 := cell_later bA x4
      have y11 := cell_later bA x11
      have d8 := froz_of hq8 1
      have e8 := cell_of hq8 (i := 1) (v := .slice ra i cap) rfl
      obtain ⟨W9, hW9⟩ : ∃ W, W = w8.setCell ⟨q, 1, none⟩ (.slice a8 (i + 1) c8) := ⟨_, rfl⟩
      rw [← hW9] at hD hK
      have HD := hid hD
      have HK := hid hK
      clear hW7 hq7 hap hq8 hD hK bA bX hX eX c0 c1 k0 k1 k2 k3 k4 HC HB1
      go_region_law (refine step_append_runQ rfl _ _ 46 rfl rfl rfl hap2 ?_)
      all_goals
        rw [← hW9]
        clear hW9
        go_wp2
        go_ret2
        refine ⟨none, 0, _, by rw [HEC.out, HER.out, HRM.out]; rfl, by rw [HER.out]; exact Bytes.nil_ _ _, ?_, (Kp.below HBX.out.drew).trans HK.out⟩
        rw [HEL.out, HRM.out]
        exact HD.out
end Go.Proofs.Ythgmghfegaemkaa
