/- The document's End: the walks. -/
import Derived.Test.YthgmghfegaemkaaQeG
namespace Go.Proofs.Ythgmghfegaemkaa
open Go.RowKit Go.Maps
set_option linter.unusedVariables false

set_option maxRecDepth 100000 in
set_option maxHeartbeats 8000000 in
theorem dEnd_no (w : World) (q : Nat) (T : Nat → Prop) (n : Nat) (E : List De) (v : Value) (h : DbX w q T n E v) (k : Ky) (hf : fndT (toT E) k ≠ some none) (hE : E.length ≤ 1000) (a : Option Addr) (rn rc : Nat) (r : List Int) :
    Calls Try.prog 12 #[.pointer (some ⟨q, 0, none⟩), kV k, .slice a rn rc] w (dEndPost w q T n (toT E) k r) := by
  obtain ⟨m, hm⟩ : ∃ m, E.length = m := ⟨_, rfl⟩
  obtain ⟨ra, cap, rfl⟩ := h.row.shape
  rw [hm] at h
  obtain ⟨g4, hg4⟩ : ∃ g, w.heap.size = g := ⟨_, rfl⟩
  obtain ⟨W1, hW1⟩ : ∃ W, W = w.alloc (.cells (kL k).toArray 40) := ⟨_, rfl⟩
  have b1 : Below w.heap.size w W1 := by rw [hW1]; exact below_alloc (Below.refl _ _) (Nat.le_refl _) _
  have hg1 : W1.heap[g4]? = some (.cells (kL k).toArray 40 (0, 0)) := by rw [hW1, ← hg4]; exact alloc_new w _
  have c1 : W1.cell? ⟨q, 1, none⟩ = some (.slice ra m cap) := cell_later b1 (cell_of h.box rfl)
  have k0 : W1.cell? ⟨g4, 0, none⟩ = some (.int .u32 k.ip) := cell_of hg1 rfl
  have k1 : W1.cell? ⟨g4, 1, none⟩ = some (.int .i64 k.port) := cell_of hg1 rfl
  have k2 : W1.cell? ⟨g4, 2, none⟩ = some (.int .u32 k.xid) := cell_of hg1 rfl
  have k3 : W1.cell? ⟨g4, 3, none⟩ = some (.int .u32 k.proc) := cell_of hg1 rfl
  have k4 : W1.cell? ⟨g4, 4, none⟩ = some (.int .u32 k.sum) := cell_of hg1 rfl
  have HC : Hid (∀ i (hi : i < m), ∃ b off, ra = some ⟨b, off, none⟩ ∧ m ≤ cap ∧ ∃ K : Ky, ∃ d : Bool, ∃ rv : Value, (K = k → d = true) ∧ W1.cell? ⟨b, off + i * 7, none⟩ = some (.int .u32 K.ip) ∧ W1.cell? ⟨b, off + i * 7 + 1, none⟩ = some (.int .i64 K.port) ∧ W1.cell? ⟨b, off + i * 7 + 2, none⟩ = some (.int .u32 K.xid) ∧ W1.cell? ⟨b, off + i * 7 + 3, none⟩ = some (.int .u32 K.proc) ∧ W1.cell? ⟨b, off + i * 7 + 4, none⟩ = some (.int .u32 K.sum) ∧ W1.cell? ⟨b, off + i * 7 + 5, none⟩ = some (.bool d) ∧ W1.cell? ⟨b, off + i * 7 + 6, none⟩ = some rv ∧ ∀ j, W1.frozen? ⟨b, j, none⟩ = false) := hid (fun i hi => by
    have hiE : i < E.length := by omega
    obtain ⟨b, off, cap', ev, hcap, hcl, hfz⟩ := h.cells hm (by omega)
    simp only [Value.slice.injEq, true_and] at ev
    obtain ⟨rfl, rfl⟩ := ev
    have g (j : Nat) (u : Value) (hu : (dC E[i])[j]? = some u) : W1.cell? ⟨b, off + i * 7 + j, none⟩ = some u := cell_later b1 (hcl i hi j u hu)
    obtain ⟨cur, hkd⟩ := h.row.kind (b := b) rfl
    refine ⟨b, off, rfl, hcap, E[i].1, E[i].2.1.isSome, E[i].2.2, ?_, g 0 _ rfl, g 1 _ rfl, g 2 _ rfl, g 3 _ rfl, g 4 _ rfl, g 5 _ rfl, g 6 _ rfl, fun j => froz_of ((b1.block b (Array.getElem?_eq_some_iff.1 hkd).1).trans hkd) j⟩
    intro e
    have hx := fndT_at h.nd (i := i) (by rw [toT_len]; exact hiE)
    rw [toT_at hiE] at hx
    simp only at hx
    rw [e] at hx
    rw [hx] at hf
    cases ho : E[i].2.1 with
    | none => rw [ho] at hf; exact absurd rfl hf
    | some l => rfl)
  have HB1 := hid b1
  have HH := hid h
  have HM := hid hm
  have hm1 : m ≤ 1000 := by omega
  have HW := hW1.symm
  have HEC := hid (show enC (toT E) k = 2 by unfold enC; rw [if_neg hf])
  have HEL := hid (show enL (toT E) k r = toT E by unfold enL; rw [if_neg hf])
  clear hW1 b1 hg1 h hf hE hm
  go_enter Try.func12, Try.ntmps12
  go_wp2
  go_loopw [7] (fun iv wr => ∃ i : Nat, ∃ nq, i ≤ m ∧ iv = .int .i64 i ∧ wr = W1.drewN nq) (fun iv _ => m - (intOfD iv).toNat)
  case atStart => exact ⟨0, 0, Nat.zero_le _, rfl, rfl⟩
  case round =>
    obtain ⟨i, nq0, hi, rfl, rfl⟩ := hrel
    by_cases him : i < m
    · have hlz : (i : Int) < (m : Int) := by omega
      obtain ⟨b, off, rfl, hcap, K, d, rv, hA, e0, e1, e2, e3, e4, e5, e6, hfz⟩ := HC.out i him
      have hq : ∀ W, (binOp .eql 40 (.agg #[.int .u32 K.ip, .int .i64 K.port, .int .u32 K.xid, .int .u32 K.proc, .int .u32 K.sum]) (.agg #[.int .u32 k.ip, .int .i64 k.port, .int .u32 k.xid, .int .u32 k.proc, .int .u32 k.sum])).run Try.prog W = .ok (.bool (decide (K = k))) W := fun W => eqlD K k W
      by_cases hKk : K = k
      · have hd0 : d = true := hA hKk
        subst hd0
        have hdk : decide (K = k) = true := by simpa using hKk
        rw [hdk] at hq
        subst hKk
        clear hA hdk
        go_wp2_with fail
        go_quiet (fail)
        go_wp2
        go_roundw
        case rel => exact ⟨i + 1, _, by omega, by go_num, rfl⟩
        case measure => simp [intOfD]; omega
      · have hdk : decide (K = k) = false := by simpa using hKk
        rw [hdk] at hq
        clear hA hdk
        go_wp2_with fail
        go_quiet (fail)
        go_wp2
        go_roundw
        case rel => exact ⟨i + 1, _, by omega, by go_num, rfl⟩
        case measure => simp [intOfD]; omega
    · have hlz : ¬ (i : Int) < (m : Int) := by omega
      go_wp2
      go_ret
      exact ⟨T, by rw [HEC.out]; rfl, by rw [HEL.out]; exact ⟨E, _, rfl, HH.out.later (below_drewN HB1.out nq0)⟩, Kp.below (below_drewN HB1.out nq0)⟩
set_option maxRecDepth 100000 in
set_option maxHeartbeats 8000000 in
theorem dEnd_yes (w : World) (q : Nat) (T : Nat → Prop) (n : Nat) (E : List De) (v : Value) (h : DbX w q T n E v) (k : Ky) (hf : fndT (toT E) k = some none) (hE : E.length ≤ 1000) (a : Option Addr) (rn rc : Nat) (r : List Int) (hrn : r.length = rn) (hrl : rn ≤ 900000) (hr : Bytes w a r) (hrT : ∀ x o, 0 < rn → a = some ⟨x, o, none⟩ → ¬ T x) :
    Calls Try.prog 12 #[.pointer (some ⟨q, 0, none⟩), kV k, .slice a rn rc] w (dEndPost w q T n (toT E) k r) := by
  obtain ⟨i0, hi0', hk0, ho0, hfst⟩ := fndT_ix hf
  have hi0 : i0 < E.length := by rw [toT_len] at hi0'; exact hi0'
  rw [toT_at hi0] at hk0 ho0
  simp only at hk0 ho0
  obtain ⟨m, hm⟩ : ∃ m, E.length = m := ⟨_, rfl⟩
  obtain ⟨ra, cap, rfl⟩ := h.row.shape
  rw [hm] at h
  obtain ⟨g4, hg4⟩ : ∃ g, w.heap.size = g := ⟨_, rfl⟩
  obtain ⟨W1, hW1⟩ : ∃ W, W = w.alloc (.cells (kL k).toArray 40) := ⟨_, rfl⟩
  have b1 : Below w.heap.size w W1 := by rw [hW1]; exact below_alloc (Below.refl _ _) (Nat.le_refl _) _
  have hg1 : W1.heap[g4]? = some (.cells (kL k).toArray 40 (0, 0)) := by rw [hW1, ← hg4]; exact alloc_new w _
  have c1 : W1.cell? ⟨q, 1, none⟩ = some (.slice ra m cap) := cell_later b1 (cell_of h.box rfl)
  have k0 : W1.cell? ⟨g4, 0, none⟩ = some (.int .u32 k.ip) := cell_of hg1 rfl
  have k1 : W1.cell? ⟨g4, 1, none⟩ = some (.int .i64 k.port) := cell_of hg1 rfl
  have k2 : W1.cell? ⟨g4, 2, none⟩ = some (.int .u32 k.xid) := cell_of hg1 rfl
  have k3 : W1.cell? ⟨g4, 3, none⟩ = some (.int .u32 k.proc) := cell_of hg1 rfl
  have k4 : W1.cell? ⟨g4, 4, none⟩ = some (.int .u32 k.sum) := cell_of hg1 rfl
  have HC : Hid (∀ i (hi : i < m), ∃ b off, ra = some ⟨b, off, none⟩ ∧ m ≤ cap ∧ ∃ K : Ky, ∃ d : Bool, ∃ rv : Value, ((i = i0 → K = k ∧ d = false) ∧ (i < i0 → K ≠ k)) ∧ W1.cell? ⟨b, off + i * 7, none⟩ = some (.int .u32 K.ip) ∧ W1.cell? ⟨b, off + i * 7 + 1, none⟩ = some (.int .i64 K.port) ∧ W1.cell? ⟨b, off + i * 7 + 2, none⟩ = some (.int .u32 K.xid) ∧ W1.cell? ⟨b, off + i * 7 + 3, none⟩ = some (.int .u32 K.proc) ∧ W1.cell? ⟨b, off + i * 7 + 4, none⟩ = some (.int .u32 K.sum) ∧ W1.cell? ⟨b, off + i * 7 + 5, none⟩ = some (.bool d) ∧ W1.cell? ⟨b, off + i * 7 + 6, none⟩ = some rv ∧ ∀ j, W1.frozen? ⟨b, j, none⟩ = false) := hid (fun i hi => by
    have hiE : i < E.length := by omega
    obtain ⟨b, off, cap', ev, hcap, hcl, hfz⟩ := h.cells hm (by omega)
    simp only [Value.slice.injEq, true_and] at ev
    obtain ⟨rfl, rfl⟩ := ev
    have g (j : Nat) (u : Value) (hu : (dC E[i])[j]? = some u) : W1.cell? ⟨b, off + i * 7 + j, none⟩ = some u := cell_later b1 (hcl i hi j u hu)
    obtain ⟨cur, hkd⟩ := h.row.kind (b := b) rfl
    refine ⟨b, off, rfl, hcap, E[i].1, E[i].2.1.isSome, E[i].2.2, ?_, g 0 _ rfl, g 1 _ rfl, g 2 _ rfl, g 3 _ rfl, g 4 _ rfl, g 5 _ rfl, g 6 _ rfl, fun j => froz_of ((b1.block b (Array.getElem?_eq_some_iff.1 hkd).1).trans hkd) j⟩
    refine ⟨fun e => ?_, fun e => ?_⟩
    · subst e
      exact ⟨hk0, by rw [ho0]; rfl⟩
    · have := hfst i e
      rw [toT_at hiE] at this
      exact this)
  have HB1 := hid b1
  have HH := hid h
  have HM := hid hm
  have hm1 : m ≤ 1000 := by omega
  have HW := hW1.symm
  have HEC := hid (show enC (toT E) k = 0 by unfold enC; rw [if_pos hf])
  have HEL := hid (show enL (toT E) k r = doneT (toT E) k r by unfold enL; rw [if_pos hf])
  have hi0m : i0 < m := by omega
  have HK0 := hid hk0
  have HRN := hid hrn
  have HR := hid hr
  have HRT := hid hrT
  clear hW1 b1 hg1 h hf hE hm hfst ho0 hk0 hrn hr hi0' hrT
  go_enter Try.func12, Try.ntmps12
  go_wp2
  go_loopw [7] (fun iv wr => ∃ i : Nat, ∃ nq, i ≤ i0 ∧ iv = .int .i64 i ∧ wr = W1.drewN nq) (fun iv _ => i0 - (intOfD iv).toNat)
  case atStart => exact ⟨0, 0, Nat.zero_le _, rfl, rfl⟩
  case round =>
    obtain ⟨i, nq0, hi, rfl, rfl⟩ := hrel
    have hlz : (i : Int) < (m : Int) := by omega
    have him : i < m := by omega
    obtain ⟨b, off, rfl, hcap, K, d, rv, hA, e0, e1, e2, e3, e4, e5, e6, hfz⟩ := HC.out i him
    have hq : ∀ W, (binOp .eql 40 (.agg #[.int .u32 K.ip, .int .i64 K.port, .int .u32 K.xid, .int .u32 K.proc, .int .u32 K.sum]) (.agg #[.int .u32 k.ip, .int .i64 k.port, .int .u32 k.xid, .int .u32 k.proc, .int .u32 k.sum])).run Try.prog W = .ok (.bool (decide (K = k))) W := fun W => eqlD K k W
    by_cases hii : i = i0
    · obtain ⟨hKk, hd⟩ := hA.1 hii
      subst hii
      subst hd
      have hdk : decide (K = k) = true := by simpa using hKk
      rw [hdk] at hq
      subst hKk
      clear hA hdk HC
      go_wp2_with fail
      go_quiet (fail)
      have eX : (W1.drewN nq0).drewN nq = W1.drewN (nq0 + nq) := by simp
      rw [eX]
      obtain ⟨X, hX⟩ : ∃ X, X = W1.drewN (nq0 + nq) := ⟨_, rfl⟩
      rw [← hX]
      have HBX : Hid (Below w.heap.size w X) := hid (by rw [hX]; exact below_drewN HB1.out _)
      have bX : Below W1.heap.size W1 X := by rw [hX]; exact below_drewN (Below.refl _ _) _
      have x11 := cell_later bX c1
      have x5 := cell_later bX e5
      have x6 := cell_later bX e6
      have xf : ∀ j, X.frozen? ⟨b, j, none⟩ = false := fun j => by rw [hX]; exact hfz j
      clear c1 k0 k1 k2 k3 k4 e0 e1 e2 e3 e4 e5 e6 hq hfz hX eX bX
      have hDX := HH.out.later HBX.out
      obtain ⟨cur, hcur⟩ := hDX.row.kind (b := b) rfl
      have xf5 := xf (off + i * 7 + 5)
      obtain ⟨Y, hY⟩ : ∃ Y, Y = X.setCell ⟨b, off + i * 7 + 5, none⟩ (.bool true) := ⟨_, rfl⟩
      have hYs : Y.heap.size = X.heap.size := by rw [hY]; simp [World.setCell]
      have hYb : Y.heap[b]? = some (.cells (cur.setIfInBounds (off + i * 7 + 5) (.bool true)) 50 (0, 0)) := by rw [hY]; exact setc hcur _ _
      have mY : Mods (fun x => x = b) X Y := by rw [hY]; exact (Mods.refl _ X).setCell b _ _ rfl
      have hqb : q ≠ b := fun e => hDX.noq (b := b) rfl e.symm
      have y11 : Y.cell? ⟨q, 1, none⟩ = some (.slice (some ⟨b, off, none⟩) m cap) := mY.cell x11 hqb
      have y6 : Y.cell? ⟨b, off + i * 7 + 6, none⟩ = some rv := by
        have e := x6
        simp only [World.cell?, hcur] at e
        refine cell_of hYb ?_
        rw [Array.getElem?_setIfInBounds, if_neg (by omega)]
        exact e
      have hYw : ∀ x, x < w.heap.size → x ≠ b → Y.heap[x]? = w.heap[x]? := fun x hx hn => (mY.block x (Nat.lt_of_lt_of_le hx HBX.out.size) hn).trans (HBX.out.block x hx)
      have hbyY : Bytes Y a r := fun j hj => by
        obtain ⟨b2, o2, e, hc, hb⟩ := HR.out j hj
        refine ⟨b2, o2, e, mY.cell (cell_later HBX.out hc) (fun e2 => ?_), hb⟩
        subst e2
        exact HRT.out b2 o2 (by have := HRN.out; omega) e (HH.out.so b2 rfl)
      obtain ⟨a2, c2, w5, hap, hy5, hc5, hb5⟩ := twinY Y.drew a rn rc r HRN.out hrl hbyY 34
      have hap2 : (Builtin.append_ #[34, 34] 34 #[.slice (some ⟨Y.heap.size, 0, none⟩) 0 0, .slice a rn rc]).run Try.prog (Y.alloc (.cells #[] 5)).drew = .ok (.slice a2 rn c2) w5 := hap
      have hbY5 := below_undrew hb5
      have bA : Below Y.heap.size Y (Y.alloc (.cells #[] 5)) := below_alloc (Below.refl _ _) (Nat.le_refl _) _
      have z11 := cell_later bA y11
      have h5b := (hbY5.block b (Array.getElem?_eq_some_iff.1 hYb).1).trans hYb
      have d5 := froz_of h5b (off + i * 7 + 6)
      have e5 := cell_later hbY5 y6
      have z5 := cell_later hbY5 y11
      obtain ⟨hT1, hT2, hT3⟩ := hDX.told HM.out him HK0.out HRN.out (a2 := a2) (c2 := c2) (by rw [← hY, ← hYs]; exact hbY5) (hy5.weak (fun x hx _ => by unfold New at hx ⊢; rw [← hYs]; exact hx))
      obtain ⟨W9, hW9⟩ : ∃ W, W = w5.setCell ⟨b, off + i * 7 + 6, none⟩ (.slice a2 rn c2) := ⟨_, rfl⟩
      rw [← hW9] at hT1 hT3
      have HT1 := hid hT1
      have HT2 := hid hT2
      have HT3 := hid hT3
      clear hcur hYb mY hYs hqb hYw hbyY hap hy5 hc5 hb5 hbY5 bA h5b hT1 hT2 hT3 hDX xf y6
      go_upto_region 6 with fail
      rw [← hY]
      clear hY x5 x6 x11 xf5
      go_region_law (refine step_append_runQ rfl _ _ 34 rfl rfl rfl hap2 ?_)
      all_goals
        rw [← hW9]
        clear hW9
        go_wp2
        go_ret
        refine ⟨_, by rw [HEC.out]; rfl, ?_, (Kp.below HBX.out).trans HT3.out⟩
        rw [HEL.out, ← HT2.out]
        exact ⟨_, _, rfl, HT1.out⟩
    · have hKk : K ≠ k := hA.2 (by omega)
      have hdk : decide (K = k) = false := by simpa using hKk
      rw [hdk] at hq
      clear hA hdk
      go_wp2_with fail
      go_quiet (fail)
      go_wp2
      go_roundw
      case rel => exact ⟨i + 1, _, by omega, by go_num, rfl⟩
      case measure => simp [intOfD]; omega
/-- The document's End, in both cases. -/
theorem dEnd_any (w : World) (q : Nat) (T : Nat → Prop) (n : Nat) (L : Tl) (h : DbAt w q T n L) (k : Ky) (hL : L.length ≤ 1000) (a : Option Addr) (rn rc : Nat) (r : List Int) (hrn : r.length = rn) (hrl : rn ≤ 900000) (hr : Bytes w a r) (hrT : ∀ x o, 0 < rn → a = some ⟨x, o, none⟩ → ¬ T x) :
    Calls Try.prog 12 #[.pointer (some ⟨q, 0, none⟩), kV k, .slice a rn rc] w (dEndPost w q T n L k r) := by
  obtain ⟨E, v, rfl, h⟩ := h
  rw [toT_len] at hL
  by_cases hf : fndT (toT E) k = some none
  · exact dEnd_yes w q T n E v h k hf hL a rn rc r hrn hrl hr hrT
  · exact dEnd_no w q T n E v h k hf hL a rn rc r
end Go.Proofs.Ythgmghfegaemkaa
