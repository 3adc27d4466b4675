/- The document's Begin, where there is no room: the walks. -/
import Derived.Test.YthgmghfegaemkaaQeD
import Derived.Test.YthgmghfegaemkaaQeE
namespace Go.Proofs.Ythgmghfegaemkaa
open Go.RowKit Go.Maps
set_option linter.unusedVariables false

set_option maxRecDepth 100000 in
set_option maxHeartbeats 8000000 in
theorem dBegin_full (w : World) (q : Nat) (T : Nat → Prop) (n : Nat) (E : List De) (v : Value) (h : DbX w q T n E v) (k : Ky) (hf : fndT (toT E) k = none) (hE : E.length ≤ 1000) (hge : n ≤ E.length) (hr : rmT n (toT E) = none) :
    Calls Try.prog 9 #[.pointer (some ⟨q, 0, none⟩), kV k] w (dBeginPost w q T n (toT E) k) := by
  obtain ⟨m, hm⟩ : ∃ m, E.length = m := ⟨_, rfl⟩
  obtain ⟨ra, cap, rfl⟩ := h.row.shape
  rw [hm] at h
  obtain ⟨g3, hg3⟩ : ∃ g, w.heap.size = g := ⟨_, rfl⟩
  obtain ⟨W1, hW1⟩ : ∃ W, W = w.alloc (.cells (kL k).toArray 40) := ⟨_, rfl⟩
  have b1 : Below w.heap.size w W1 := by rw [hW1]; exact below_alloc (Below.refl _ _) (Nat.le_refl _) _
  have hg1 : W1.heap[g3]? = some (.cells (kL k).toArray 40 (0, 0)) := by rw [hW1, ← hg3]; exact alloc_new w _
  have c0 : W1.cell? ⟨q, 0, none⟩ = some (.int .i64 n) := cell_later b1 (cell_of h.box rfl)
  have c1 : W1.cell? ⟨q, 1, none⟩ = some (.slice ra m cap) := cell_later b1 (cell_of h.box rfl)
  have k0 : W1.cell? ⟨g3, 0, none⟩ = some (.int .u32 k.ip) := cell_of hg1 rfl
  have k1 : W1.cell? ⟨g3, 1, none⟩ = some (.int .i64 k.port) := cell_of hg1 rfl
  have k2 : W1.cell? ⟨g3, 2, none⟩ = some (.int .u32 k.xid) := cell_of hg1 rfl
  have k3 : W1.cell? ⟨g3, 3, none⟩ = some (.int .u32 k.proc) := cell_of hg1 rfl
  have k4 : W1.cell? ⟨g3, 4, none⟩ = some (.int .u32 k.sum) := cell_of hg1 rfl
  have HC : Hid (∀ i, i < m → ∃ b off, ra = some ⟨b, off, none⟩ ∧ m ≤ cap ∧ ∃ K : Ky, ∃ d : Bool, d = dnT (toT E) i ∧ K ≠ k ∧ W1.cell? ⟨b, off + i * 7, none⟩ = some (.int .u32 K.ip) ∧ W1.cell? ⟨b, off + i * 7 + 1, none⟩ = some (.int .i64 K.port) ∧ W1.cell? ⟨b, off + i * 7 + 2, none⟩ = some (.int .u32 K.xid) ∧ W1.cell? ⟨b, off + i * 7 + 3, none⟩ = some (.int .u32 K.proc) ∧ W1.cell? ⟨b, off + i * 7 + 4, none⟩ = some (.int .u32 K.sum) ∧ W1.cell? ⟨b, off + i * 7 + 5, none⟩ = some (.bool d)) := hid (fun i hi => by
    have hiE : i < E.length := by omega
    obtain ⟨b, off, cap', ev, hcap, hcl, hfz⟩ := h.cells hm (by omega)
    simp only [Value.slice.injEq, true_and] at ev
    obtain ⟨rfl, rfl⟩ := ev
    have g (j : Nat) (u : Value) (hu : (dC E[i])[j]? = some u) : W1.cell? ⟨b, off + i * 7 + j, none⟩ = some u := cell_later b1 (hcl i hi j u hu)
    refine ⟨b, off, rfl, hcap, E[i].1, E[i].2.1.isSome, ?_, ?_, g 0 _ rfl, g 1 _ rfl, g 2 _ rfl, g 3 _ rfl, g 4 _ rfl, g 5 _ rfl⟩
    · rw [dnT_at (by rw [toT_len]; exact hiE), toT_at hiE]
    · have := fndT_none.1 hf _ (List.getElem_mem (l := toT E) (by rw [toT_len]; exact hiE))
      rw [toT_at hiE] at this
      exact this)
  obtain ⟨eC, eR, eL⟩ := beC_new (n := n) hf
  have HEC := hid eC
  have HER := hid eR
  have HEL := hid eL
  have HB1 := hid b1
  have HH := hid h
  have HF := hid hf
  have HM := hid hm
  have hm1 : m ≤ 1000 := by omega
  have HW := hW1.symm
  have hlz8 : (n : Int) ≤ (m : Int) := by omega
  have HRM := hid hr
  have HDN : Hid (∀ j, j < m → dnT (toT E) j = false) := hid (fun j hj => by
    have hjL : j < (toT E).length := by rw [toT_len]; omega
    have hdn : dIx (toT E) = none := by
      rw [rmT_full (by rw [toT_len]; omega)] at hr
      cases hd : dIx (toT E) with
      | none => rfl
      | some i => rw [hd] at hr; simp at hr
    rw [dnT_at hjL]
    exact dIx_none.1 hdn _ (List.getElem_mem hjL))
  clear hr hge
  clear hW1 b1 hg1 h hf eC eR eL hE hm
  go_enter Try.func9, Try.ntmps9
  go_wp2
  go_loopw [6] (fun iv wr => ∃ i : Nat, ∃ nq, i ≤ m ∧ iv = .int .i64 i ∧ wr = W1.drewN nq) (fun iv _ => m - (intOfD iv).toNat)
  case atStart => exact ⟨0, 0, Nat.zero_le _, rfl, rfl⟩
  case round =>
    obtain ⟨i, nq0, hi, rfl, rfl⟩ := hrel
    by_cases him : i < m
    · have hlz : (i : Int) < (m : Int) := by omega
      obtain ⟨b, off, rfl, hcap, K, d, hA, hB, e0, e1, e2, e3, e4, e5⟩ := HC.out i him
      have hq : ∀ W, (binOp .eql 40 (.agg #[.int .u32 K.ip, .int .i64 K.port, .int .u32 K.xid, .int .u32 K.proc, .int .u32 K.sum]) (.agg #[.int .u32 k.ip, .int .i64 k.port, .int .u32 k.xid, .int .u32 k.proc, .int .u32 k.sum])).run Try.prog W = .ok (.bool (decide (K = k))) W := fun W => eqlD K k W
      have hdk : decide (K = k) = false := by simpa using hB
      rw [hdk] at hq
      clear hA hB hdk
      go_wp2_with fail
      go_quiet (fail)
      go_wp2
      go_roundw
      case rel => exact ⟨i + 1, _, by omega, by go_num, rfl⟩
      case measure => simp [intOfD]; omega
    · have hlz : ¬ (i : Int) < (m : Int) := by omega
      have him2 : i = m := by omega
      subst him2
      go_wp2_with fail
      go_quiet (fail)
      go_wp2_with fail
      have eX : (W1.drewN nq0).drewN nq = W1.drewN (nq0 + nq) := by simp
      rw [eX]
      obtain ⟨X, hX⟩ : ∃ X, X = W1.drewN (nq0 + nq) := ⟨_, rfl⟩
      rw [← hX]
      have HBX : Hid (Below w.heap.size w X) := hid (by rw [hX]; exact below_drewN HB1.out _)
      have bX : Below W1.heap.size W1 X := by rw [hX]; exact below_drewN (Below.refl _ _) _
      have x0 := cell_later bX k0
      have x1 := cell_later bX k1
      have x2 := cell_later bX k2
      have x3 := cell_later bX k3
      have x4 := cell_later bX k4
      have x10 := cell_later bX c0
      have x11 := cell_later bX c1
      have HCX : Hid (∀ j, j < i → ∃ b off, ra = some ⟨b, off, none⟩ ∧ i ≤ cap ∧ ∃ d : Bool, d = dnT (toT E) j ∧ X.cell? ⟨b, off + j * 7 + 5, none⟩ = some (.bool d)) := hid (fun j hj => by
        obtain ⟨b, off, e, hcap, K, d, hA, hB, _, _, _, _, _, e5⟩ := HC.out j hj
        exact ⟨b, off, e, hcap, d, hA, cell_later bX e5⟩)
      have HBX1 := hid bX
      clear hX eX c0 c1 k0 k1 k2 k3 k4 HC HB1 bX
      go_loopw [7] (fun jv wr => ∃ j : Nat, j ≤ i ∧ jv = .int .i64 j ∧ wr = X) (fun jv _ => i - (intOfD jv).toNat)
      case atStart => exact ⟨0, Nat.zero_le _, rfl, rfl⟩
      case round =>
        obtain ⟨j, hj, rfl, hwr⟩ := hrel
        have hwr2 := hwr.symm
        clear hwr
        subst hwr2
        by_cases hji : j < i
        · have hjz : (j : Int) < (i : Int) := by omega
          obtain ⟨b, off, rfl, hcap, d, hd, e5⟩ := HCX.out j hji
          have hd0 : d = false := by rw [hd]; exact HDN.out j hji
          subst hd0
          clear hd
          go_wp2
          go_roundw
          case rel => exact ⟨j + 1, by omega, by go_num, trivial⟩
          case measure => simp [intOfD]; omega
        · have hjz : ¬ (j : Int) < (i : Int) := by omega
          have hji2 : j = i := by omega
          subst hji2
          go_wp2
          go_ret2
          refine ⟨none, 0, T, by rw [HEC.out, HER.out, HRM.out]; rfl, by rw [HER.out]; exact Bytes.nil_ _ _, ?_, Kp.below HBX.out⟩
          rw [HEL.out, HRM.out]
          exact ⟨E, _, rfl, HH.out.later HBX.out⟩
set_option maxRecDepth 100000 in
set_option maxHeartbeats 8000000 in
theorem dBegin_cut (w : World) (q : Nat) (T : Nat → Prop) (n : Nat) (E : List De) (v : Value) (h : DbX w q T n E v) (k : Ky) (hf : fndT (toT E) k = none) (hE : E.length ≤ 1000) (hge : n ≤ E.length) (hr : (rmT n (toT E)).isSome = true) :
    Calls Try.prog 9 #[.pointer (some ⟨q, 0, none⟩), kV k] w (dBeginPost w q T n (toT E) k) := by
  obtain ⟨m, hm⟩ : ∃ m, E.length = m := ⟨_, rfl⟩
  obtain ⟨ra, cap, rfl⟩ := h.row.shape
  rw [hm] at h
  obtain ⟨g3, hg3⟩ : ∃ g, w.heap.size = g := ⟨_, rfl⟩
  obtain ⟨W1, hW1⟩ : ∃ W, W = w.alloc (.cells (kL k).toArray 40) := ⟨_, rfl⟩
  have b1 : Below w.heap.size w W1 := by rw [hW1]; exact below_alloc (Below.refl _ _) (Nat.le_refl _) _
  have hg1 : W1.heap[g3]? = some (.cells (kL k).toArray 40 (0, 0)) := by rw [hW1, ← hg3]; exact alloc_new w _
  have c0 : W1.cell? ⟨q, 0, none⟩ = some (.int .i64 n) := cell_later b1 (cell_of h.box rfl)
  have c1 : W1.cell? ⟨q, 1, none⟩ = some (.slice ra m cap) := cell_later b1 (cell_of h.box rfl)
  have k0 : W1.cell? ⟨g3, 0, none⟩ = some (.int .u32 k.ip) := cell_of hg1 rfl
  have k1 : W1.cell? ⟨g3, 1, none⟩ = some (.int .i64 k.port) := cell_of hg1 rfl
  have k2 : W1.cell? ⟨g3, 2, none⟩ = some (.int .u32 k.xid) := cell_of hg1 rfl
  have k3 : W1.cell? ⟨g3, 3, none⟩ = some (.int .u32 k.proc) := cell_of hg1 rfl
  have k4 : W1.cell? ⟨g3, 4, none⟩ = some (.int .u32 k.sum) := cell_of hg1 rfl
  have HC : Hid (∀ i, i < m → ∃ b off, ra = some ⟨b, off, none⟩ ∧ m ≤ cap ∧ ∃ K : Ky, ∃ d : Bool, d = dnT (toT E) i ∧ K ≠ k ∧ W1.cell? ⟨b, off + i * 7, none⟩ = some (.int .u32 K.ip) ∧ W1.cell? ⟨b, off + i * 7 + 1, none⟩ = some (.int .i64 K.port) ∧ W1.cell? ⟨b, off + i * 7 + 2, none⟩ = some (.int .u32 K.xid) ∧ W1.cell? ⟨b, off + i * 7 + 3, none⟩ = some (.int .u32 K.proc) ∧ W1.cell? ⟨b, off + i * 7 + 4, none⟩ = some (.int .u32 K.sum) ∧ W1.cell? ⟨b, off + i * 7 + 5, none⟩ = some (.bool d)) := hid (fun i hi => by
    have hiE : i < E.length := by omega
    obtain ⟨b, off, cap', ev, hcap, hcl, hfz⟩ := h.cells hm (by omega)
    simp only [Value.slice.injEq, true_and] at ev
    obtain ⟨rfl, rfl⟩ := ev
    have g (j : Nat) (u : Value) (hu : (dC E[i])[j]? = some u) : W1.cell? ⟨b, off + i * 7 + j, none⟩ = some u := cell_later b1 (hcl i hi j u hu)
    refine ⟨b, off, rfl, hcap, E[i].1, E[i].2.1.isSome, ?_, ?_, g 0 _ rfl, g 1 _ rfl, g 2 _ rfl, g 3 _ rfl, g 4 _ rfl, g 5 _ rfl⟩
    · rw [dnT_at (by rw [toT_len]; exact hiE), toT_at hiE]
    · have := fndT_none.1 hf _ (List.getElem_mem (l := toT E) (by rw [toT_len]; exact hiE))
      rw [toT_at hiE] at this
      exact this)
  obtain ⟨eC, eR, eL⟩ := beC_new (n := n) hf
  have HEC := hid eC
  have HER := hid eR
  have HEL := hid eL
  have HB1 := hid b1
  have HH := hid h
  have HF := hid hf
  have HM := hid hm
  have hm1 : m ≤ 1000 := by omega
  have HW := hW1.symm
  have hlz8 : (n : Int) ≤ (m : Int) := by omega
  obtain ⟨ix, hdx⟩ : ∃ ix, dIx (toT E) = some ix := by
    cases hd : dIx (toT E) with
    | none => rw [rmT_full (by rw [toT_len]; omega), hd] at hr; simp at hr
    | some i => exact ⟨i, rfl⟩
  obtain ⟨hixl, hixd, hixn⟩ := dIx_some hdx
  have hixm : ix < m := by rw [toT_len] at hixl; omega
  have HRM : Hid (rmT n (toT E) = some ((toT E).eraseIdx ix)) := hid (by rw [rmT_full (by rw [toT_len]; omega), hdx]; rfl)
  have HDX : Hid (dnT (toT E) ix = true) := hid (by rw [dnT_at hixl]; exact hixd)
  have HDN : Hid (∀ j, j < ix → dnT (toT E) j = false) := hid (fun j hj => by rw [dnT_at (by omega)]; exact hixn j hj)
  have HGX0 := hid hg1
  clear hr hge hdx hixl hixd hixn
  clear hW1 b1 hg1 h hf eC eR eL hE hm
  go_enter Try.func9, Try.ntmps9
  go_wp2
  go_loopw [6] (fun iv wr => ∃ i : Nat, ∃ nq, i ≤ m ∧ iv = .int .i64 i ∧ wr = W1.drewN nq) (fun iv _ => m - (intOfD iv).toNat)
  case atStart => exact ⟨0, 0, Nat.zero_le _, rfl, rfl⟩
  case round =>
    obtain ⟨i, nq0, hi, rfl, rfl⟩ := hrel
    by_cases him : i < m
    · have hlz : (i : Int) < (m : Int) := by omega
      obtain ⟨b, off, rfl, hcap, K, d, hA, hB, e0, e1, e2, e3, e4, e5⟩ := HC.out i him
      have hq : ∀ W, (binOp .eql 40 (.agg #[.int .u32 K.ip, .int .i64 K.port, .int .u32 K.xid, .int .u32 K.proc, .int .u32 K.sum]) (.agg #[.int .u32 k.ip, .int .i64 k.port, .int .u32 k.xid, .int .u32 k.proc, .int .u32 k.sum])).run Try.prog W = .ok (.bool (decide (K = k))) W := fun W => eqlD K k W
      have hdk : decide (K = k) = false := by simpa using hB
      rw [hdk] at hq
      clear hA hB hdk
      go_wp2_with fail
      go_quiet (fail)
      go_wp2
      go_roundw
      case rel => exact ⟨i + 1, _, by omega, by go_num, rfl⟩
      case measure => simp [intOfD]; omega
    · have hlz : ¬ (i : Int) < (m : Int) := by omega
      have him2 : i = m := by omega
      subst him2
      go_wp2_with fail
      go_quiet (fail)
      go_wp2_with fail
      have eX : (W1.drewN nq0).drewN nq = W1.drewN (nq0 + nq) := by simp
      rw [eX]
      obtain ⟨X, hX⟩ : ∃ X, X = W1.drewN (nq0 + nq) := ⟨_, rfl⟩
      rw [← hX]
      have HBX : Hid (Below w.heap.size w X) := hid (by rw [hX]; exact below_drewN HB1.out _)
      have bX : Below W1.heap.size W1 X := by rw [hX]; exact below_drewN (Below.refl _ _) _
      have x0 := cell_later bX k0
      have x1 := cell_later bX k1
      have x2 := cell_later bX k2
      have x3 := cell_later bX k3
      have x4 := cell_later bX k4
      have x10 := cell_later bX c0
      have x11 := cell_later bX c1
      have HCX : Hid (∀ j, j < i → ∃ b off, ra = some ⟨b, off, none⟩ ∧ i ≤ cap ∧ ∃ d : Bool, d = dnT (toT E) j ∧ X.cell? ⟨b, off + j * 7 + 5, none⟩ = some (.bool d)) := hid (fun j hj => by
        obtain ⟨b, off, e, hcap, K, d, hA, hB, _, _, _, _, _, e5⟩ := HC.out j hj
        exact ⟨b, off, e, hcap, d, hA, cell_later bX e5⟩)
      have HBX1 := hid bX
      clear hX eX c0 c1 k0 k1 k2 k3 k4 HC HB1 bX
      have HGX : Hid (X.heap[g3]? = some (.cells (kL k).toArray 40 (0, 0))) := hid ((HBX1.out.block g3 (Array.getElem?_eq_some_iff.1 HGX0.out).1).trans HGX0.out)
      go_loopw [7] (fun jv wr => ∃ j : Nat, j ≤ ix ∧ jv = .int .i64 j ∧ wr = X) (fun jv _ => ix - (intOfD jv).toNat)
      case atStart => exact ⟨0, Nat.zero_le _, rfl, rfl⟩
      case round =>
        obtain ⟨j, hj, rfl, hwr⟩ := hrel
        have hwr2 := hwr.symm
        clear hwr
        subst hwr2
        have hjz : (j : Int) < (i : Int) := by omega
        obtain ⟨b, off, rfl, hcap, d, hd, e5⟩ := HCX.out j (by omega)
        by_cases hji : j < ix
        · have hd0 : d = false := by rw [hd]; exact HDN.out j hji
          subst hd0
          clear hd
          go_wp2
          go_roundw
          case rel => exact ⟨j + 1, by omega, by go_num, trivial⟩
          case measure => simp [intOfD]; omega
        · have hjx : j = ix := by omega
          subst hjx
          have hd0 : d = true := by rw [hd]; exact HDX.out
          subst hd0
          clear hd
          have hji1 : j < i := by omega
          have hji2 : j ≤ i := by omega
          have hjc : j ≤ cap := by omega
          have hjc1 : j + 1 ≤ cap := by omega
          have hji3 : j + 1 ≤ i := by omega
          have hne : ¬ ((j : Int) = (i : Int)) := by omega
          obtain ⟨a1, c1, w1, hap1, hB1, A, hA, a2, c2, w2, hap2, hq2, T', hD2, hK2, hk2⟩ := (HH.out.later HBX.out).cut HM.out hm1 hji1
          have hg3x : ¬ T g3 := fun e => by have := HH.out.slt g3 e; omega
          have hgX : X.heap[g3]? = some (.cells (kL k).toArray 40 (0, 0)) := HGX.out
          have hgl := (Array.getElem?_eq_some_iff.1 hgX).1
          have hg2 := (hk2 g3 hgl hg3x).trans hgX
          have hnq : g3 ≠ q := fun e => hg3x (by rw [e]; exact HH.out.sq)
          obtain ⟨W14, hW14⟩ : ∃ W, W = w2.setCell ⟨q, 1, none⟩ (.slice a2 (i - 1) c2) := ⟨_, rfl⟩
          have hg14 : W14.heap[g3]? = some (.cells (kL k).toArray 40 (0, 0)) := by
            rw [hW14]; exact (((Mods.refl (fun b => b = q) w2).setCell q 1 (.slice a2 (i - 1) c2) rfl).block g3 (Array.getElem?_eq_some_iff.1 hg2).1 hnq).trans hg2
          rw [← hW14] at hD2 hK2
          have u1 := cell_later hB1 x11
          have d2 := froz_of hq2 1
          have e2 := cell_of hq2 (i := 1) (v := .slice (some ⟨b, off, none⟩) i cap) rfl
          have hHM : (E.eraseIdx j).length = i - 1 := by rw [List.length_eraseIdx_of_lt (by have := HM.out; omega)]; have := HM.out; omega
          have hFF : fndT (toT (E.eraseIdx j)) k = none := by
            rw [toT_erase]
            exact fndT_none.2 (fun e he => fndT_none.1 HF.out e (List.mem_of_mem_eraseIdx he))
          obtain ⟨W7, hW7, hq7, a8, c8, w8, hap, hq8, hD, hK⟩ := DbX.push (hD2.later ((Below.refl _ _).drew)) hFF hHM (by omega)
          have hap3 : (Builtin.append_ #[46, 46] 46 #[.slice a2 (i - 1) c2, .slice (some ⟨W14.heap.size, 0, none⟩) 1 1]).run Try.prog (W14.alloc (.cells #[.int .u32 k.ip, .int .i64 k.port, .int .u32 k.xid, .int .u32 k.proc, .int .u32 k.sum, .bool false, .slice none 0 0] 50)).drew = .ok (.slice a8 (i - 1 + 1) c8) w8 := by rw [hW7] at hap; exact hap
          have bA : Below W14.heap.size W14 (W14.alloc (.cells #[.int .u32 k.ip, .int .i64 k.port, .int .u32 k.xid, .int .u32 k.proc, .int .u32 k.sum, .bool false, .slice none 0 0] 50)) := below_alloc (Below.refl _ _) (Nat.le_refl _) _
          have z0 : W14.cell? ⟨g3, 0, none⟩ = some (.int .u32 k.ip) := cell_of hg14 rfl
          have z1 : W14.cell? ⟨g3, 1, none⟩ = some (.int .i64 k.port) := cell_of hg14 rfl
          have z2 : W14.cell? ⟨g3, 2, none⟩ = some (.int .u32 k.xid) := cell_of hg14 rfl
          have z3 : W14.cell? ⟨g3, 3, none⟩ = some (.int .u32 k.proc) := cell_of hg14 rfl
          have z4 : W14.cell? ⟨g3, 4, none⟩ = some (.int .u32 k.sum) := cell_of hg14 rfl
          have z11 : W14.cell? ⟨q, 1, none⟩ = some (.slice a2 (i - 1) c2) := cell_of hD2.box rfl
          have y0 := cell_later bA z0
          have y1 := cell_later bA z1
          have y2 := cell_later bA z2
          have y3 := cell_later bA z3
          have y4 := cell_later bA z4
          have y11 := cell_later bA z11
          have d8 := froz_of hq8 1
          have e8 := cell_of hq8 (i := 1) (v := .slice a2 (i - 1) c2) rfl
          obtain ⟨W9, hW9⟩ : ∃ W, W = w8.setCell ⟨q, 1, none⟩ (.slice a8 (i - 1 + 1) c8) := ⟨_, rfl⟩
          rw [← hW9] at hD hK
          rw [toT_erase] at hD
          have HD := hid hD
          have HK := hid ((hK2.trans (Kp.below ((Below.refl _ _).drew))).trans hK)
          clear hW7 hq7 hap hq8 hD hK bA hD2 hK2 hk2 hq2 hg14 hg2 hgX hgl hnq hg3x hHM hFF HCX HDN HDX hB1 HGX
          go_upto_region 17 with (at_builtin; first | (refine wpList_append_run rfl _ _ 46 rfl rfl rfl hap1 ?_) | (refine wpList_append_run rfl _ _ 46 rfl rfl rfl hap2 ?_))
          rw [← hW14]
          clear hW14 hap1 hap2 hA
          go_region_law (refine step_append_runQ rfl _ _ 46 rfl rfl rfl hap3 ?_)
          all_goals
            rw [← hW9]
            clear hW9
            go_wp2
            go_ret2
            refine ⟨none, 0, _, by rw [HEC.out, HER.out, HRM.out]; rfl, by rw [HER.out]; exact Bytes.nil_ _ _, ?_, (Kp.below HBX.out).trans HK.out⟩
            rw [HEL.out, HRM.out]
            exact HD.out
/-- The document's Begin, in all cases. -/
theorem dBegin_any (w : World) (q : Nat) (T : Nat → Prop) (n : Nat) (L : Tl) (h : DbAt w q T n L) (k : Ky) (hL : L.length ≤ 1000) (hbig : ∀ l, fndT L k = some (some l) → l.length ≤ 900000) :
    Calls Try.prog 9 #[.pointer (some ⟨q, 0, none⟩), kV k] w (dBeginPost w q T n L k) := by
  obtain ⟨E, v, rfl, h⟩ := h
  rw [toT_len] at hL
  cases hf : fndT (toT E) k with
  | some o => exact dBegin_known w q T n E v h k o hf (fun l e => hbig l (by rw [hf, e])) hL
  | none =>
    by_cases hlt : E.length < n
    · exact dBegin_room w q T n E v h k hf hL hlt
    · cases hr : rmT n (toT E) with
      | none => exact dBegin_full w q T n E v h k hf hL (by omega) hr
      | some M => exact dBegin_cut w q T n E v h k hf hL (by omega) (by rw [hr]; rfl)
end Go.Proofs.Ythgmghfegaemkaa
