/- The document's New; Begin, of one that is known. -/
import Derived.Test.YthgmghfegaemkaaQeA
import Derived.BigQuiet
namespace Go.Proofs.Ythgmghfegaemkaa
open Go.RowKit Go.Maps
set_option linter.unusedVariables false

set_option maxRecDepth 100000 in
set_option maxHeartbeats 1000000 in
theorem tNew_no (w : World) (n : Int) (hn : n < 1 ∨ 256 < n) : Calls Try.prog 7 #[.int .i64 n] w fun e w' => e = .returned (.tuple #[.pointer none, .int .i64 1]) ∧ w' = w := by
  by_cases h : n < 1
  · go_enter Try.func7, Try.ntmps7
    go_wp2
    go_ret2
    exact ⟨rfl, rfl⟩
  · have h2 : 256 < n := by omega
    go_enter Try.func7, Try.ntmps7
    go_wp2
    go_ret2
    exact ⟨rfl, rfl⟩
set_option maxRecDepth 100000 in
set_option maxHeartbeats 1000000 in
theorem tNew_yes (w : World) (n : Nat) (h1 : 1 ≤ n) (h2 : n ≤ 256) : Calls Try.prog 7 #[.int .i64 n] w fun e w' => ∃ q T, e = .returned (.tuple #[.pointer (some ⟨q, 0, none⟩), .int .i64 0]) ∧ DbAt w' q T n [] ∧ Below w.heap.size w w' ∧ ∀ b, T b → w.heap.size ≤ b := by
  obtain ⟨q, hq⟩ : ∃ g, w.heap.size = g := ⟨_, rfl⟩
  obtain ⟨W3, hW3⟩ : ∃ W, W = w.alloc (.cells #[.int .i64 n, .slice none 0 0] 48) := ⟨_, rfl⟩
  have b3 : Below w.heap.size w W3 := by rw [hW3]; exact below_alloc (Below.refl _ _) (Nat.le_refl _) _
  have h3 : W3.heap[q]? = some (.cells #[.int .i64 n, .slice none 0 0] 48 (0, 0)) := by rw [hW3, ← hq]; exact alloc_new w _
  have HB3 := hid b3
  have HPE : Hid (DbAt W3 q (fun b => b = q) n []) := hid ⟨[], .slice none 0 0, rfl, h3, RW.nil _ _ _, fun e he => by simp at he, by simp [toT], rfl, fun b hb => by simp [blkV] at hb, fun b hb => by rw [hb]; exact (Array.getElem?_eq_some_iff.1 h3).1⟩
  have HSS : Hid (∀ b, b = q → w.heap.size ≤ b) := hid (fun b hb => by rw [hb, hq]; exact Nat.le_refl _)
  have HV := hW3.symm
  clear hW3 b3 h3
  go_enter Try.func7, Try.ntmps7
  go_wp2
  go_ret2
  exact ⟨q, _, rfl, HPE.out, HB3.out, HSS.out⟩
def dBeginPost (w : World) (q : Nat) (T : Nat → Prop) (n : Nat) (L : Tl) (k : Ky) (e : Ending) (w' : World) : Prop :=
  ∃ a cc T', e = .returned (.tuple #[.int .i64 (beC n L k), .slice a (beR L k).length cc]) ∧ Bytes w' a (beR L k) ∧ DbAt w' q T' n (beL n L k) ∧ Kp T w T' w'
/-- Where a key that is known stands. -/
theorem fndT_ix {L : Tl} {k : Ky} {o : Option (List Int)} (h : fndT L k = some o) : ∃ i, ∃ hi : i < L.length, L[i].1 = k ∧ L[i].2 = o ∧ ∀ j (hj : j < i), L[j].1 ≠ k := by
  induction L with
  | nil => simp [fndT] at h
  | cons e r ih =>
    rw [fndT_cons] at h
    by_cases he : e.1 = k
    · rw [if_pos he] at h
      simp at h
      exact ⟨0, by simp, he, h, fun j hj => by omega⟩
    · rw [if_neg he] at h
      obtain ⟨i, hi, h1, h2, h3⟩ := ih h
      refine ⟨i + 1, by simp; omega, by simpa using h1, by simpa using h2, fun j hj => ?_⟩
      cases j with
      | zero => simpa using he
      | succ j => simpa using h3 j (by omega)
set_option maxRecDepth 100000 in
set_option maxHeartbeats 8000000 in
theorem dBegin_known (w : World) (q : Nat) (T : Nat → Prop) (n : Nat) (E : List De) (v : Value) (h : DbX w q T n E v) (k : Ky) (o : Option (List Int)) (hf : fndT (toT E) k = some o) (hbig : ∀ l, o = some l → l.length ≤ 900000) (hE : E.length ≤ 1000) :
    Calls Try.prog 9 #[.pointer (some ⟨q, 0, none⟩), kV k] w (dBeginPost w q T n (toT E) k) := by
  obtain ⟨m, hm⟩ : ∃ m, E.length = m := ⟨_, rfl⟩
  obtain ⟨i0, hi0', hk0, ho0, hfst⟩ := fndT_ix hf
  have hi0 : i0 < E.length := by rw [toT_len] at hi0'; exact hi0'
  rw [toT_at hi0] at hk0 ho0
  simp only at hk0 ho0
  obtain ⟨b, off, cap, rfl, hcap, hcl, hfz⟩ := h.cells hm (by omega)
  obtain ⟨g3, hg3⟩ : ∃ g, w.heap.size = g := ⟨_, rfl⟩
  obtain ⟨W1, hW1⟩ : ∃ W, W = w.alloc (.cells (kL k).toArray 40) := ⟨_, rfl⟩
  have b1 : Below w.heap.size w W1 := by rw [hW1]; exact below_alloc (Below.refl _ _) (Nat.le_refl _) _
  have hg1 : W1.heap[g3]? = some (.cells (kL k).toArray 40 (0, 0)) := by rw [hW1, ← hg3]; exact alloc_new w _
  have c1 : W1.cell? ⟨q, 1, none⟩ = some (.slice (some ⟨b, off, none⟩) m cap) := cell_later b1 (cell_of h.box rfl)
  have k0 : W1.cell? ⟨g3, 0, none⟩ = some (.int .u32 k.ip) := cell_of hg1 rfl
  have k1 : W1.cell? ⟨g3, 1, none⟩ = some (.int .i64 k.port) := cell_of hg1 rfl
  have k2 : W1.cell? ⟨g3, 2, none⟩ = some (.int .u32 k.xid) := cell_of hg1 rfl
  have k3 : W1.cell? ⟨g3, 3, none⟩ = some (.int .u32 k.proc) := cell_of hg1 rfl
  have k4 : W1.cell? ⟨g3, 4, none⟩ = some (.int .u32 k.sum) := cell_of hg1 rfl
  have HC : Hid (∀ i, i < m → ∃ K : Ky, ∃ d : Bool, ∃ rv : Value, (i = i0 → K = k ∧ d = o.isSome ∧ RepV W1 T o rv) ∧ (i < i0 → K ≠ k) ∧ W1.cell? ⟨b, off + i * 7, none⟩ = some (.int .u32 K.ip) ∧ W1.cell? ⟨b, off + i * 7 + 1, none⟩ = some (.int .i64 K.port) ∧ W1.cell? ⟨b, off + i * 7 + 2, none⟩ = some (.int .u32 K.xid) ∧ W1.cell? ⟨b, off + i * 7 + 3, none⟩ = some (.int .u32 K.proc) ∧ W1.cell? ⟨b, off + i * 7 + 4, none⟩ = some (.int .u32 K.sum) ∧ W1.cell? ⟨b, off + i * 7 + 5, none⟩ = some (.bool d) ∧ W1.cell? ⟨b, off + i * 7 + 6, none⟩ = some rv) := hid (fun i hi => by
    have hiE : i < E.length := by omega
    have g (j : Nat) (u : Value) (hu : (dC E[i])[j]? = some u) : W1.cell? ⟨b, off + i * 7 + j, none⟩ = some u := cell_later b1 (hcl i hi j u hu)
    refine ⟨E[i].1, E[i].2.1.isSome, E[i].2.2, fun e => ?_, fun e => ?_, g 0 _ rfl, g 1 _ rfl, g 2 _ rfl, g 3 _ rfl, g 4 _ rfl, g 5 _ rfl, g 6 _ rfl⟩
    · subst e
      refine ⟨hk0, by rw [ho0], ?_⟩
      have := h.rep _ (List.getElem_mem hi0)
      rw [ho0] at this
      exact this.keep (fun x _ hl => b1.block x hl) (fun _ h => h)
    · have := hfst i e
      rw [toT_at hiE] at this
      exact this)
  obtain ⟨eC, eR, eL⟩ := beC_known (n := n) hf
  have HEC := hid eC
  have HER := hid eR
  have HEL := hid eL
  have HB1 := hid b1
  have HH := hid h
  have hi0m : i0 < m := by omega
  have hm1 : m ≤ 1000 := by omega
  have HBG := hid hbig
  have HW := hW1.symm
  clear hW1 b1 hg1 h hf hk0 ho0 hfst hcl hfz eC eR eL hE hi0 hi0' hbig
  go_enter Try.func9, Try.ntmps9
  go_wp2
  go_loopw [6] (fun iv wr => ∃ i : Nat, ∃ nq, i ≤ i0 ∧ iv = .int .i64 i ∧ wr = W1.drewN nq) (fun iv _ => i0 - (intOfD iv).toNat)
  case atStart => exact ⟨0, 0, Nat.zero_le _, rfl, rfl⟩
  case round =>
    obtain ⟨i, nq0, hi, rfl, rfl⟩ := hrel
    have hlz : (i : Int) < (m : Int) := by omega
    have him : i < m := by omega
    obtain ⟨K, d, rv, hA, hB, e0, e1, e2, e3, e4, e5, e6⟩ := HC.out i him
    have hq : ∀ W, (binOp .eql 40 (.agg #[.int .u32 K.ip, .int .i64 K.port, .int .u32 K.xid, .int .u32 K.proc, .int .u32 K.sum]) (.agg #[.int .u32 k.ip, .int .i64 k.port, .int .u32 k.xid, .int .u32 k.proc, .int .u32 k.sum])).run Try.prog W = .ok (.bool (decide (K = k))) W := fun W => eqlD K k W
    by_cases hii : i = i0
    · obtain ⟨hKk, hd, hrv⟩ := hA hii
      subst hii
      have hdk : decide (K = k) = true := by rw [hKk]; simp
      rw [hdk] at hq
      have HRV := hid hrv
      cases o with
      | none =>
        have hd0 : d = false := hd
        subst hd0
        clear hA hB hdk hrv hd
        go_wp2_with fail
        go_quiet (fail)
        go_wp2
        go_ret2
        refine ⟨none, 0, T, by rw [HEC.out, HER.out]; rfl, by rw [HER.out]; exact Bytes.nil_ _ _, ?_, Kp.below ?_⟩
        · rw [HEL.out]; exact ⟨E, _, rfl, HH.out.later (below_drewN HB1.out _)⟩
        · exact below_drewN HB1.out _
      | some l =>
        have hd0 : d = true := hd
        subst hd0
        obtain ⟨ra, rc, hrv2, hy⟩ := hrv
        subst hrv2
        obtain ⟨rn, hrn⟩ : ∃ r, l.length = r := ⟨_, rfl⟩
        rw [hrn] at e6
        have HTW : Hid (∀ x, ∃ a2 c2 w2, (Builtin.append_ #[34, 34] 34 #[.slice (some ⟨W1.heap.size, 0, none⟩) 0 0, .slice ra rn rc]).run Try.prog ((W1.drewN x).alloc (.cells #[] 5)) = .ok (.slice a2 rn c2) w2 ∧ By w2 (New (W1.drewN x)) a2 l ∧ rn ≤ c2 ∧ Below W1.heap.size (W1.drewN x) w2) := hid (fun x => twinY (W1.drewN x) ra rn rc l hrn (by have := HBG.out l rfl; omega) (Bytes.later hy.bytes (below_drewN (Below.refl _ _) x)) 34)
        have HRN := hid hrn
        clear hA hB hdk hy HRV hrn hd
        go_wp2_with fail
        go_quiet (fail)
        obtain ⟨a2, c2, w2, hap, hy2, hc2, hb2⟩ := HTW.out (nq0 + nq)
        have bal : Below W1.heap.size W1 ((W1.drewN (nq0 + nq)).alloc (.cells #[] 5)) := below_alloc (below_drewN (Below.refl _ _) _) (Nat.le_refl _) _
        have f1 := cell_later bal c1
        have f6 := cell_later bal e6
        clear bal
        have HY2 := hid hy2
        have HB2 := hid hb2
        clear hy2 hb2 HTW
        go_wp2_with (at_builtin; refine wpList_append_run rfl _ _ 34 rfl rfl rfl hap ?_)
        go_ret2
        have hB := (below_drewN HB1.out (nq0 + nq)).trans (HB2.out.mono HB1.out.size)
        refine ⟨a2, c2, T, by rw [HEC.out, HER.out, show ((some l).getD [] : List Int) = l from rfl, HRN.out]; rfl, by rw [HER.out]; exact HY2.out.bytes, ?_, Kp.below hB⟩
        rw [HEL.out]; exact ⟨E, _, rfl, HH.out.later hB⟩
    · have hKk : K ≠ k := hB (by omega)
      have hdk : decide (K = k) = false := by simpa using hKk
      rw [hdk] at hq
      clear hA hB hdk
      go_wp2_with fail
      go_quiet (fail)
      go_wp2
      go_roundw
      case rel => exact ⟨i + 1, _, by omega, by go_num, rfl⟩
      case measure => simp [intOfD]; omega
end Go.Proofs.Ythgmghfegaemkaa
