/- Both caches side by side; the law's data. -/
import Derived.Test.YtdfnfcimajomeaaCyE
import Derived.Test.YtdfnfcimajomeaaCcFrame
import Derived.Deep.RegionHeld3
import Derived.Deep.CutBlock
import Derived.Deep.DeepCutAuto
namespace Go.Proofs.Ytdfnfcimajomeaa
open Go.RowKit Go.Maps

def nS (s : Int) : Nat := if s = 0 then 512 else (min (max s 0) 2000).toNat
def dB (b : Int) (i : Nat) : Int := (b + (i : Int)) % 256
def dl (b : Int) (n : Nat) : List Int := (List.range n).map (dB b)
theorem dl_len (b : Int) (n : Nat) : (dl b n).length = n := by simp [dl]
theorem nS_le (s : Int) : nS s ≤ 2000 := by unfold nS; split <;> omega
theorem arr_dl {b : Int} {n : Nat} {cur : Array Value} (h : cur.size = n) (hc : ∀ i, i < n → cur[i]? = some (.int .u8 (dB b i))) : cur = (u8s (dl b n)).toArray := by
  apply Array.ext_getElem?
  intro i
  have e : (u8s (dl b n)).toArray[i]? = (u8s (dl b n))[i]? := List.getElem?_toArray
  by_cases hi : i < n
  · rw [hc i hi, e]
    simp [dl, hi]
  · rw [Array.getElem?_eq_none (xs := cur) (by omega), e, List.getElem?_eq_none (by simp [dl]; omega)]
theorem run_min2 (ats : Array TypeId) (ty : TypeId) (a b : Int) (W : World) : (Builtin.min_ ats ty #[.int .i64 a, .int .i64 b]).run Try.prog W = .ok (.int .i64 (min a b)) W := by
  simp [Builtin.min_, Builtin.min2]
  split <;> omega
theorem run_max2 (ats : Array TypeId) (ty : TypeId) (a b : Int) (W : World) : (Builtin.max_ ats ty #[.int .i64 a, .int .i64 b]).run Try.prog W = .ok (.int .i64 (max a b)) W := by
  simp [Builtin.max_, Builtin.max2]
  split <;> omega
abbrev cA (k n s b : Int) : Array Value := #[.int .i64 k, .int .i64 n, .int .i64 s, .int .u8 b]
set_option maxRecDepth 100000 in
set_option maxHeartbeats 2000000 in
theorem data_any (w : World) (k n s b : Int) :
    Calls Try.prog 24 #[.agg (cA k n s b)] w fun e w' => e = .returned (.slice (some ⟨w.heap.size + 1, 0, none⟩) (nS s) (nS s)) ∧ w'.heap[w.heap.size + 1]? = some (.cells (u8s (dl b (nS s))).toArray 5 (0, 0)) ∧ Below w.heap.size w w' := by
  obtain ⟨W1, hW1⟩ : ∃ W1, W1 = w.alloc (.cells (cA k n s b) 33) := ⟨_, rfl⟩
  have hs1 : W1.heap.size = w.heap.size + 1 := by rw [hW1]; simp
  have hb1 : Below w.heap.size w W1 := by rw [hW1]; exact (Below.refl _ _).alloc (Nat.le_refl _) _
  have hbx : W1.heap[w.heap.size]? = some (.cells (cA k n s b) 33 (0, 0)) := by rw [hW1]; exact alloc_new w _
  obtain ⟨N, hN⟩ : ∃ N, N = nS s := ⟨_, rfl⟩
  have hN2 : N ≤ 2000 := by rw [hN]; exact nS_le s
  obtain ⟨W2, hW2⟩ : ∃ W2, W2 = W1.alloc (.cells (madeCells #[.int .u8 0] N) 5) := ⟨_, rfl⟩
  have hmk : (Instr.makeSlice 40 (.int .i64 (N : Int)) (.int .i64 (N : Int))).run Try.prog W1 = .ok (.slice (some ⟨w.heap.size + 1, 0, none⟩) N N) W2 := by
    have := run_make_row' (P := Try.prog) 40 5 (.int .u8 0) 1 Try.underlying40 info5 rfl .i64 .i64 N (by omega) (by omega) W1
    rw [hs1] at this
    rw [hW2]
    exact this
  have hb2 : Below w.heap.size w W2 := by rw [hW2]; exact hb1.alloc (by omega) _
  have hst : ∃ cur, W2.heap[w.heap.size + 1]? = some (.cells cur 5 (0, 0)) ∧ cur.size = N ∧ ∀ i, i < N → ∃ x, cur[i]? = some (.int .u8 x) := by
    refine ⟨_, by rw [hW2, ← hs1]; exact alloc_new W1 _, by rw [← Array.length_toList, toList_madeCells_one]; simp, fun i hi => ⟨0, ?_⟩⟩
    rw [← Array.getElem?_toList, toList_madeCells_one]
    simp [hi]
  have HST := hid hst
  have hbx2 : W2.heap[w.heap.size]? = some (.cells (cA k n s b) 33 (0, 0)) := by
    rw [hW2]
    exact (((Below.refl W1.heap.size W1).alloc (Nat.le_refl _) _).block _ (by omega)).trans hbx
  have HBX := hid hbx2
  have HB2 := hid hb2
  have HS2 : Hid (W2.heap.size = w.heap.size + 2) := hid (by rw [hW2]; simp [hs1])
  rw [← hN]
  have hc2 : W1.cell? ⟨w.heap.size, 2, none⟩ = some (.int .i64 s) := cell_of hbx rfl
  obtain ⟨m1, hm1⟩ : ∃ m1, m1 = max s 0 := ⟨_, rfl⟩
  have hmx : ∀ ats ty W, (Builtin.max_ ats ty #[.int .i64 s, .int .i64 0]).run Try.prog W = .ok (.int .i64 m1) W := fun ats ty W => by rw [hm1]; exact run_max2 ats ty s 0 W
  have hmn : ∀ ats ty W, s ≠ 0 → (Builtin.min_ ats ty #[.int .i64 m1, .int .i64 2000]).run Try.prog W = .ok (.int .i64 (N : Int)) W := fun ats ty W h => by
    rw [run_min2]
    have : min m1 2000 = (N : Int) := by rw [hN, hm1]; unfold nS; rw [if_neg h]; omega
    rw [this]
  have h512 : s = 0 → N = 512 := fun h => by rw [hN]; unfold nS; rw [if_pos h]
  have HN := hid hN
  clear hst hbx hbx2 hb1 hb2 hm1 hN hs1 hW2
  subst hW1
  by_cases hs0 : s = 0
  · have hn512 := h512 hs0
    subst hs0
    subst hn512
    rw [show ((512 : Nat) : Int) = 512 from rfl] at hmk
    clear hmn h512 hmx
    go_enter Try.func24, Try.ntmps24
    go_wp2_with fail
    go_loopw [5] (fun z wr => ∃ (j : Nat) (cur : Array Value), j ≤ 512 ∧ z = .int .i64 j ∧ wr.heap[w.heap.size + 1]? = some (.cells cur 5 (0, 0)) ∧ cur.size = 512 ∧ (∀ i, i < 512 → ∃ x, cur[i]? = some (.int .u8 x)) ∧ (∀ i, i < j → cur[i]? = some (.int .u8 (dB b i))) ∧ wr.heap[w.heap.size]? = some (.cells (cA k n 0 b) 33 (0, 0)) ∧ Below w.heap.size w wr) (fun z _ => 512 - (RowKit.intOf z).toNat)
    case atStart =>
      obtain ⟨cur, h1, h2, h3⟩ := HST.out
      exact ⟨0, cur, Nat.zero_le _, rfl, h1, h2, h3, fun i hi => by omega, HBX.out, HB2.out⟩
    case round =>
      obtain ⟨j, cur, hj, rfl, h1, h2, h3, h4, h5, h6⟩ := hrel
      by_cases hlt : j < 512
      · have hki : (j : Int) < 512 := by omega
        have c3 : wr.cell? ⟨w.heap.size, 3, none⟩ = some (.int .u8 b) := cell_of h5 rfl
        obtain ⟨x, hx⟩ := h3 j hlt
        have cj : wr.cell? ⟨w.heap.size + 1, j, none⟩ = some (.int .u8 x) := cell_of h1 hx
        have fj := froz_of h1 j
        have HREL : Hid (∃ cur', (wr.setCell ⟨w.heap.size + 1, j, none⟩ (.int .u8 (dB b j))).heap[w.heap.size + 1]? = some (.cells cur' 5 (0, 0)) ∧ cur'.size = 512 ∧ (∀ i, i < 512 → ∃ x, cur'[i]? = some (.int .u8 x)) ∧ (∀ i, i < j + 1 → cur'[i]? = some (.int .u8 (dB b i))) ∧ (wr.setCell ⟨w.heap.size + 1, j, none⟩ (.int .u8 (dB b j))).heap[w.heap.size]? = some (.cells (cA k n 0 b) 33 (0, 0)) ∧ Below w.heap.size w (wr.setCell ⟨w.heap.size + 1, j, none⟩ (.int .u8 (dB b j)))) := hid (by
          have hm : Mods (fun x => x = w.heap.size + 1) wr (wr.setCell ⟨w.heap.size + 1, j, none⟩ (.int .u8 (dB b j))) := (Mods.refl (fun x => x = w.heap.size + 1) wr).setCell _ _ _ rfl
          refine ⟨_, setc h1 j _, by simpa using h2, fun i hi => ?_, fun i hi => ?_, (hm.block _ (Array.getElem?_eq_some_iff.1 h5).1 (by omega)).trans h5, hm.to_below h6 h6.size (fun x e => by omega)⟩
          · rw [Array.getElem?_setIfInBounds]
            split
            · rename_i e; subst e; exact ⟨_, by rw [if_pos (by omega)]⟩
            · exact h3 i hi
          · rw [Array.getElem?_setIfInBounds]
            split
            · rename_i e; subst e; rw [if_pos (by omega)]
            · rename_i e; exact h4 i (by omega))
        clear h1 h2 h3 h4 h5 h6 hx
        go_wp2_with fail
        go_roundw
        case rel =>
          obtain ⟨cur', q⟩ := HREL.out
          exact ⟨j + 1, cur', by omega, by go_num, q⟩
        case measure => simp [RowKit.intOf]; omega
      · have hki : ¬ ((j : Int) < 512) := by omega
        obtain rfl : j = 512 := by omega
        have HF : Hid (wr.heap[w.heap.size + 1]? = some (.cells (u8s (dl b 512)).toArray 5 (0, 0)) ∧ Below w.heap.size w wr) := hid ⟨by rw [h1, ← arr_dl h2 h4], h6⟩
        clear h1 h2 h3 h4 h5 h6
        go_wp2_with fail
        go_ret
        exact ⟨rfl, HF.out⟩
  · have hmn' : ∀ ats ty W, (Builtin.min_ ats ty #[.int .i64 m1, .int .i64 2000]).run Try.prog W = .ok (.int .i64 (N : Int)) W := fun ats ty W => hmn ats ty W hs0
    clear hmn h512
    have hs0' : (s != 0) = true := by rw [bne_iff_ne]; exact hs0
    go_enter Try.func24, Try.ntmps24
    go_wp2_with fail
    go_loopw [5] (fun z wr => ∃ (j : Nat) (cur : Array Value), j ≤ N ∧ z = .int .i64 j ∧ wr.heap[w.heap.size + 1]? = some (.cells cur 5 (0, 0)) ∧ cur.size = N ∧ (∀ i, i < N → ∃ x, cur[i]? = some (.int .u8 x)) ∧ (∀ i, i < j → cur[i]? = some (.int .u8 (dB b i))) ∧ wr.heap[w.heap.size]? = some (.cells (cA k n s b) 33 (0, 0)) ∧ Below w.heap.size w wr) (fun z _ => N - (RowKit.intOf z).toNat)
    case atStart =>
      obtain ⟨cur, h1, h2, h3⟩ := HST.out
      exact ⟨0, cur, Nat.zero_le _, rfl, h1, h2, h3, fun i hi => by omega, HBX.out, HB2.out⟩
    case round =>
      obtain ⟨j, cur, hj, rfl, h1, h2, h3, h4, h5, h6⟩ := hrel
      by_cases hlt : j < N
      · have hki : (j : Int) < N := by omega
        have c3 : wr.cell? ⟨w.heap.size, 3, none⟩ = some (.int .u8 b) := cell_of h5 rfl
        obtain ⟨x, hx⟩ := h3 j hlt
        have cj : wr.cell? ⟨w.heap.size + 1, j, none⟩ = some (.int .u8 x) := cell_of h1 hx
        have fj := froz_of h1 j
        have HREL : Hid (∃ cur', (wr.setCell ⟨w.heap.size + 1, j, none⟩ (.int .u8 (dB b j))).heap[w.heap.size + 1]? = some (.cells cur' 5 (0, 0)) ∧ cur'.size = N ∧ (∀ i, i < N → ∃ x, cur'[i]? = some (.int .u8 x)) ∧ (∀ i, i < j + 1 → cur'[i]? = some (.int .u8 (dB b i))) ∧ (wr.setCell ⟨w.heap.size + 1, j, none⟩ (.int .u8 (dB b j))).heap[w.heap.size]? = some (.cells (cA k n s b) 33 (0, 0)) ∧ Below w.heap.size w (wr.setCell ⟨w.heap.size + 1, j, none⟩ (.int .u8 (dB b j)))) := hid (by
          have hm : Mods (fun x => x = w.heap.size + 1) wr (wr.setCell ⟨w.heap.size + 1, j, none⟩ (.int .u8 (dB b j))) := (Mods.refl (fun x => x = w.heap.size + 1) wr).setCell _ _ _ rfl
          refine ⟨_, setc h1 j _, by simpa using h2, fun i hi => ?_, fun i hi => ?_, (hm.block _ (Array.getElem?_eq_some_iff.1 h5).1 (by omega)).trans h5, hm.to_below h6 h6.size (fun x e => by omega)⟩
          · rw [Array.getElem?_setIfInBounds]
            split
            · rename_i e; subst e; exact ⟨_, by rw [if_pos (by omega)]⟩
            · exact h3 i hi
          · rw [Array.getElem?_setIfInBounds]
            split
            · rename_i e; subst e; rw [if_pos (by omega)]
            · rename_i e; exact h4 i (by omega))
        clear h1 h2 h3 h4 h5 h6 hx
        go_wp2_with fail
        go_roundw
        case rel =>
          obtain ⟨cur', q⟩ := HREL.out
          exact ⟨j + 1, cur', by omega, by go_num, q⟩
        case measure => simp [RowKit.intOf]; omega
      · have hki : ¬ ((j : Int) < N) := by omega
        obtain rfl : j = N := by omega
        have HF : Hid (wr.heap[w.heap.size + 1]? = some (.cells (u8s (dl b j)).toArray 5 (0, 0)) ∧ Below w.heap.size w wr) := hid ⟨by rw [h1, ← arr_dl h2 h4], h6⟩
        clear h1 h2 h3 h4 h5 h6
        go_wp2_with fail
        go_ret
        exact ⟨rfl, HF.out⟩
end Go.Proofs.Ytdfnfcimajomeaa
