/- The statements' own helpers: put, puts, samePuts, log. -/
import Derived.Test.YtoifeioijoancaaDoorWcP
namespace Go.Proofs.YtoifeioijoancaaDoor
open Go.RowKit Go.Maps
set_option linter.unusedVariables false

def putN (size : Int) : Nat := if size = 0 then 512 else (min (max size 0) 1500).toNat
def putL (n : Nat) (b : Int) : List Int := (List.range n).map fun i => (b + (i / 3 : Nat)) % 256
theorem putL_len (n : Nat) (b : Int) : (putL n b).length = n := by simp [putL]
theorem putL_isB (n : Nat) (b : Int) : ∀ x ∈ putL n b, IsB x := by
  intro x hx
  simp only [putL, List.mem_map] at hx
  obtain ⟨i, _, rfl⟩ := hx
  unfold IsB
  omega
theorem putN_le (size : Int) : putN size ≤ 1500 := by unfold putN; split <;> omega
/-- The bytes while they are laid. -/
def putK (k : Nat) (b : Int) (i : Nat) : Int := if i < k then (b + (i / 3 : Nat)) % 256 else 0
set_option maxRecDepth 100000 in
set_option maxHeartbeats 1000000 in
theorem put_any (w : World) (at_ size b : Int) (hb0 : 0 ≤ b) (hb1 : b < 256) :
    Calls Tryd.prog 38 #[.agg #[.int .i64 at_, .int .i64 size, .int .u8 b]] w fun e w' => ∃ g, e = .returned (.agg #[.int .i64 at_, .slice (some ⟨g, 0, none⟩) (putN size) (putN size)]) ∧ By w' (New w) (some ⟨g, 0, none⟩) (putL (putN size) b) ∧ Below w.heap.size w w' := by
  obtain ⟨n, hn⟩ : ∃ n, n = putN size := ⟨_, rfl⟩
  have hn15 : n ≤ 1500 := by rw [hn]; exact putN_le _
  rw [← hn]
  have hmk := run_make_row' (P := Tryd.prog) 27 5 (.int .u8 0) 1 Tryd.underlying27 info5 rfl .i64 .i64 n (by omega) (by omega)
  obtain ⟨W2, hW2⟩ : ∃ W2, W2 = (w.alloc (.cells #[.int .i64 at_, .int .i64 size, .int .u8 b] 61)).alloc (.cells #[.int .i64 0, .slice none 0 0] 29) := ⟨_, rfl⟩
  have hb2 : Below w.heap.size w W2 := by rw [hW2]; exact ((Below.refl _ _).alloc (Nat.le_refl _) _).alloc (by simp) _
  have hs2 : W2.heap.size = w.heap.size + 2 := by rw [hW2]; simp
  have hh1 : W2.heap[w.heap.size]? = some (.cells #[.int .i64 at_, .int .i64 size, .int .u8 b] 61 (0, 0)) := by rw [hW2]; exact (Below.heap_alloc _ _ _ (by simp)).trans (alloc_new w _)
  have hh2 : W2.heap[w.heap.size + 1]? = some (.cells #[.int .i64 0, .slice none 0 0] 29 (0, 0)) := by
    rw [hW2, show w.heap.size + 1 = (w.alloc (.cells #[.int .i64 at_, .int .i64 size, .int .u8 b] 61)).heap.size by simp]; exact alloc_new _ _
  have hc0 : W2.cell? ⟨w.heap.size, 0, none⟩ = some (.int .i64 at_) := cell_of hh1 rfl
  have hc1 : W2.cell? ⟨w.heap.size, 1, none⟩ = some (.int .i64 size) := cell_of hh1 rfl
  have HB2 := hid hb2
  have HH1 := hid hh1
  have HH2 := hid hh2
  have HS2 := hid hs2
  have HN := hid hn
  by_cases hs : size = 0
  · subst hs
    have hn5 : n = 512 := by rw [hn]; rfl
    subst hn5
    have hmk : ∀ W : World, (Instr.makeSlice 27 (.int .i64 512) (.int .i64 512)).run Tryd.prog W = .ok (.slice (some ⟨W.heap.size, 0, none⟩) 512 512) (W.alloc (.cells (madeCells #[.int .u8 0] 512) 5)) := hmk
    clear hn15
    clear hn hb2 hs2 hh1 hh2
    go_enter Tryd.func38, Tryd.ntmps38
    go_wp2_with (rw [← hW2])
    clear hW2 hmk hc0 hc1
    go_loopw [5] (fun z wr => ∃ k : Nat, k ≤ 512 ∧ z = .int .i64 k ∧ wr.rowIs (w.heap.size + 1 + 1) 5 512 (fun i => .int .u8 (putK k b i)) ∧ Below w.heap.size w wr ∧ wr.heap[w.heap.size]? = some (.cells #[.int .i64 at_, .int .i64 0, .int .u8 b] 61 (0, 0)) ∧ wr.heap[w.heap.size + 1]? = some (.cells #[.int .i64 0, .slice none 0 0] 29 (0, 0))) (fun z _ => 512 - (RowKit.intOf z).toNat)
    case atStart =>
      have hb3 : Below W2.heap.size W2 (W2.alloc (.cells (madeCells #[.int .u8 0] 512) 5)) := (Below.refl _ _).alloc (Nat.le_refl _) _
      refine ⟨0, Nat.zero_le _, rfl, ?_, HB2.out.trans (hb3.mono HB2.out.size), (hb3.block _ (by rw [HS2.out]; omega)).trans HH1.out, (hb3.block _ (by rw [HS2.out]; omega)).trans HH2.out⟩
      have := World.rowIs_made W2 (.int .u8 0) 512 5
      rw [HS2.out] at this
      exact this.congr (fun i _ => by simp [putK])
    case round =>
      obtain ⟨k, hk, rfl, hr, hb, hh1, hh2⟩ := hrel
      have HR := hid hr
      have HB := hid hb
      have HH1' := hid hh1
      have HH2' := hid hh2
      clear HB2 HS2 HH1 HH2
      by_cases hlt : k < 512
      · have hki : (k : Int) < 512 := by omega
        obtain ⟨v0, hcv⟩ : ∃ v, wr.cell? ⟨w.heap.size + 1 + 1, k, none⟩ = some v := ⟨_, hr.cell hlt⟩
        have hf := hr.frozen k
        have hc2 : wr.cell? ⟨w.heap.size, 2, none⟩ = some (.int .u8 b) := cell_of hh1 rfl
        clear hr hb hh1 hh2
        go_wp2
        go_roundw
        case rel =>
          refine ⟨k + 1, by omega, by go_num, ?_, HB.out.setCell (by show w.heap.size ≤ w.heap.size + 1 + 1; omega) _, (Below.heap_setCell _ _ _ _ (by show ¬ w.heap.size = w.heap.size + 1 + 1; omega)).trans HH1'.out, (Below.heap_setCell _ _ _ _ (by show ¬ w.heap.size + 1 = w.heap.size + 1 + 1; omega)).trans HH2'.out⟩
          refine (HR.out.set k _).congr fun i hi => ?_
          unfold putK
          by_cases e : i = k
          · subst e
            rw [if_pos rfl, if_pos (by omega)]
            simp
          · rw [if_neg e]
            by_cases e2 : i < k
            · rw [if_pos e2, if_pos (by omega)]
            · rw [if_neg e2, if_neg (by omega)]
        case measure => simp [RowKit.intOf]; omega
      · have hki : ¬ ((k : Int) < 512) := by omega
        have hke : k = 512 := by omega
        have hc0 : wr.cell? ⟨w.heap.size, 0, none⟩ = some (.int .i64 at_) := cell_of hh1 rfl
        have hf := fun i => froz_of hh2 i
        have hd0 : wr.cell? ⟨w.heap.size + 1, 0, none⟩ = some (.int .i64 0) := cell_of hh2 rfl
        have hd1 : wr.cell? ⟨w.heap.size + 1, 1, none⟩ = some (.slice none 0 0) := cell_of hh2 rfl
        have HW := hid (set2 hh2 (.int .i64 at_) (.slice (some ⟨w.heap.size + 1 + 1, 0, none⟩) 512 512))
        have hmo : Mods (fun b => b = w.heap.size + 1) wr ((wr.setCell ⟨w.heap.size + 1, 0, none⟩ (.int .i64 at_)).setCell ⟨w.heap.size + 1, 1, none⟩ (.slice (some ⟨w.heap.size + 1 + 1, 0, none⟩) 512 512)) := ((Mods.refl (fun b => b = w.heap.size + 1) wr).setCell (w.heap.size + 1) 0 _ rfl).setCell (w.heap.size + 1) 1 _ rfl
        have hy : By wr (New w) (some ⟨w.heap.size + 1 + 1, 0, none⟩) (putL 512 b) := By.of_row (hr.congr (fun i hi => by
          unfold putK putL
          rw [if_pos (by omega)]
          simp [List.getD, hi])) (by unfold New; omega) (putL_isB _ _) (by rw [putL_len]; exact Nat.le_refl _)
        have HY := hid (hy.mods hmo (fun g cur fr e e2 => by subst e; rw [hh2] at e2; simp at e2))
        have HB' := hid ((HB.out.setCell (p := ⟨w.heap.size + 1, 0, none⟩) (by show w.heap.size ≤ w.heap.size + 1; omega) (.int .i64 at_)).setCell (p := ⟨w.heap.size + 1, 1, none⟩) (by show w.heap.size ≤ w.heap.size + 1; omega) (.slice (some ⟨w.heap.size + 1 + 1, 0, none⟩) 512 512))
        clear hr hb hh1 hh2 hmo hy hke
        go_wp2
        exact bodyPost_ret (results_c rfl _ _ _ _ _ _ rfl HW.out Tryd.underlying29 sizePut) rfl ⟨_, rfl, HY.out, HB'.out⟩
  · have hs2' : (size != 0) = true := by simpa using hs
    have hmin : min (max size 0) 1500 = (n : Int) := by rw [hn]; unfold putN; rw [if_neg hs]; omega
    clear hn hb2 hs2 hh1 hh2
    go_enter Tryd.func38, Tryd.ntmps38
    go_wp2_with (rw [← hW2])
    clear hW2 hmk hc0 hc1
    go_loopw [5] (fun z wr => ∃ k : Nat, k ≤ n ∧ z = .int .i64 k ∧ wr.rowIs (w.heap.size + 1 + 1) 5 n (fun i => .int .u8 (putK k b i)) ∧ Below w.heap.size w wr ∧ wr.heap[w.heap.size]? = some (.cells #[.int .i64 at_, .int .i64 size, .int .u8 b] 61 (0, 0)) ∧ wr.heap[w.heap.size + 1]? = some (.cells #[.int .i64 0, .slice none 0 0] 29 (0, 0))) (fun z _ => n - (RowKit.intOf z).toNat)
    case atStart =>
      have hb3 : Below W2.heap.size W2 (W2.alloc (.cells (madeCells #[.int .u8 0] n) 5)) := (Below.refl _ _).alloc (Nat.le_refl _) _
      refine ⟨0, Nat.zero_le _, rfl, ?_, HB2.out.trans (hb3.mono HB2.out.size), (hb3.block _ (by rw [HS2.out]; omega)).trans HH1.out, (hb3.block _ (by rw [HS2.out]; omega)).trans HH2.out⟩
      have := World.rowIs_made W2 (.int .u8 0) n 5
      rw [HS2.out] at this
      exact this.congr (fun i _ => by simp [putK])
    case round =>
      obtain ⟨k, hk, rfl, hr, hb, hh1, hh2⟩ := hrel
      have HR := hid hr
      have HB := hid hb
      have HH1' := hid hh1
      have HH2' := hid hh2
      clear HB2 HS2 HH1 HH2
      by_cases hlt : k < n
      · have hki : (k : Int) < n := by omega
        obtain ⟨v0, hcv⟩ : ∃ v, wr.cell? ⟨w.heap.size + 1 + 1, k, none⟩ = some v := ⟨_, hr.cell hlt⟩
        have hf := hr.frozen k
        have hc2 : wr.cell? ⟨w.heap.size, 2, none⟩ = some (.int .u8 b) := cell_of hh1 rfl
        clear hr hb hh1 hh2
        go_wp2
        go_roundw
        case rel =>
          refine ⟨k + 1, by omega, by go_num, ?_, HB.out.setCell (by show w.heap.size ≤ w.heap.size + 1 + 1; omega) _, (Below.heap_setCell _ _ _ _ (by show ¬ w.heap.size = w.heap.size + 1 + 1; omega)).trans HH1'.out, (Below.heap_setCell _ _ _ _ (by show ¬ w.heap.size + 1 = w.heap.size + 1 + 1; omega)).trans HH2'.out⟩
          refine (HR.out.set k _).congr fun i hi => ?_
          unfold putK
          by_cases e : i = k
          · subst e
            rw [if_pos rfl, if_pos (by omega)]
            simp
          · rw [if_neg e]
            by_cases e2 : i < k
            · rw [if_pos e2, if_pos (by omega)]
            · rw [if_neg e2, if_neg (by omega)]
        case measure => simp [RowKit.intOf]; omega
      · have hki : ¬ ((k : Int) < n) := by omega
        have hke : k = n := by omega
        have hc0 : wr.cell? ⟨w.heap.size, 0, none⟩ = some (.int .i64 at_) := cell_of hh1 rfl
        have hf := fun i => froz_of hh2 i
        have hd0 : wr.cell? ⟨w.heap.size + 1, 0, none⟩ = some (.int .i64 0) := cell_of hh2 rfl
        have hd1 : wr.cell? ⟨w.heap.size + 1, 1, none⟩ = some (.slice none 0 0) := cell_of hh2 rfl
        have HW := hid (set2 hh2 (.int .i64 at_) (.slice (some ⟨w.heap.size + 1 + 1, 0, none⟩) n n))
        have hmo : Mods (fun b => b = w.heap.size + 1) wr ((wr.setCell ⟨w.heap.size + 1, 0, none⟩ (.int .i64 at_)).setCell ⟨w.heap.size + 1, 1, none⟩ (.slice (some ⟨w.heap.size + 1 + 1, 0, none⟩) n n)) := ((Mods.refl (fun b => b = w.heap.size + 1) wr).setCell (w.heap.size + 1) 0 _ rfl).setCell (w.heap.size + 1) 1 _ rfl
        have hy : By wr (New w) (some ⟨w.heap.size + 1 + 1, 0, none⟩) (putL n b) := By.of_row (hr.congr (fun i hi => by
          unfold putK putL
          rw [if_pos (by omega)]
          simp [List.getD, hi])) (by unfold New; omega) (putL_isB _ _) (by rw [putL_len]; exact Nat.le_refl _)
        have HY := hid (hy.mods hmo (fun g cur fr e e2 => by subst e; rw [hh2] at e2; simp at e2))
        have HB' := hid ((HB.out.setCell (p := ⟨w.heap.size + 1, 0, none⟩) (by show w.heap.size ≤ w.heap.size + 1; omega) (.int .i64 at_)).setCell (p := ⟨w.heap.size + 1, 1, none⟩) (by show w.heap.size ≤ w.heap.size + 1; omega) (.slice (some ⟨w.heap.size + 1 + 1, 0, none⟩) n n))
        clear hr hb hh1 hh2 hmo hy hke
        go_wp2
        exact bodyPost_ret (results_c rfl _ _ _ _ _ _ rfl HW.out Tryd.underlying29 sizePut) rfl ⟨_, rfl, HY.out, HB'.out⟩
end Go.Proofs.YtoifeioijoancaaDoor
