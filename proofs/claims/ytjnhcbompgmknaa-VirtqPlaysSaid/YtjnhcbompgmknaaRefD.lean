/- The document's driver: made; how many are free. -/
import Derived.Test.YtjnhcbompgmknaaRefC
namespace Go.Proofs.Ytjnhcbompgmknaa
open Go.RowKit

/-- The reference's driver, its own cells. -/
def RBox (w : World) (p gt : Nat) (vf : Value) (g len cap base n put got : Nat) : Prop :=
  w.heap[p]? = some (.cells #[.slice (some ⟨g, 0, none⟩) len cap, .int .i64 base, .int .i64 n, .slice (some ⟨gt, 0, none⟩) n n, .int .i64 put, .int .i64 got, vf] 84 (0, 0))
theorem RBox.cells {w : World} {p gt : Nat} {vf : Value} {g len cap base n put got : Nat} (h : RBox w p gt vf g len cap base n put got) :
    w.cell? ⟨p, 0, none⟩ = some (.slice (some ⟨g, 0, none⟩) len cap) ∧ w.cell? ⟨p, 1, none⟩ = some (.int .i64 base) ∧ w.cell? ⟨p, 2, none⟩ = some (.int .i64 n) ∧ w.cell? ⟨p, 3, none⟩ = some (.slice (some ⟨gt, 0, none⟩) n n) ∧
    w.cell? ⟨p, 4, none⟩ = some (.int .i64 put) ∧ w.cell? ⟨p, 5, none⟩ = some (.int .i64 got) ∧ w.cell? ⟨p, 6, none⟩ = some vf ∧
    w.frozen? ⟨p, 4, none⟩ = false ∧ w.frozen? ⟨p, 5, none⟩ = false ∧ w.frozen? ⟨p, 6, none⟩ = false := by
  have h1 : w.heap[p]? = _ := h
  unfold World.cell? World.frozen?
  simp [h1]
theorem RBox.lt {w : World} {p gt : Nat} {vf : Value} {g len cap base n put got : Nat} (h : RBox w p gt vf g len cap base n put got) : p < w.heap.size := (Array.getElem?_eq_some_iff.1 h).1
/-- Which descriptors are taken. -/
def Tk (w : World) (gt n : Nat) (t : Nat → Bool) : Prop := w.rowIs gt 4 n (fun i => .bool (t i))
theorem Tk.cell {w : World} {gt n : Nat} {t : Nat → Bool} (h : Tk w gt n t) {i : Nat} (hi : i < n) : w.cell? ⟨gt, i, none⟩ = some (.bool (t i)) := by
  obtain ⟨c, h1, _, h3⟩ := h
  unfold World.cell?
  simp [h1, h3 i hi]
theorem Tk.frozen {w : World} {gt n : Nat} {t : Nat → Bool} (h : Tk w gt n t) (i : Nat) : w.frozen? ⟨gt, i, none⟩ = false := by
  obtain ⟨c, h1, _, h3⟩ := h
  unfold World.frozen?
  simp [h1]
theorem Tk.keep {w w' : World} {gt n : Nat} {t : Nat → Bool} (h : Tk w gt n t) (hb : w'.heap[gt]? = w.heap[gt]?) : Tk w' gt n t := World.rowIs.of_block h hb
theorem Tk.lt {w : World} {gt n : Nat} {t : Nat → Bool} (h : Tk w gt n t) : gt < w.heap.size := by
  obtain ⟨c, h1, _, _⟩ := h
  exact (Array.getElem?_eq_some_iff.1 h1).1
/-- How many of the first k are free. -/
def cnt (t : Nat → Bool) : Nat → Nat
  | 0 => 0
  | k + 1 => if t k then cnt t k else cnt t k + 1
theorem cnt_le (t : Nat → Bool) (k : Nat) : cnt t k ≤ k := by
  induction k with
  | zero => exact Nat.le_refl _
  | succ k ih => unfold cnt; split <;> omega

theorem info4 : (Try.prog.info? 4).map (fun i => (i.zero, i.size, i.bytes)) = some (some (.bool false), 1, 1) := by kernel_rfl

set_option maxRecDepth 100000 in
set_option maxHeartbeats 1000000 in
theorem refFree_any (w : World) (p gt : Nat) (vf : Value) (g len cap base n put got : Nat) (t : Nat → Bool) (hb : RBox w p gt vf g len cap base n put got) (ht : Tk w gt n t) (n2 : n ≤ 256) :
    Calls Try.prog 13 #[.pointer (some ⟨p, 0, none⟩)] w fun e w' => e = .returned (.int .i64 (cnt t n)) ∧ w' = w := by
  obtain ⟨d0, d1, d2, d3, d4, d5, d6, _⟩ := hb.cells
  have HT := hid ht
  clear hb ht
  go_enter Try.func13, Try.ntmps13
  go_wp2
  go_loopw [3, 4] (fun x y wr => ∃ k : Nat, k ≤ n ∧ x = .int .i64 (cnt t k) ∧ y = .int .i64 k ∧ wr = w) (fun _ y _ => n - (RowKit.intOf y).toNat)
  case atStart => exact ⟨0, Nat.zero_le _, rfl, rfl, rfl⟩
  case round =>
    obtain ⟨k, hk, rfl, rfl, rfl⟩ := hrel
    have hc := cnt_le t k
    by_cases hlt : k < n
    · have hki : (k : Int) < n := by omega
      have hcell := HT.out.cell hlt
      have e1 : IntKind.i64.wrap ((k : Int) + 1) = (k : Int) + 1 := IntWalk.i64_in _ (by omega)
      have e2 : IntKind.i64.wrap ((cnt t k : Int) + 1) = (cnt t k : Int) + 1 := IntWalk.i64_in _ (by omega)
      have hst := hid (show cnt t (k + 1) = if t k then cnt t k else cnt t k + 1 from rfl)
      generalize cnt t k = c at *
      cases htk : t k with
      | true =>
        rw [htk] at hcell
        have HTK := hid htk
        clear htk
        go_wp2
        refine ⟨⟨k + 1, by omega, ?_, by go_num, trivial⟩, by simp only [RowKit.intOf]; omega⟩
        rw [hst.out, HTK.out]
        rfl
      | false =>
        rw [htk] at hcell
        have HTK := hid htk
        clear htk
        go_wp2
        refine ⟨⟨k + 1, by omega, ?_, by go_num, trivial⟩, by simp only [RowKit.intOf]; omega⟩
        rw [hst.out, HTK.out]
        go_num
    · have hki : ¬ ((k : Int) < n) := by omega
      go_wp2
      go_ret
      obtain rfl : k = n := by omega
      exact ⟨rfl, rfl⟩

set_option maxRecDepth 100000 in
set_option maxHeartbeats 2000000 in
theorem refNewDriver_ok (w : World) (g len cap base n N : Nat) (f : Nat → Int) (hm : Mem w g N f) (G : RGeo len base n N) (hp : pow2 n = true) :
    Calls Try.prog 25 #[.slice (some ⟨g, 0, none⟩) len cap, .int .i64 base, .int .i64 n] w fun e w' => ∃ p gt, e = .returned (.tuple #[.pointer (some ⟨p, 0, none⟩), .int .i64 0]) ∧ Mods (fun b => b = g) w w' ∧ Mem w' g N (zr f base (8 + 26 * n)) ∧
      RBox w' p gt (.slice none 0 0) g len cap base n 0 0 ∧ Tk w' gt n (fun _ => false) ∧ w.heap.size ≤ gt ∧ gt < p := by
  obtain ⟨n1, n2, fit, hle, hbig⟩ := G
  have hs : sizeI n = 8 + 26 * (n : Int) := by unfold sizeI; rw [if_pos hp]
  have hf : Fit len base n := ⟨by omega, by omega, by omega, by omega⟩
  have HF := hid (fits_yes w (some ⟨g, 0, none⟩) len cap base n hbig hf)
  have HS := hid (fun w => refSize_any w n)
  rw [hs] at HS
  have HM := hid hm
  have hmk := run_make_row' (P := Try.prog) 81 4 (.bool false) 1 Try.underlying81 info4 rfl .i64 .i64 n (by omega) (by omega)
  clear hm hf hs hp
  go_enter Try.func25, Try.ntmps25
  go_wp2_with fail
  refine HF.out.mono ?_
  rintro e w1 ⟨rfl, hw1⟩
  rw [hw1]
  clear hw1 w1
  go_wp2
  go_loopw [8] (fun x wr => ∃ k : Nat, k ≤ 8 + 26 * n ∧ x = .int .i64 k ∧ Mem wr g N (zr f base k) ∧ Mods (fun b => b = g) w wr) (fun x _ => 8 + 26 * n - (RowKit.intOf x).toNat)
  case atStart => exact ⟨0, Nat.zero_le _, rfl, HM.out.congr (fun i _ => by unfold zr; rw [if_neg (by omega)]), Mods.refl _ _⟩
  case round =>
    obtain ⟨k, hk, rfl, hme, hmo⟩ := hrel
    have HME := hid hme
    have HMO := hid hmo
    by_cases hlt : k < 8 + 26 * n
    · have hki : (k : Int) < 8 + 26 * (n : Int) := by omega
      have hc := hme.cell (i := base + k) (by omega)
      have hfz := hme.frozen (base + k)
      have e1 : IntKind.i64.wrap ((base : Int) + k) = (base : Int) + k := IntWalk.i64_in _ (by omega)
      have e3 : IntKind.i64.wrap ((k : Int) + 1) = (k : Int) + 1 := IntWalk.i64_in _ (by omega)
      have b1 : (base : Int) + k < len := by omega
      have b2 : (0 : Int) ≤ (base : Int) + k := by omega
      clear hme hmo
      go_wp2_with (go_at_call 9; refine (HS.out _).mono ?_; rintro e w5 ⟨rfl, hw5⟩; rw [hw5]; clear hw5 w5)
      refine ⟨⟨k + 1, by omega, by go_num, ?_, HMO.out.setCell g (base + k) _ rfl⟩, by simp only [RowKit.intOf]; omega⟩
      refine (HME.out.set1 (base + k) 0 (by unfold IsB; omega)).congr (fun i _ => ?_)
      unfold zr
      by_cases e : i = base + k
      · rw [if_pos e, if_pos (by omega)]
      · rw [if_neg e]
        by_cases h : base ≤ i ∧ i < base + k
        · rw [if_pos h, if_pos (by omega)]
        · rw [if_neg h, if_neg (by omega)]
    · have hki : ¬ ((k : Int) < 8 + 26 * (n : Int)) := by omega
      obtain rfl : k = 8 + 26 * n := by omega
      clear hme hmo
      go_wp2_with (go_at_call 9; refine (HS.out _).mono ?_; rintro e w5 ⟨rfl, hw5⟩; rw [hw5]; clear hw5 w5)
      go_ret2
      have z1 : (wr.alloc (.cells (madeCells #[.bool false] n) 4)).heap.size = wr.heap.size + 1 := by simp
      refine ⟨wr.heap.size + 1, wr.heap.size, rfl, (HMO.out.alloc _).alloc _, HME.out.below (((Below.refl wr.heap.size wr).alloc (Nat.le_refl _) _).alloc (by omega) _), ?_, ?_, HMO.out.size, by omega⟩
      · have h := (MapKept.heap_alloc (wr.alloc (.cells (madeCells #[.bool false] n) 4)) (.cells #[.slice (some ⟨g, 0, none⟩) len cap, .int .i64 base, .int .i64 n, .slice (some ⟨wr.heap.size, 0, none⟩) n n, .int .i64 0, .int .i64 0, .slice none 0 0] 84)).1
        rw [z1] at h
        exact h
      · exact (World.rowIs_made wr (.bool false) n 4).of_block (Below.heap_alloc (wr.alloc (.cells (madeCells #[.bool false] n) 4)) _ _ (by omega))
end Go.Proofs.Ytjnhcbompgmknaa
