import Derived.Test.YtkmljnjikkmdhaaDoorRows
import Derived.Test.YtkmljnjikkmdhaaDoorWalkT
import Derived.WalkKit
import Derived.Deep.RegionHeld3
import Derived.Deep.DrawnRows
import Derived.WalkSpells
import Derived.WalkLawsBesides
import Derived.Deep.QuietTactic
import Derived.BigQuiet
/-
  The walk of NumCuts in some of its ways (by the signs of both places and by which is less): it returns true, and nothing old is changed. Conditions: the table is as the program lays it; at most 16384 bytes.
-/
namespace Go.Proofs.YtkmljnjikkmdhaaDoor
open Go.RowKit
set_option linter.unusedVariables false
attribute [local go_sem ↓] Go.wp_at_zero Go.wp_at_succ

set_option maxRecDepth 100000 in
set_option maxHeartbeats 2000000 in
theorem numCuts_abn (a : Option Addr) (cap : Nat) (l : List Int) (i j : Int) (p q : Nat) (w : World) (hl : l.length ≤ 16384) (hc : l.length ≤ cap) (h : Bytes w a l) (hT : Tab w)
    (hpi : i.tmod (↑l.length + 1) = (p : Int)) (hqj : j.tmod (↑l.length + 1) = -(q : Int)) (hp : p ≤ l.length) (hq : q ≤ l.length) (hpq : p ≤ q) (hq1 : 1 ≤ q) :
    Calls Tryd.prog 7 #[.slice a l.length cap, .int .i64 i, .int .i64 j] w fun e w' => e = .returned (.bool true) ∧ Below w.heap.size w w' := by
  have HT := hid hT
  have HB := hid h
  clear h hT
  obtain ⟨a1, c1, hr1, hb1⟩ := cut_h (a := a) (cap := cap) (l := l) p (by omega) hc
  obtain ⟨a2, c2, hr2, hb2⟩ := cut_lh (a := a) (cap := cap) (l := l) p q (by omega) (by omega) hc
  obtain ⟨a3, c3, hr3, hb3⟩ := cut_l (a := a) (cap := cap) (l := l) q (by omega) hc
  have H1 := hid hb1
  have H2 := hid hb2
  have H3 := hid hb3
  clear hb1 hb2 hb3
  have hn1 : ¬ ((16384 : Int) < (l.length : Int)) := by omega
  have hsi : ¬ ((p : Int) < 0) := by omega
  have hsj : -(q : Int) < 0 := by omega
  have hn2 : ¬ ((q : Int) < (p : Int)) := by omega
  go_enter Tryd.func7, Tryd.ntmps7
  go_wp2_with fail
  refine (known_any _ HT.out).mono ?_
  rintro e w1 ⟨rfl, hb1⟩
  have HB1 := hid hb1
  have HBy := hid (HB.out.later hb1)
  have HT1 := hid (HT.out.later hb1)
  clear hb1
  go_wp2_with fail
  have hL : l.length ≤ 1099511627776 := by omega
  have e1 : (l.take p).length = p := by rw [List.length_take]; omega
  have e2 : ((l.drop p).take (q - p)).length = q - p := by rw [List.length_take, List.length_drop]; omega
  have e3 : (l.drop q).length = l.length - q := by rw [List.length_drop]
  have e4 : l.take p ++ ((l.drop p).take (q - p) ++ l.drop q) = l := by
    have h1 : l.drop q = (l.drop p).drop (q - p) := by rw [List.drop_drop]; congr 1; omega
    rw [h1, List.take_append_drop, List.take_append_drop]
  have E1 := hid e1
  have E2 := hid e2
  have E3 := hid e3
  have E4 := hid e4
  clear e1 e2 e3 e4
  go_region_held3 (fun w' => Below w1.heap.size w1 w') ((repeat (first | exact Below.refl _ _ | assumption | refine Below.drew ?_ | refine below_drewN ?_ _ | (refine Below.alloc ?_ ?_ _; rotate_left 1; (simp <;> omega)))))
    ((first
      | (go_at_call_of 20 (4 : Nat); refine (crc4 _ _ c1 _ c2 _ c3 a1 a2 a3 _ _ _ l _ hL E4.out E1.out E2.out E3.out ?_ ?_ ?_ ?_ ?_ ?_ ?_ ?_).mono ?_; (first | (simp; done) | go_simp); (first | (simp; done) | go_simp); (first | (simp; done) | go_simp); (first | (simp; done) | go_simp); (refine (H1.out _ HBy.out).later ?_; (repeat (first | exact Below.refl _ _ | assumption | refine Below.drew ?_ | refine below_drewN ?_ _ | (refine Below.alloc ?_ ?_ _; rotate_left 1; (simp <;> omega))))); (refine (H2.out _ HBy.out).later ?_; (repeat (first | exact Below.refl _ _ | assumption | refine Below.drew ?_ | refine below_drewN ?_ _ | (refine Below.alloc ?_ ?_ _; rotate_left 1; (simp <;> omega))))); (refine (H3.out _ HBy.out).later ?_; (repeat (first | exact Below.refl _ _ | assumption | refine Below.drew ?_ | refine below_drewN ?_ _ | (refine Below.alloc ?_ ?_ _; rotate_left 1; (simp <;> omega))))); (refine HT1.out.later ?_; (repeat (first | exact Below.refl _ _ | assumption | refine Below.drew ?_ | refine below_drewN ?_ _ | (refine Below.alloc ?_ ?_ _; rotate_left 1; (simp <;> omega))))); (rintro e w' ⟨rfl, rfl⟩))
      | (go_at_call 20; refine (crc1 _ _ cap a l _ rfl hL ?_ ?_ ?_).mono ?_; (first | (simp; done) | go_simp); (refine HBy.out.later ?_; (repeat (first | exact Below.refl _ _ | assumption | refine Below.drew ?_ | refine below_drewN ?_ _ | (refine Below.alloc ?_ ?_ _; rotate_left 1; (simp <;> omega))))); (refine HT1.out.later ?_; (repeat (first | exact Below.refl _ _ | assumption | refine Below.drew ?_ | refine below_drewN ?_ _ | (refine Below.alloc ?_ ?_ _; rotate_left 1; (simp <;> omega))))); (rintro e w' ⟨rfl, rfl⟩))
      | (go_at_call_of 21 (3 : Nat); refine (inet3 _ _ c1 _ c2 _ c3 a1 a2 a3 _ _ _ l _ hL E4.out E1.out E2.out E3.out ?_ ?_ ?_ ?_ ?_ ?_).mono ?_; (first | (simp; done) | go_simp); (first | (simp; done) | go_simp); (first | (simp; done) | go_simp); (refine (H1.out _ HBy.out).later ?_; (repeat (first | exact Below.refl _ _ | assumption | refine Below.drew ?_ | refine below_drewN ?_ _ | (refine Below.alloc ?_ ?_ _; rotate_left 1; (simp <;> omega))))); (refine (H2.out _ HBy.out).later ?_; (repeat (first | exact Below.refl _ _ | assumption | refine Below.drew ?_ | refine below_drewN ?_ _ | (refine Below.alloc ?_ ?_ _; rotate_left 1; (simp <;> omega))))); (refine (H3.out _ HBy.out).later ?_; (repeat (first | exact Below.refl _ _ | assumption | refine Below.drew ?_ | refine below_drewN ?_ _ | (refine Below.alloc ?_ ?_ _; rotate_left 1; (simp <;> omega))))); (rintro e w' ⟨rfl, rfl⟩))
      | (go_at_call 21; refine (inet1 _ _ cap a l _ rfl hL ?_ ?_).mono ?_; (first | (simp; done) | go_simp); (refine HBy.out.later ?_; (repeat (first | exact Below.refl _ _ | assumption | refine Below.drew ?_ | refine below_drewN ?_ _ | (refine Below.alloc ?_ ?_ _; rotate_left 1; (simp <;> omega))))); (rintro e w' ⟨rfl, rfl⟩))))
  all_goals
    go_wp2
    go_ret
    refine ⟨rfl, HB1.out.trans (Below.mono (B := w1.heap.size) ?_ HB1.out.size)⟩
    (repeat (first | exact Below.refl _ _ | assumption | refine Below.drew ?_ | refine below_drewN ?_ _ | (refine Below.alloc ?_ ?_ _; rotate_left 1; (simp <;> omega))))

set_option maxRecDepth 100000 in
set_option maxHeartbeats 2000000 in
theorem numCuts_abs (a : Option Addr) (cap : Nat) (l : List Int) (i j : Int) (p q : Nat) (w : World) (hl : l.length ≤ 16384) (hc : l.length ≤ cap) (h : Bytes w a l) (hT : Tab w)
    (hpi : i.tmod (↑l.length + 1) = (p : Int)) (hqj : j.tmod (↑l.length + 1) = -(q : Int)) (hp : p ≤ l.length) (hq : q ≤ l.length) (hpq : q < p) (hq1 : 1 ≤ q) :
    Calls Tryd.prog 7 #[.slice a l.length cap, .int .i64 i, .int .i64 j] w fun e w' => e = .returned (.bool true) ∧ Below w.heap.size w w' := by
  have HT := hid hT
  have HB := hid h
  clear h hT
  obtain ⟨a1, c1, hr1, hb1⟩ := cut_h (a := a) (cap := cap) (l := l) q (by omega) hc
  obtain ⟨a2, c2, hr2, hb2⟩ := cut_lh (a := a) (cap := cap) (l := l) q p (by omega) (by omega) hc
  obtain ⟨a3, c3, hr3, hb3⟩ := cut_l (a := a) (cap := cap) (l := l) p (by omega) hc
  have H1 := hid hb1
  have H2 := hid hb2
  have H3 := hid hb3
  clear hb1 hb2 hb3
  have hn1 : ¬ ((16384 : Int) < (l.length : Int)) := by omega
  have hsi : ¬ ((p : Int) < 0) := by omega
  have hsj : -(q : Int) < 0 := by omega
  have hn2 : (q : Int) < (p : Int) := by omega
  go_enter Tryd.func7, Tryd.ntmps7
  go_wp2_with fail
  refine (known_any _ HT.out).mono ?_
  rintro e w1 ⟨rfl, hb1⟩
  have HB1 := hid hb1
  have HBy := hid (HB.out.later hb1)
  have HT1 := hid (HT.out.later hb1)
  clear hb1
  go_wp2_with fail
  have hL : l.length ≤ 1099511627776 := by omega
  have e1 : (l.take q).length = q := by rw [List.length_take]; omega
  have e2 : ((l.drop q).take (p - q)).length = p - q := by rw [List.length_take, List.length_drop]; omega
  have e3 : (l.drop p).length = l.length - p := by rw [List.length_drop]
  have e4 : l.take q ++ ((l.drop q).take (p - q) ++ l.drop p) = l := by
    have h1 : l.drop p = (l.drop q).drop (p - q) := by rw [List.drop_drop]; congr 1; omega
    rw [h1, List.take_append_drop, List.take_append_drop]
  have E1 := hid e1
  have E2 := hid e2
  have E3 := hid e3
  have E4 := hid e4
  clear e1 e2 e3 e4
  go_region_held3 (fun w' => Below w1.heap.size w1 w') ((repeat (first | exact Below.refl _ _ | assumption | refine Below.drew ?_ | refine below_drewN ?_ _ | (refine Below.alloc ?_ ?_ _; rotate_left 1; (simp <;> omega)))))
    ((first
      | (go_at_call_of 20 (4 : Nat); refine (crc4 _ _ c1 _ c2 _ c3 a1 a2 a3 _ _ _ l _ hL E4.out E1.out E2.out E3.out ?_ ?_ ?_ ?_ ?_ ?_ ?_ ?_).mono ?_; (first | (simp; done) | go_simp); (first | (simp; done) | go_simp); (first | (simp; done) | go_simp); (first | (simp; done) | go_simp); (refine (H1.out _ HBy.out).later ?_; (repeat (first | exact Below.refl _ _ | assumption | refine Below.drew ?_ | refine below_drewN ?_ _ | (refine Below.alloc ?_ ?_ _; rotate_left 1; (simp <;> omega))))); (refine (H2.out _ HBy.out).later ?_; (repeat (first | exact Below.refl _ _ | assumption | refine Below.drew ?_ | refine below_drewN ?_ _ | (refine Below.alloc ?_ ?_ _; rotate_left 1; (simp <;> omega))))); (refine (H3.out _ HBy.out).later ?_; (repeat (first | exact Below.refl _ _ | assumption | refine Below.drew ?_ | refine below_drewN ?_ _ | (refine Below.alloc ?_ ?_ _; rotate_left 1; (simp <;> omega))))); (refine HT1.out.later ?_; (repeat (first | exact Below.refl _ _ | assumption | refine Below.drew ?_ | refine below_drewN ?_ _ | (refine Below.alloc ?_ ?_ _; rotate_left 1; (simp <;> omega))))); (rintro e w' ⟨rfl, rfl⟩))
      | (go_at_call 20; refine (crc1 _ _ cap a l _ rfl hL ?_ ?_ ?_).mono ?_; (first | (simp; done) | go_simp); (refine HBy.out.later ?_; (repeat (first | exact Below.refl _ _ | assumption | refine Below.drew ?_ | refine below_drewN ?_ _ | (refine Below.alloc ?_ ?_ _; rotate_left 1; (simp <;> omega))))); (refine HT1.out.later ?_; (repeat (first | exact Below.refl _ _ | assumption | refine Below.drew ?_ | refine below_drewN ?_ _ | (refine Below.alloc ?_ ?_ _; rotate_left 1; (simp <;> omega))))); (rintro e w' ⟨rfl, rfl⟩))
      | (go_at_call_of 21 (3 : Nat); refine (inet3 _ _ c1 _ c2 _ c3 a1 a2 a3 _ _ _ l _ hL E4.out E1.out E2.out E3.out ?_ ?_ ?_ ?_ ?_ ?_).mono ?_; (first | (simp; done) | go_simp); (first | (simp; done) | go_simp); (first | (simp; done) | go_simp); (refine (H1.out _ HBy.out).later ?_; (repeat (first | exact Below.refl _ _ | assumption | refine Below.drew ?_ | refine below_drewN ?_ _ | (refine Below.alloc ?_ ?_ _; rotate_left 1; (simp <;> omega))))); (refine (H2.out _ HBy.out).later ?_; (repeat (first | exact Below.refl _ _ | assumption | refine Below.drew ?_ | refine below_drewN ?_ _ | (refine Below.alloc ?_ ?_ _; rotate_left 1; (simp <;> omega))))); (refine (H3.out _ HBy.out).later ?_; (repeat (first | exact Below.refl _ _ | assumption | refine Below.drew ?_ | refine below_drewN ?_ _ | (refine Below.alloc ?_ ?_ _; rotate_left 1; (simp <;> omega))))); (rintro e w' ⟨rfl, rfl⟩))
      | (go_at_call 21; refine (inet1 _ _ cap a l _ rfl hL ?_ ?_).mono ?_; (first | (simp; done) | go_simp); (refine HBy.out.later ?_; (repeat (first | exact Below.refl _ _ | assumption | refine Below.drew ?_ | refine below_drewN ?_ _ | (refine Below.alloc ?_ ?_ _; rotate_left 1; (simp <;> omega))))); (rintro e w' ⟨rfl, rfl⟩))))
  all_goals
    go_wp2
    go_ret
    refine ⟨rfl, HB1.out.trans (Below.mono (B := w1.heap.size) ?_ HB1.out.size)⟩
    (repeat (first | exact Below.refl _ _ | assumption | refine Below.drew ?_ | refine below_drewN ?_ _ | (refine Below.alloc ?_ ?_ _; rotate_left 1; (simp <;> omega))))
end Go.Proofs.YtkmljnjikkmdhaaDoor
