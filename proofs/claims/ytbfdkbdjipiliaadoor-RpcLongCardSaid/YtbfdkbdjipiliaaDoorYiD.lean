/- YiC, YiD in one text. -/
import Derived.Test.YtbfdkbdjipiliaaDoorYiB
import Derived.Deep.RegionHeld3
/- Reading a call: its opening. -/
namespace Go.Proofs.YtbfdkbdjipiliaaDoor
open Go.RowKit Go.Maps
set_option linter.unusedVariables false

/-- An error: none, a number, a Wrong. -/
inductive Er | no | num (e : Int) | wrg (e : Int) (l : List Int)
def ErAt (w : World) (B : Nat) (v : Value) : Er → Prop
  | .no => v = .nilIface
  | .num e => v = .iface 30 (.int .i64 e)
  | .wrg e l => ∃ g a n c, v = .iface 52 (.pointer (some ⟨g, 0, none⟩)) ∧ B ≤ g ∧ w.heap[g]? = some (.cells #[.int .i64 e, .slice a n c] 56 (0, 0)) ∧ By w (fun b => B ≤ b) a l ∧ l.length = n ∧ n ≤ c
theorem ErAt.later {w w' : World} {B : Nat} {v : Value} {x : Er} (h : ErAt w B v x) (hb : Below w.heap.size w w') : ErAt w' B v x := by
  cases x with
  | no => exact h
  | num e => exact h
  | wrg e l =>
    obtain ⟨g, a, n, c, h1, h2, h3, h4, h5⟩ := h
    exact ⟨g, a, n, c, h1, h2, (hb.block g (Array.getElem?_eq_some_iff.1 h3).1).trans h3, h4.later hb, h5⟩
theorem ErAt.side {w w' : World} {B : Nat} {v : Value} {x : Er} {X : Nat → Prop} (h : ErAt w B v x) (hm : Mods X w w') (hx : ∀ b, X b → b < B) : ErAt w' B v x := by
  cases x with
  | no => exact h
  | num e => exact h
  | wrg e l =>
    obtain ⟨g, a, n, c, h1, h2, h3, h4, h5⟩ := h
    exact ⟨g, a, n, c, h1, h2, (hm.block g (Array.getElem?_eq_some_iff.1 h3).1 (fun e => by have := hx g e; omega)).trans h3, h4.side hm (fun b hb _ e => by have := hx b e; have h : B ≤ b := hb; omega), h5⟩
theorem ErAt.mono {w : World} {B B' : Nat} {v : Value} {x : Er} (h : ErAt w B v x) (hB : B' ≤ B) : ErAt w B' v x := by
  cases x with
  | no => exact h
  | num e => exact h
  | wrg e l =>
    obtain ⟨g, a, n, c, h1, h2, h3, h4, h5⟩ := h
    exact ⟨g, a, n, c, h1, Nat.le_trans hB h2, h3, h4.weak (fun b hb _ => Nat.le_trans hB hb), h5⟩
abbrev rgC (p : Nat) (x pr v k u g : Int) (ag ab : Value) : Array Value := #[.pointer (some ⟨p, 0, none⟩), .int .u32 x, .int .u32 pr, .int .u32 v, .int .u32 k, .int .u32 u, .int .u32 g, ag, ab]
abbrev nilS : Value := .slice none 0 0
def opnP (r : Rd) : Int × Er × Rd :=
  let x := rd32 r
  let kd := rd32 x.2
  let vr := rd32 kd.2
  (x.1, if vr.2.e ≠ 0 then .num vr.2.e else if kd.1 ≠ 0 then .num 31 else if vr.1 ≠ 2 then .wrg 31 (nuL 4 [x.1, 1, 1, 0, 2, 2]) else .no, vr.2)
/-- A new box for a Wrong. -/
theorem wrg_new {W : World} {B n c : Nat} {a : Option Addr} {e : Int} {l : List Int} (hB : B ≤ W.heap.size) (hh : By W (fun b => B ≤ b) a l) (hn : l.length = n) (hc : n ≤ c) :
    ErAt (W.alloc (.cells #[.int .i64 e, .slice a n c] 56)) B (.iface 52 (.pointer (some ⟨W.heap.size, 0, none⟩))) (.wrg e l) :=
  ⟨W.heap.size, _, n, c, rfl, hB, alloc_new W _, hh.later (below_alloc (Below.refl _ _) (Nat.le_refl _) _), hn, hc⟩
/-- What opening leaves. -/
def OpnPost (w : World) (p q : Nat) (x : Int) (o : Er) (r : Rd) (e : Ending) (w' : World) : Prop := (∃ v, e = .returned v ∧ ErAt w' w.heap.size v o) ∧ RY w' 103 p r ∧ w'.heap[q]? = some (.cells (rgC p x 0 0 0 0 0 nilS nilS) 73 (0, 0)) ∧ Mods (fun b => b = p ∨ b = q) w w'
set_option maxRecDepth 100000 in
set_option maxHeartbeats 4000000 in
theorem opening_any {w : World} {p q : Nat} {r : Rd} (h : RY w 103 p r) (hI : ∀ x ∈ r.l, IsB x) (hq : w.heap[q]? = some (.cells (rgC p 0 0 0 0 0 0 nilS nilS) 73 (0, 0))) (hpq : p < q) :
    Calls Tryd.prog 36 #[.pointer (some ⟨q, 0, none⟩)] w fun e w' => OpnPost w p q (opnP r).1 (opnP r).2.1 (opnP r).2.2 e w' := by
  obtain ⟨⟨x, r1⟩, e0⟩ : ∃ a, rd32 r = a := ⟨_, rfl⟩
  obtain ⟨⟨kd, r2⟩, e1⟩ : ∃ a, rd32 r1 = a := ⟨_, rfl⟩
  obtain ⟨⟨vr, r3⟩, e2⟩ : ∃ a, rd32 r2 = a := ⟨_, rfl⟩
  have hux : IsU x := by have := rd32_u hI; rw [e0] at this; exact this
  have ho : opnP r = (x, if r3.e ≠ 0 then .num r3.e else if kd ≠ 0 then .num 31 else if vr ≠ 2 then .wrg 31 (nuL 4 [x, 1, 1, 0, 2, 2]) else .no, r3) := by unfold opnP; simp only [e0, e1, e2]
  rw [ho]
  clear ho
  obtain ⟨EE, hEE⟩ : ∃ e, r3.e = e := ⟨_, rfl⟩
  simp only [hEE]
  obtain ⟨OO, hOO⟩ : ∃ o, (if EE ≠ 0 then Er.num EE else if kd ≠ 0 then .num 31 else if vr ≠ 2 then .wrg 31 (nuL 4 [x, 1, 1, 0, 2, 2]) else .no) = o := ⟨_, rfl⟩
  rw [hOO]
  have HOO := hid hOO
  clear hOO
  have hql := (Array.getElem?_eq_some_iff.1 hq).1
  have qp : q ≠ p := by omega
  have E0 := hid e0
  have E1 := hid e1
  have E2 := hid e2
  have HX0 := hid h
  have HQP := hid qp
  have HPQ := hid hpq
  have HQ0 := hid hq
  have HEE := hid hEE
  have HUX := hid hux
  have y0 := cell_of hq (i := 0) (v := .pointer (some ⟨p, 0, none⟩)) rfl
  have HQL := hid hql
  clear e0 e1 e2 h qp hpq hq hql hEE hux hI
  go_enter Tryd.func36, Tryd.ntmps36
  go_upto_region 2 with (first
    | (go_at_call 37
       refine (RU32_is E0.out HX0.out).mono ?_
       rintro e w1 ⟨rfl, hx, hm⟩
       have hz1 := (hm.block q HQL.out HQP.out).trans HQ0.out
       have y0 := cell_of hz1 (i := 0) (v := .pointer (some ⟨p, 0, none⟩)) rfl
       have y1 := cell_of hz1 (i := 1) (v := .int .u32 0) rfl
       have f1 := froz_of hz1 1
       obtain ⟨W2, hW2⟩ : ∃ W, W = w1.setCell ⟨q, 1, none⟩ (.int .u32 x) := ⟨_, rfl⟩
       have hz2 : W2.heap[q]? = some (.cells (rgC p x 0 0 0 0 0 nilS nilS) 73 (0, 0)) := by rw [hW2]; exact setc hz1 1 _
       have hq2 : Mods (fun b => b = q) w1 W2 := by rw [hW2]; exact (Mods.refl _ _).setCell q 1 _ rfl
       have HX1 := hid (RY.side hx hq2 (fun b hb => by have h : b = q := hb; have := HPQ.out; omega))
       have HZ2 := hid hz2
       have HM2 : Hid (Mods (fun b => b = p ∨ b = q) w W2) := hid ((hm.weak (al' := fun b => b = p ∨ b = q) (fun b hb => .inl (.inl hb))).trans hq2 (fun b hb => .inl (.inr hb)))
       have hW2' := hW2.symm
       clear hx hm hz1 hz2 hq2 hW2 HX0 E0))
  (try rw [hW2'])
  have y02 : W2.drew.cell? ⟨q, 0, none⟩ = some (.pointer (some ⟨p, 0, none⟩)) := cell_of HZ2.out (i := 0) rfl
  have HX2 := hid (RX.later HX1.out (Below.refl _ W2).drew)
  clear HX1 hW2' y0 y1 f1
  go_region_held3 (fun w' => w'.cell? ⟨q, 0, none⟩ = some (.pointer (some ⟨p, 0, none⟩))) ((first | exact y02 | exact HS1.out | exact HS2.out)) ((first
    | (go_at_call 37
       refine (RU32_is E1.out HX2.out).mono ?_
       rintro e w3 ⟨rfl, hx, hm⟩
       have HX3 := hid hx
       have HM3 := hid hm
       have HS1 := hid (hm.cell y02 HQP.out)
       clear hx hm HX2 E1)
    | (go_at_call 37
       refine (RU32_is E2.out HX3.out).mono ?_
       rintro e w4 ⟨rfl, hx, hm⟩
       have HX4 := hid hx
       have HM4 := hid (HM3.out.tr hm)
       have HS2 := hid (hm.cell HS1.out HQP.out)
       clear hx hm HX3 E2)))
  have hz4 : w4.heap[q]? = some (.cells (rgC p x 0 0 0 0 0 nilS nilS) 73 (0, 0)) := (HM4.out.block q (Array.getElem?_eq_some_iff.1 (show W2.drew.heap[q]? = _ from HZ2.out)).1 HQP.out).trans (show W2.drew.heap[q]? = _ from HZ2.out)
  have HZ4 := hid hz4
  have HMM : Hid (Mods (fun b => b = p ∨ b = q) w w4) := hid (HM2.out.drew.tr (HM4.out.weak (fun b hb => .inl (.inl hb))))
  have y0 := cell_of hz4 (i := 0) (v := .pointer (some ⟨p, 0, none⟩)) rfl
  have y1 := cell_of hz4 (i := 1) (v := .int .u32 x) rfl
  have HER := hid (RErr_any HX4.out)
  rw [HEE.out] at HER
  clear hz4 y02 HS1 HS2 HM2 HM3 HM4 HZ2
  by_cases h0 : EE = 0
  · subst h0
    by_cases h1 : kd = 0
    · subst h1
      by_cases h2 : vr = 2
      · subst h2
        have hO := HOO.out
        simp only [ne_eq, not_true_eq_false, if_false] at hO
        have HO := hid hO
        clear hO
        go_wp2_with (first
          | (go_at_call 39; refine HER.out.mono ?_; rintro e w5 ⟨rfl, hw5⟩; rw [hw5]; clear hw5))
        go_ret
        rw [← HO.out]
        exact ⟨⟨_, rfl, rfl⟩, HX4.out, HZ4.out, HMM.out⟩
      · have h2b : (vr != 2) = true := by simpa using h2
        have hO := HOO.out
        simp only [ne_eq, not_true_eq_false, if_false, h2, not_false_eq_true, if_true] at hO
        have HO := hid hO
        clear hO
        have HRF := hid (refused_new w4 x HUX.out [0, 2, 2] (isU_three (by unfold IsU; omega) (by unfold IsU; omega) (by unfold IsU; omega)) 3 rfl (by omega) 24 rfl)
        simp only [List.map_cons, List.map_nil, List.cons_append, List.nil_append] at HRF
        clear h2
        go_wp2_with (first
          | (go_at_call 39; refine HER.out.mono ?_; rintro e w5 ⟨rfl, hw5⟩; rw [hw5]; clear hw5)
          | (go_at_call 41
             refine HRF.out.mono ?_
             rintro e w6 h6
             obtain ⟨a6, c6, rfl, hy6, hc6, hb6⟩ := h6.by_ (nuL_isB 4 _)
             have hsz : w.heap.size ≤ w6.heap.size := Nat.le_trans HMM.out.size hb6.size
             have HW := hid (wrg_new (e := 31) hsz (hy6.weak (fun b hb _ => Nat.le_trans HMM.out.size hb)) (by rw [nuL_len]; rfl) hc6)
             have HB6 := hid (hb6.alloc hb6.size (.cells #[.int .i64 31, .slice a6 24 c6] 56))
             clear h6 hy6 hc6 hb6 hsz HRF))
        go_ret
        rw [← HO.out]
        exact ⟨⟨_, rfl, HW.out⟩, RX.later HX4.out HB6.out, (HB6.out.block q (Array.getElem?_eq_some_iff.1 HZ4.out).1).trans HZ4.out, HMM.out.below HB6.out⟩
    · have h1b : (kd != 0) = true := by simpa using h1
      have hO := HOO.out
      simp only [ne_eq, not_true_eq_false, if_false, h1, not_false_eq_true, if_true] at hO
      have HO := hid hO
      clear hO
      clear h1
      go_wp2_with (first
        | (go_at_call 39; refine HER.out.mono ?_; rintro e w5 ⟨rfl, hw5⟩; rw [hw5]; clear hw5))
      go_ret
      rw [← HO.out]
      exact ⟨⟨_, rfl, rfl⟩, HX4.out, HZ4.out, HMM.out⟩
  · have h0b : (EE != 0) = true := by simpa using h0
    have hO := HOO.out
    simp only [ne_eq, h0, not_false_eq_true, if_true] at hO
    have HO := hid hO
    clear hO
    clear h0
    go_wp2_with (first
      | (go_at_call 39; refine HER.out.mono ?_; rintro e w5 ⟨rfl, hw5⟩; rw [hw5]; clear hw5))
    go_ret
    rw [← HO.out]
    exact ⟨⟨_, rfl, rfl⟩, HX4.out, HZ4.out, HMM.out⟩
end Go.Proofs.YtbfdkbdjipiliaaDoor

/- Reading a call: up to its arguments. -/
namespace Go.Proofs.YtbfdkbdjipiliaaDoor
open Go.RowKit Go.Maps
set_option linter.unusedVariables false

theorem there_of {w : World} {g : Nat} {C : Array Value} {t : TypeId} (h : w.heap[g]? = some (.cells C t (0, 0))) {o n : Nat} (hn : o + n ≤ C.size) : w.there g o n := fun j hj => by
  have hlt : o + j < C.size := by omega
  have := cell_of h (i := o + j) (v := C[o + j]) (by simp [hlt])
  exact ⟨by rw [this]; rfl, froz_of h _⟩
theorem cntP_len (l : List Int) (k : Nat) (m : Nat) : (cntP l k m).v.length ≤ m := by
  unfold cntP
  cases h : numQ l k 4 with
  | none => simp
  | some v =>
    simp only
    split
    · simp
    · unfold fixP
      split
      · simp
      · split
        · simp
        · split
          · simp; omega
          · simp
theorem rdBy_len (r : Rd) (m : Nat) : (rdBy m r).1.length ≤ m := by
  unfold rdBy ansV
  simp only
  split
  · split
    · exact cntP_len _ _ _
    · simp
  · simp
theorem rdBy_isB {r : Rd} (m : Int) (h : ∀ x ∈ r.l, IsB x) : ∀ x ∈ (rdBy m r).1, IsB x := by
  unfold rdBy ansV
  simp only
  split
  · split
    · intro x hx
      unfold cntP at hx
      cases hq : numQ r.l r.k 4 with
      | none => rw [hq] at hx; simp at hx
      | some v =>
        rw [hq] at hx
        simp only at hx
        split at hx
        · simp at hx
        · unfold fixP at hx
          split at hx
          · simp at hx
          · split at hx
            · simp at hx
            · split at hx
              · exact h x (List.mem_of_mem_drop (List.mem_of_mem_take hx))
              · simp at hx
    · intro x hx; simp at hx
  · intro x hx; simp at hx
theorem nany_three {P : Program} {md : Region.Mode} {ops : Array Oper} {Q : Exit → Act → World → Prop} {S : World → Prop} {fuel : Nat} {listed : Array Bool} {a : Act} {w : World} (i j k : Nat) (hr : Region.ready md ops listed = [i, j, k])
    (h : wpOp P ops Q i (fun a' w' => S w' ∧ wpAnyH P md ops Q S fuel (listed.setIfInBounds i true) a' w') a w) (h' : wpOp P ops Q j (fun a' w' => S w' ∧ wpAnyH P md ops Q S fuel (listed.setIfInBounds j true) a' w') a w) (h'' : wpOp P ops Q k (fun a' w' => S w' ∧ wpAnyH P md ops Q S fuel (listed.setIfInBounds k true) a' w') a w) : wpAnyH P md ops Q S (fuel + 1) listed a w :=
  wpAnyH_all hr (by simp) (fun m hm => by simp at hm; rcases hm with rfl | rfl | rfl; exact h; exact h'; exact h'')
/-- What a region leaves, in whatever order it went. -/
theorem wp_mid {P : Program} {id : Nat} {ops : Array Oper} {b : Bool} {Q : Exit → Act → World → Prop} {a : Act} {w : World} (R : Act → Act → World → Prop) (h : (Code.region id ops b).wp P (fun e a' w' => e = .normal ∧ R a a' w') a w) (h2 : ∀ a' w', R a a' w' → Q .normal a' w') : (Code.region id ops b).wp P Q a w :=
  Code.wp_mono (fun e a' w' hh => by obtain ⟨rfl, hr⟩ := hh; exact h2 _ _ hr) h
abbrev prZ : Array Value := #[.int .u32 0, nilS]
/-- Proofs that are being read. -/
structure PJ (w0 w : World) (p : Nat) (r : Rd) (ga gb : Option Nat) (ys : List (Option Addr × List Int)) : Prop where
  x : RY w 103 p r
  m : Mods (fun b => b = p) w0 w
  hp : p < w0.heap.size
  a : ∀ g, ga = some g → w0.heap.size ≤ g ∧ w.heap[g]? = some (.cells prZ 80 (0, 0))
  b : ∀ g, gb = some g → w0.heap.size ≤ g ∧ w.heap[g]? = some (.cells prZ 80 (0, 0))
  ne : ∀ g g', ga = some g → gb = some g' → g ≠ g'
  y : ∀ y ∈ ys, By w (New w0) y.1 y.2
theorem PJ.call {w0 w w' : World} {p : Nat} {r r' : Rd} {ga gb : Option Nat} {ys : List (Option Addr × List Int)} (h : PJ w0 w p r ga gb ys) (hx : RY w' 103 p r') (hm : Mods (fun b => b = p) w w') {a : Option Addr} {l : List Int} (hy : By w' (New w) a l) : PJ w0 w' p r' ga gb (ys ++ [(a, l)]) :=
  ⟨hx, h.m.tr hm, h.hp, fun g e => ⟨(h.a g e).1, (hm.block g (Array.getElem?_eq_some_iff.1 (h.a g e).2).1 (fun e2 => by have := (h.a g e).1; have := h.hp; omega)).trans (h.a g e).2⟩, fun g e => ⟨(h.b g e).1, (hm.block g (Array.getElem?_eq_some_iff.1 (h.b g e).2).1 (fun e2 => by have := (h.b g e).1; have := h.hp; omega)).trans (h.b g e).2⟩, h.ne, fun y hy2 => by
    rcases List.mem_append.1 hy2 with h1 | h1
    · exact (h.y y h1).side hm (fun b hb _ e => by have := h.hp; have h2 : w0.heap.size ≤ b := hb; omega)
    · simp only [List.mem_singleton] at h1
      subst h1
      exact hy.weak (fun b hb _ => Nat.le_trans h.m.size hb)⟩
theorem PJ.later {w0 w w' : World} {p : Nat} {r : Rd} {ga gb : Option Nat} {ys : List (Option Addr × List Int)} (h : PJ w0 w p r ga gb ys) (hb : Below w.heap.size w w') : PJ w0 w' p r ga gb ys :=
  ⟨RX.later h.x hb, h.m.below hb, h.hp, fun g e => ⟨(h.a g e).1, (hb.block g (Array.getElem?_eq_some_iff.1 (h.a g e).2).1).trans (h.a g e).2⟩, fun g e => ⟨(h.b g e).1, (hb.block g (Array.getElem?_eq_some_iff.1 (h.b g e).2).1).trans (h.b g e).2⟩, h.ne, fun y hy => (h.y y hy).later hb⟩
theorem PJ.newA {w0 w : World} {p : Nat} {r : Rd} {gb : Option Nat} {ys : List (Option Addr × List Int)} (h : PJ w0 w p r none gb ys) : PJ w0 (w.alloc (.cells prZ 80)) p r (some w.heap.size) gb ys := by
  have h1 := h.later (below_alloc (Below.refl _ _) (Nat.le_refl _) (.cells prZ 80))
  exact ⟨h1.x, h1.m, h1.hp, fun g e => by cases e; exact ⟨h.m.size, alloc_new w _⟩, h1.b, fun g g' e e' => by cases e; have := (Array.getElem?_eq_some_iff.1 (h.b g' e').2).1; omega, h1.y⟩
theorem PJ.newB {w0 w : World} {p : Nat} {r : Rd} {ga : Option Nat} {ys : List (Option Addr × List Int)} (h : PJ w0 w p r ga none ys) : PJ w0 (w.alloc (.cells prZ 80)) p r ga (some w.heap.size) ys := by
  have h1 := h.later (below_alloc (Below.refl _ _) (Nat.le_refl _) (.cells prZ 80))
  exact ⟨h1.x, h1.m, h1.hp, h1.a, fun g e => by cases e; exact ⟨h.m.size, alloc_new w _⟩, fun g g' e e' => by cases e'; have := (Array.getElem?_eq_some_iff.1 (h.a g e).2).1; omega, h1.y⟩
/-- Both proofs read and laid. -/
structure PE (w0 w : World) (p : Nat) (r : Rd) (ga gb : Nat) (k1 : Int) (a1 : Option Addr) (c1 : Nat) (l1 : List Int) (m1 : Nat) (k2 : Int) (a2 : Option Addr) (c2 : Nat) (l2 : List Int) (m2 : Nat) : Prop where
  x : RY w 103 p r
  m : Mods (fun b => b = p) w0 w
  a : w0.heap.size ≤ ga ∧ w.heap[ga]? = some (.cells #[.int .u32 k1, .slice a1 m1 c1] 80 (0, 0))
  b : w0.heap.size ≤ gb ∧ w.heap[gb]? = some (.cells #[.int .u32 k2, .slice a2 m2 c2] 80 (0, 0))
  y1 : By w (New w0) a1 l1
  y2 : By w (New w0) a2 l2
theorem PJ.lay {w0 w : World} {p : Nat} {r : Rd} {ga gb : Nat} {a1 a2 : Option Addr} {l1 l2 : List Int} (h : PJ w0 w p r (some ga) (some gb) [(a1, l1), (a2, l2)]) (k1 k2 : Int) (c1 m1 c2 m2 : Nat) :
    PE w0 ((w.setRow ga #[.int .u32 k1, .slice a1 m1 c1]).setRow gb #[.int .u32 k2, .slice a2 m2 c2]) p r ga gb k1 a1 c1 l1 m1 k2 a2 c2 l2 m2 ∧ (w.setRow ga #[.int .u32 k1, .slice a1 m1 c1]).heap[gb]? = some (.cells prZ 80 (0, 0)) := by
  obtain ⟨ha, za⟩ := h.a ga rfl
  obtain ⟨hb, zb⟩ := h.b gb rfl
  have hne := h.ne ga gb rfl rfl
  have hp := h.hp
  obtain ⟨W1, hW1⟩ : ∃ W, W = w.setRow ga #[.int .u32 k1, .slice a1 m1 c1] := ⟨_, rfl⟩
  have q1 := setRow_mods w ga #[.int .u32 k1, .slice a1 m1 c1]
  have z1 : (w.setRow ga #[.int .u32 k1, .slice a1 m1 c1]).heap[ga]? = some (.cells #[.int .u32 k1, .slice a1 m1 c1] 80 (0, 0)) := setRow_heap _ ga _ _ _ _ za
  rw [← hW1] at q1 z1 ⊢
  have zb1 := (q1.block gb (Array.getElem?_eq_some_iff.1 zb).1 (fun e => hne e.symm)).trans zb
  have q2 := setRow_mods W1 gb #[.int .u32 k2, .slice a2 m2 c2]
  have z2 : (W1.setRow gb #[.int .u32 k2, .slice a2 m2 c2]).heap[gb]? = some (.cells #[.int .u32 k2, .slice a2 m2 c2] 80 (0, 0)) := setRow_heap _ gb _ _ _ _ zb1
  have y1 := (h.y (a1, l1) (by simp)).off za (by decide)
  have y2 := (h.y (a2, l2) (by simp)).off za (by decide)
  have y1' := (y1.side q1 (fun b hb _ e => hb.2 e)).off zb1 (by decide)
  have y2' := (y2.side q1 (fun b hb _ e => hb.2 e)).off zb1 (by decide)
  exact ⟨⟨RY.side (RY.side h.x q1 (fun b hb => by have e : b = ga := hb; omega)) q2 (fun b hb => by have e : b = gb := hb; omega),
    (h.m.trans q1 (fun b hb => .inr (by have e : b = ga := hb; omega))).trans q2 (fun b hb => .inr (by have e : b = gb := hb; omega)),
    ⟨ha, (q2.block ga (Array.getElem?_eq_some_iff.1 z1).1 hne).trans z1⟩, ⟨hb, z2⟩,
    (y1'.side q2 (fun b hb _ e => hb.2 e)).weak (fun b hb _ => hb.1.1), (y2'.side q2 (fun b hb _ e => hb.2 e)).weak (fun b hb _ => hb.1.1)⟩, zb1⟩
theorem readProof_is {w : World} {p : Nat} {r r' : Rd} {k : Int} {v : List Int} {m : Nat} (e : prfR r = (k, v, r')) (hm : v.length = m) (h : RY w 103 p r) :
    Calls Tryd.prog 38 #[.pointer (some ⟨p, 0, none⟩)] w fun e w' => ∃ x, e = .returned x ∧ ∃ a c, x = .agg #[.int .u32 k, .slice a m c] ∧ By w' (New w) a v ∧ m ≤ c ∧ RY w' 103 p r' ∧ Mods (fun b => b = p) w w' := by
  have := readProof_any h
  rw [e] at this
  simp only [hm] at this
  exact this.mono (fun e w' ⟨⟨a, c, h1, h2, h3⟩, h4, h5⟩ => ⟨_, h1, a, c, rfl, h2, h3, h4, h5⟩)
end Go.Proofs.YtbfdkbdjipiliaaDoor
