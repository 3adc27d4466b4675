/- Reading a call: up to its arguments. -/
import Derived.Test.YtbfdkbdjipiliaaDoorYiD
namespace Go.Proofs.YtbfdkbdjipiliaaDoor
open Go.RowKit Go.Maps
set_option linter.unusedVariables false

def upP (r : Rd) : Ca × Er × Rd :=
  match (opnP r).2.1 with
  | .no =>
    let pg := rd32 (opnP r).2.2
    let vs := rd32 pg.2
    let pc := rd32 vs.2
    let a := prfR pc.2
    let v := prfR a.2.2
    let c := calP a.1 a.2.1 v.1 v.2.1
    if v.2.2.e ≠ 0 then (⟨(opnP r).1, 0, 0, 0, Cr0, []⟩, .num v.2.2.e, v.2.2)
    else if c.1 ≠ 0 then (⟨(opnP r).1, 0, 0, 0, Cr0, []⟩, .wrg 32 (nuL 4 [(opnP r).1, 1, 1, 1, c.1]), v.2.2)
    else (⟨(opnP r).1, pg.1, vs.1, pc.1, c.2, []⟩, if askP pg.1 vs.1 pc.1 = 0 then .no else .num (askP pg.1 vs.1 pc.1), v.2.2)
  | e => (⟨(opnP r).1, 0, 0, 0, Cr0, []⟩, e, (opnP r).2.2)
/-- What reading up to the arguments leaves. -/
def UpPost (w : World) (p q : Nat) (R : Ca × Er × Rd) (e : Ending) (w' : World) : Prop :=
  (∃ v, e = .returned v ∧ ErAt w' w.heap.size v R.2.1) ∧ RY w' 103 p R.2.2 ∧ Mods (fun b => b = p ∨ b = q) w w' ∧
  ∃ pr v k u g ag n cg, w'.heap[q]? = some (.cells (rgC p R.1.xid pr v k u g (.slice ag n cg) nilS) 73 (0, 0)) ∧ (R.2.1 = .no → pr = R.1.prog ∧ v = R.1.vers ∧ k = R.1.proc ∧ u = R.1.cr.uid ∧ g = R.1.cr.gid ∧ UT w' (New w) ag R.1.cr.gids ∧ R.1.cr.gids.length = n ∧ n ≤ cg)
theorem calP_u (k1 : Int) (l1 : List Int) (k2 : Int) (l2 : List Int) : IsU (calP k1 l1 k2 l2).1 := by
  have h1 : (clm k1 l1).1 = 0 ∨ (clm k1 l1).1 = 1 ∨ (clm k1 l1).1 = 5 := by
    have : (crdP k1 l1).1 = 0 ∨ (crdP k1 l1).1 = 1 ∨ (crdP k1 l1).1 = 5 := by
      unfold crdP
      split
      · split <;> simp
      · split
        · cases sysP l1 <;> simp
        · simp
    unfold clm
    split
    · exact this
    · exact this
  unfold calP whyP IsU
  split
  · simp
  · split
    · omega
    · omega
/-- What stands behind both proofs. -/
def upQ (x pg vs pc : Int) (E : Int) (c : Int × Cr) (r : Rd) : Ca × Er × Rd :=
  if E ≠ 0 then (⟨x, 0, 0, 0, Cr0, []⟩, .num E, r) else if c.1 ≠ 0 then (⟨x, 0, 0, 0, Cr0, []⟩, .wrg 32 (nuL 4 [x, 1, 1, 1, c.1]), r) else (⟨x, pg, vs, pc, c.2, []⟩, if askP pg vs pc = 0 then .no else .num (askP pg vs pc), r)
set_option maxRecDepth 100000 in
set_option maxHeartbeats 16000000 in
theorem upTo_any {w : World} {p q : Nat} {r : Rd} (h : RY w 103 p r) (hI : ∀ x ∈ r.l, IsB x) (hq : w.heap[q]? = some (.cells (rgC p 0 0 0 0 0 0 nilS nilS) 73 (0, 0))) (hpq : p < q) :
    Calls Tryd.prog 23 #[.pointer (some ⟨q, 0, none⟩)] w fun e w' => UpPost w p q (upP r) e w' := by
  have HO := hid (opening_any h hI hq hpq)
  have hux : IsU (opnP r).1 := by unfold opnP; simp only; exact rd32_u hI
  have hl3 : (opnP r).2.2.l = r.l := by unfold opnP; simp only; rw [rd32_l, rd32_l, rd32_l]
  obtain ⟨⟨x, er, r3⟩, ho⟩ : ∃ o, opnP r = o := ⟨_, rfl⟩
  rw [ho] at HO hux hl3
  simp only at HO hux hl3
  have hql := (Array.getElem?_eq_some_iff.1 hq).1
  have HPQ := hid hpq
  have HQL := hid hql
  have HW0 := hid (Nat.lt_of_lt_of_le hpq (Nat.le_of_lt hql))
  obtain ⟨UU, hUU⟩ : ∃ u, upP r = u := ⟨_, rfl⟩
  rw [hUU]
  unfold upP at hUU
  rw [ho] at hUU
  simp only at hUU
  have HUU := hid hUU
  clear hUU h hq hpq hql
  cases er with
  | num E =>
    clear hl3 hux hI
    go_enter Tryd.func23, Tryd.ntmps23
    go_wp2_with (go_at_call 36; refine HO.out.mono ?_; rintro e w1 ⟨⟨v1, rfl, hv1⟩, hx1, hq1, hm1⟩; obtain rfl := hv1; have HX1 := hid hx1; have HQ1 := hid hq1; have HM1 := hid hm1; clear hx1 hq1 hm1 HO)
    go_ret
    rw [← HUU.out]
    exact ⟨⟨_, rfl, rfl⟩, HX1.out, HM1.out, 0, 0, 0, 0, 0, none, 0, 0, HQ1.out, fun e => nomatch e⟩
  | wrg E L =>
    clear hl3 hux hI
    go_enter Tryd.func23, Tryd.ntmps23
    go_wp2_with (go_at_call 36; refine HO.out.mono ?_; rintro e w1 ⟨⟨v1, rfl, hv1⟩, hx1, hq1, hm1⟩; obtain ⟨g1, a1, n1, c1, rfl, hw1⟩ := hv1; have HV1 := hid hw1; clear hw1; have HX1 := hid hx1; have HQ1 := hid hq1; have HM1 := hid hm1; clear hx1 hq1 hm1 HO)
    go_ret
    rw [← HUU.out]
    exact ⟨⟨_, rfl, g1, a1, n1, c1, rfl, HV1.out⟩, HX1.out, HM1.out, 0, 0, 0, 0, 0, none, 0, 0, HQ1.out, fun e => nomatch e⟩
  | no =>
    obtain ⟨⟨pg, r4⟩, e4⟩ : ∃ a, rd32 r3 = a := ⟨_, rfl⟩
    obtain ⟨⟨vs, r5⟩, e5⟩ : ∃ a, rd32 r4 = a := ⟨_, rfl⟩
    obtain ⟨⟨pc, r6⟩, e6⟩ : ∃ a, rd32 r5 = a := ⟨_, rfl⟩
    obtain ⟨⟨k1, l1, r7⟩, e7⟩ : ∃ a, prfR r6 = a := ⟨_, rfl⟩
    obtain ⟨⟨k2, l2, r8⟩, e8⟩ : ∃ a, prfR r7 = a := ⟨_, rfl⟩
    have hU2 : upQ x pg vs pc r8.e (calP k1 l1 k2 l2) r8 = UU := by
      have := HUU.out
      simp only [e4, e5, e6, e7, e8] at this
      exact this
    have HU2 := hid hU2
    have hll4 : r4.l = r.l := by have := rd32_l r3; rw [e4] at this; exact this.trans hl3
    have hll5 : r5.l = r.l := by have := rd32_l r4; rw [e5] at this; exact this.trans hll4
    have hll6 : r6.l = r.l := by have := rd32_l r5; rw [e6] at this; exact this.trans hll5
    have hk1 : IsU k1 := by have := rd32_u (r := r6) (by rw [hll6]; exact hI); unfold prfR at e7; rw [(Prod.mk.inj e7).1] at this; exact this
    have hb1 : l1.length ≤ 400 := by have : (rdBy 400 (rd32 r6).2).1.length ≤ 400 := rdBy_len _ 400; unfold prfR at e7; rw [(Prod.mk.inj (Prod.mk.inj e7).2).1] at this; exact this
    obtain ⟨m1, hm1⟩ : ∃ m, l1.length = m := ⟨_, rfl⟩
    obtain ⟨m2, hm2⟩ : ∃ m, l2.length = m := ⟨_, rfl⟩
    have E4 := hid e4
    have E5 := hid e5
    have E6 := hid e6
    have E7 := hid e7
    have E8 := hid e8
    have HL1 := hid (And.intro hm1 hb1)
    have HL2 := hid hm2
    have HUX := hid hux
    clear hU2 HUU hll4 hll5 hll6 hk1 hb1 hm1 hm2 e4 e5 e6 e7 e8 hl3 hux hI
    go_enter Tryd.func23, Tryd.ntmps23
    go_upto_region 4 with (go_at_call 36; refine HO.out.mono ?_; rintro e w1 ⟨⟨v1, rfl, hv1⟩, hx1, hq1, hm1⟩; obtain rfl := hv1; have HX1 := hid hx1; have HQ1 := hid hq1; have HM1 := hid hm1; clear hx1 hq1 hm1 HO)
    have y0 : w1.drew.cell? ⟨q, 0, none⟩ = some (.pointer (some ⟨p, 0, none⟩)) := cell_of (show w1.drew.heap[q]? = _ from HQ1.out) (i := 0) rfl
    have qp : q ≠ p := by have := HPQ.out; omega
    have HQP := hid qp
    refine wp_mid (fun a a' w' => ∃ v4, a' = { a with tmps := (((((((((((((((((((((((((((a.tmps.setIfInBounds 14 (.pointer (some ⟨q, 0, none⟩))).setIfInBounds 15 (.pointer (some ⟨q, 0, none⟩))).setIfInBounds 16 (.pointer (some ⟨q, 0, none⟩))).setIfInBounds 17 (.pointer (some ⟨q, 0, none⟩))).setIfInBounds 18 (.pointer (some ⟨q, 0, none⟩))).setIfInBounds 19 (.pointer (some ⟨q, 0, none⟩))).setIfInBounds 20 (.pointer (some ⟨p, 0, none⟩))).setIfInBounds 22 (.pointer (some ⟨q, 0, none⟩))).setIfInBounds 23 (.pointer (some ⟨q, 0, none⟩))).setIfInBounds 24 (.pointer (some ⟨q, 0, none⟩))).setIfInBounds 25 (.pointer (some ⟨p, 0, none⟩))).setIfInBounds 27 (.pointer (some ⟨q, 0, none⟩))).setIfInBounds 28 (.pointer (some ⟨q, 0, none⟩))).setIfInBounds 29 (.pointer (some ⟨q, 0, none⟩))).setIfInBounds 30 (.pointer (some ⟨p, 0, none⟩))).setIfInBounds 21 (.int .u32 pg)).setIfInBounds 26 (.int .u32 vs)).setIfInBounds 31 (.int .u32 pc)).setIfInBounds 32 (.pointer (some ⟨q, 0, none⟩))).setIfInBounds 33 (.pointer (some ⟨q, 1, none⟩))).setIfInBounds 34 (.pointer (some ⟨q, 2, none⟩))).setIfInBounds 35 (.pointer (some ⟨q, 0, none⟩))).setIfInBounds 36 (.pointer (some ⟨q, 1, none⟩))).setIfInBounds 37 (.pointer (some ⟨q, 3, none⟩))).setIfInBounds 38 (.pointer (some ⟨q, 0, none⟩))).setIfInBounds 39 (.pointer (some ⟨q, 1, none⟩))).setIfInBounds 40 (.pointer (some ⟨q, 4, none⟩))) } ∧ RY w' 103 p r6 ∧ w'.heap[q]? = some (.cells (rgC p x pg vs pc 0 0 nilS nilS) 73 (0, 0)) ∧ Mods (fun b => b = p ∨ b = q) w1 w' ∧ v4 = (0 : Nat)) ?_ ?_
    · refine wp_region_held_drew (S := fun W => W.cell? ⟨q, 0, none⟩ = some (.pointer (some ⟨p, 0, none⟩))) (by kernel_rfl) y0 (fun hS => ?_)
      obtain ⟨v0, hv0⟩ : ∃ W, W = w1.drew := ⟨_, rfl⟩
      rw [← hv0] at hS y0 ⊢
      have hX0 : RY v0 103 p r3 := by rw [hv0]; exact RX.later HX1.out (Below.refl _ w1).drew
      have hZ0 : v0.heap[q]? = some (.cells (rgC p x 0 0 0 0 0 nilS nilS) 73 (0, 0)) := by rw [hv0]; exact HQ1.out
      have hM0 : Mods (fun b => b = p ∨ b = q) w1 v0 := by rw [hv0]; exact (Mods.refl _ w1).drew
      clear hv0
      refine nany_take 0 14 (.pointer (some ⟨q, 0, none⟩)) rfl rfl (by kernel_rfl) (by kernel_rfl) (by kernel_rfl) (fun _ _ _ h => nomatch h.1) (Or.inl ⟨by rfl, ?_⟩) y0 ?_
      · rintro w' hS'
        go_simp
      try simp only [List.setIfInBounds_toArray, List.set_cons_zero, List.set_cons_succ]
      refine nany_take 1 15 (.pointer (some ⟨q, 0, none⟩)) rfl rfl (by kernel_rfl) (by kernel_rfl) (by kernel_rfl) (fun _ _ _ h => nomatch h.1) (Or.inl ⟨by rfl, ?_⟩) y0 ?_
      · rintro w' hS'
        go_simp
      try simp only [List.setIfInBounds_toArray, List.set_cons_zero, List.set_cons_succ]
      refine nany_take 2 16 (.pointer (some ⟨q, 0, none⟩)) rfl rfl (by kernel_rfl) (by kernel_rfl) (by kernel_rfl) (fun _ _ _ h => nomatch h.1) (Or.inl ⟨by rfl, ?_⟩) y0 ?_
      · rintro w' hS'
        go_simp
      try simp only [List.setIfInBounds_toArray, List.set_cons_zero, List.set_cons_succ]
      refine nany_take 3 17 (.pointer (some ⟨q, 0, none⟩)) rfl rfl (by kernel_rfl) (by kernel_rfl) (by kernel_rfl) (fun _ _ _ h => nomatch h.1) (Or.inl ⟨by rfl, ?_⟩) y0 ?_
      · rintro w' hS'
        go_simp
      try simp only [List.setIfInBounds_toArray, List.set_cons_zero, List.set_cons_succ]
      refine nany_take 4 18 (.pointer (some ⟨q, 0, none⟩)) rfl rfl (by kernel_rfl) (by kernel_rfl) (by kernel_rfl) (fun _ _ _ h => nomatch h.1) (Or.inl ⟨by rfl, ?_⟩) y0 ?_
      · rintro w' hS'
        go_simp
      try simp only [List.setIfInBounds_toArray, List.set_cons_zero, List.set_cons_succ]
      refine nany_take 5 19 (.pointer (some ⟨q, 0, none⟩)) rfl rfl (by kernel_rfl) (by kernel_rfl) (by kernel_rfl) (fun _ _ _ h => nomatch h.1) (Or.inl ⟨by rfl, ?_⟩) y0 ?_
      · rintro w' hS'
        go_simp
      try simp only [List.setIfInBounds_toArray, List.set_cons_zero, List.set_cons_succ]
      refine nany_take 6 20 (.pointer (some ⟨p, 0, none⟩)) rfl rfl (by kernel_rfl) (by kernel_rfl) (by kernel_rfl) (fun _ _ _ h => nomatch h.1) (Or.inl ⟨by rfl, ?_⟩) y0 ?_
      · rintro w' hS'
        have y0 : w'.cell? ⟨q, 0, none⟩ = some (.pointer (some ⟨p, 0, none⟩)) := hS'
        go_simp
      try simp only [List.setIfInBounds_toArray, List.set_cons_zero, List.set_cons_succ]
      refine nany_take 8 22 (.pointer (some ⟨q, 0, none⟩)) rfl rfl (by kernel_rfl) (by kernel_rfl) (by kernel_rfl) (fun _ _ _ h => nomatch h.1) (Or.inl ⟨by rfl, ?_⟩) y0 ?_
      · rintro w' hS'
        go_simp
      try simp only [List.setIfInBounds_toArray, List.set_cons_zero, List.set_cons_succ]
      refine nany_take 9 23 (.pointer (some ⟨q, 0, none⟩)) rfl rfl (by kernel_rfl) (by kernel_rfl) (by kernel_rfl) (fun _ _ _ h => nomatch h.1) (Or.inl ⟨by rfl, ?_⟩) y0 ?_
      · rintro w' hS'
        go_simp
      try simp only [List.setIfInBounds_toArray, List.set_cons_zero, List.set_cons_succ]
      refine nany_take 10 24 (.pointer (some ⟨q, 0, none⟩)) rfl rfl (by kernel_rfl) (by kernel_rfl) (by kernel_rfl) (fun _ _ _ h => nomatch h.1) (Or.inl ⟨by rfl, ?_⟩) y0 ?_
      · rintro w' hS'
        go_simp
      try simp only [List.setIfInBounds_toArray, List.set_cons_zero, List.set_cons_succ]
      refine nany_take 11 25 (.pointer (some ⟨p, 0, none⟩)) rfl rfl (by kernel_rfl) (by kernel_rfl) (by kernel_rfl) (fun _ _ _ h => nomatch h.1) (Or.inl ⟨by rfl, ?_⟩) y0 ?_
      · rintro w' hS'
        have y0 : w'.cell? ⟨q, 0, none⟩ = some (.pointer (some ⟨p, 0, none⟩)) := hS'
        go_simp
      try simp only [List.setIfInBounds_toArray, List.set_cons_zero, List.set_cons_succ]
      refine nany_take 13 27 (.pointer (some ⟨q, 0, none⟩)) rfl rfl (by kernel_rfl) (by kernel_rfl) (by kernel_rfl) (fun _ _ _ h => nomatch h.1) (Or.inl ⟨by rfl, ?_⟩) y0 ?_
      · rintro w' hS'
        go_simp
      try simp only [List.setIfInBounds_toArray, List.set_cons_zero, List.set_cons_succ]
      refine nany_take 14 28 (.pointer (some ⟨q, 0, none⟩)) rfl rfl (by kernel_rfl) (by kernel_rfl) (by kernel_rfl) (fun _ _ _ h => nomatch h.1) (Or.inl ⟨by rfl, ?_⟩) y0 ?_
      · rintro w' hS'
        go_simp
      try simp only [List.setIfInBounds_toArray, List.set_cons_zero, List.set_cons_succ]
      refine nany_take 15 29 (.pointer (some ⟨q, 0, none⟩)) rfl rfl (by kernel_rfl) (by kernel_rfl) (by kernel_rfl) (fun _ _ _ h => nomatch h.1) (Or.inl ⟨by rfl, ?_⟩) y0 ?_
      · rintro w' hS'
        go_simp
      try simp only [List.setIfInBounds_toArray, List.set_cons_zero, List.set_cons_succ]
      refine nany_take 16 30 (.pointer (some ⟨p, 0, none⟩)) rfl rfl (by kernel_rfl) (by kernel_rfl) (by kernel_rfl) (fun _ _ _ h => nomatch h.1) (Or.inl ⟨by rfl, ?_⟩) y0 ?_
      · rintro w' hS'
        have y0 : w'.cell? ⟨q, 0, none⟩ = some (.pointer (some ⟨p, 0, none⟩)) := hS'
        go_simp
      try simp only [List.setIfInBounds_toArray, List.set_cons_zero, List.set_cons_succ]
      refine nany_one 7 (by kernel_rfl) ?_
      refine nop_callE 21 (f := 37) (args := #[.pointer (some ⟨p, 0, none⟩)]) (R := fun v w' => v = .int .u32 pg ∧ RY w' 103 p r4 ∧ Mods (fun b => b = p) v0 w') rfl (by rfl) rfl (by go_simp) ((RU32_is E4.out hX0).mono (fun e w' ⟨h1, h2, h3⟩ => ⟨_, h1, rfl, h2, h3⟩)) ?_
      rintro v w2 ⟨rfl, hX1, hm⟩
      have y0 := hm.cell y0 HQP.out
      have hZ1 := (hm.block q (Array.getElem?_eq_some_iff.1 hZ0).1 HQP.out).trans hZ0
      have hM1 := hM0.tr (hm.weak (al' := fun b => b = p ∨ b = q) (fun b hb => .inl (.inl hb)))
      clear hm
      refine ⟨y0, ?_⟩
      try simp only [List.setIfInBounds_toArray, List.set_cons_zero, List.set_cons_succ]
      refine nany_one 12 (by kernel_rfl) ?_
      refine nop_callE 26 (f := 37) (args := #[.pointer (some ⟨p, 0, none⟩)]) (R := fun v w' => v = .int .u32 vs ∧ RY w' 103 p r5 ∧ Mods (fun b => b = p) w2 w') rfl (by rfl) rfl (by go_simp) ((RU32_is E5.out hX1).mono (fun e w' ⟨h1, h2, h3⟩ => ⟨_, h1, rfl, h2, h3⟩)) ?_
      rintro v w3 ⟨rfl, hX2, hm⟩
      have y0 := hm.cell y0 HQP.out
      have hZ2 := (hm.block q (Array.getElem?_eq_some_iff.1 hZ1).1 HQP.out).trans hZ1
      have hM2 := hM1.tr (hm.weak (al' := fun b => b = p ∨ b = q) (fun b hb => .inl (.inl hb)))
      clear hm
      refine ⟨y0, ?_⟩
      try simp only [List.setIfInBounds_toArray, List.set_cons_zero, List.set_cons_succ]
      refine nany_one 17 (by kernel_rfl) ?_
      refine nop_callE 31 (f := 37) (args := #[.pointer (some ⟨p, 0, none⟩)]) (R := fun v w' => v = .int .u32 pc ∧ RY w' 103 p r6 ∧ Mods (fun b => b = p) w3 w') rfl (by rfl) rfl (by go_simp) ((RU32_is E6.out hX2).mono (fun e w' ⟨h1, h2, h3⟩ => ⟨_, h1, rfl, h2, h3⟩)) ?_
      rintro v w4 ⟨rfl, hX3, hm⟩
      have y0 := hm.cell y0 HQP.out
      have hZ3 := (hm.block q (Array.getElem?_eq_some_iff.1 hZ2).1 HQP.out).trans hZ2
      have hM3 := hM2.tr (hm.weak (al' := fun b => b = p ∨ b = q) (fun b hb => .inl (.inl hb)))
      clear hm
      refine ⟨y0, ?_⟩
      try simp only [List.setIfInBounds_toArray, List.set_cons_zero, List.set_cons_succ]
      refine nany_take 18 32 (.pointer (some ⟨q, 0, none⟩)) rfl rfl (by kernel_rfl) (by kernel_rfl) (by kernel_rfl) (fun _ _ _ h => nomatch h.1) (Or.inl ⟨by rfl, ?_⟩) y0 ?_
      · rintro w' hS'
        go_simp
      try simp only [List.setIfInBounds_toArray, List.set_cons_zero, List.set_cons_succ]
      refine nany_take 19 33 (.pointer (some ⟨q, 1, none⟩)) rfl rfl (by kernel_rfl) (by kernel_rfl) (by kernel_rfl) (fun _ _ _ h => nomatch h.1) (Or.inl ⟨by rfl, ?_⟩) y0 ?_
      · rintro w' hS'
        go_simp
      try simp only [List.setIfInBounds_toArray, List.set_cons_zero, List.set_cons_succ]
      refine nany_take 20 34 (.pointer (some ⟨q, 2, none⟩)) rfl rfl (by kernel_rfl) (by kernel_rfl) (by kernel_rfl) (fun _ _ _ h => nomatch h.1) (Or.inl ⟨by rfl, ?_⟩) y0 ?_
      · rintro w' hS'
        go_simp
      try simp only [List.setIfInBounds_toArray, List.set_cons_zero, List.set_cons_succ]
      refine nany_one 21 (by kernel_rfl) ?_
      refine nop_skip (w' := w4.setCell ⟨q, 2, none⟩ (.int .u32 pg)) rfl (by rfl) rfl (by have yy := cell_of hZ3 (i := 2) (v := .int .u32 0) rfl; have ff := froz_of hZ3 2; go_simp) ?_
      have hZ4 : (w4.setCell ⟨q, 2, none⟩ (.int .u32 pg)).heap[q]? = some (.cells (rgC p x pg 0 0 0 0 nilS nilS) 73 (0, 0)) := setc hZ3 2 _
      have hq4 : Mods (fun b => b = q) w4 (w4.setCell ⟨q, 2, none⟩ (.int .u32 pg)) := (Mods.refl _ _).setCell q 2 _ rfl
      obtain ⟨w5, hW4⟩ : ∃ W, W = w4.setCell ⟨q, 2, none⟩ (.int .u32 pg) := ⟨_, rfl⟩
      rw [← hW4] at hZ4 hq4 ⊢
      clear hW4
      have hX4 := RY.side hX3 hq4 (fun b hb => by have h : b = q := hb; have := HPQ.out; omega)
      have hM4 := hM3.trans hq4 (fun b hb => .inl (.inr hb))
      have y0 : w5.cell? ⟨q, 0, none⟩ = some (.pointer (some ⟨p, 0, none⟩)) := cell_of hZ4 (i := 0) rfl
      refine ⟨y0, ?_⟩
      try simp only [List.setIfInBounds_toArray, List.set_cons_zero, List.set_cons_succ]
      refine nany_take 22 35 (.pointer (some ⟨q, 0, none⟩)) rfl rfl (by kernel_rfl) (by kernel_rfl) (by kernel_rfl) (fun _ _ _ h => nomatch h.1) (Or.inl ⟨by rfl, ?_⟩) y0 ?_
      · rintro w' hS'
        go_simp
      try simp only [List.setIfInBounds_toArray, List.set_cons_zero, List.set_cons_succ]
      refine nany_take 23 36 (.pointer (some ⟨q, 1, none⟩)) rfl rfl (by kernel_rfl) (by kernel_rfl) (by kernel_rfl) (fun _ _ _ h => nomatch h.1) (Or.inl ⟨by rfl, ?_⟩) y0 ?_
      · rintro w' hS'
        go_simp
      try simp only [List.setIfInBounds_toArray, List.set_cons_zero, List.set_cons_succ]
      refine nany_take 24 37 (.pointer (some ⟨q, 3, none⟩)) rfl rfl (by kernel_rfl) (by kernel_rfl) (by kernel_rfl) (fun _ _ _ h => nomatch h.1) (Or.inl ⟨by rfl, ?_⟩) y0 ?_
      · rintro w' hS'
        go_simp
      try simp only [List.setIfInBounds_toArray, List.set_cons_zero, List.set_cons_succ]
      refine nany_one 25 (by kernel_rfl) ?_
      refine nop_skip (w' := w5.setCell ⟨q, 3, none⟩ (.int .u32 vs)) rfl (by rfl) rfl (by have yy := cell_of hZ4 (i := 3) (v := .int .u32 0) rfl; have ff := froz_of hZ4 3; go_simp) ?_
      have hZ5 : (w5.setCell ⟨q, 3, none⟩ (.int .u32 vs)).heap[q]? = some (.cells (rgC p x pg vs 0 0 0 nilS nilS) 73 (0, 0)) := setc hZ4 3 _
      have hq5 : Mods (fun b => b = q) w5 (w5.setCell ⟨q, 3, none⟩ (.int .u32 vs)) := (Mods.refl _ _).setCell q 3 _ rfl
      obtain ⟨w6, hW5⟩ : ∃ W, W = w5.setCell ⟨q, 3, none⟩ (.int .u32 vs) := ⟨_, rfl⟩
      rw [← hW5] at hZ5 hq5 ⊢
      clear hW5
      have hX5 := RY.side hX4 hq5 (fun b hb => by have h : b = q := hb; have := HPQ.out; omega)
      have hM5 := hM4.trans hq5 (fun b hb => .inl (.inr hb))
      have y0 : w6.cell? ⟨q, 0, none⟩ = some (.pointer (some ⟨p, 0, none⟩)) := cell_of hZ5 (i := 0) rfl
      refine ⟨y0, ?_⟩
      try simp only [List.setIfInBounds_toArray, List.set_cons_zero, List.set_cons_succ]
      refine nany_take 26 38 (.pointer (some ⟨q, 0, none⟩)) rfl rfl (by kernel_rfl) (by kernel_rfl) (by kernel_rfl) (fun _ _ _ h => nomatch h.1) (Or.inl ⟨by rfl, ?_⟩) y0 ?_
      · rintro w' hS'
        go_simp
      try simp only [List.setIfInBounds_toArray, List.set_cons_zero, List.set_cons_succ]
      refine nany_take 27 39 (.pointer (some ⟨q, 1, none⟩)) rfl rfl (by kernel_rfl) (by kernel_rfl) (by kernel_rfl) (fun _ _ _ h => nomatch h.1) (Or.inl ⟨by rfl, ?_⟩) y0 ?_
      · rintro w' hS'
        go_simp
      try simp only [List.setIfInBounds_toArray, List.set_cons_zero, List.set_cons_succ]
      refine nany_take 28 40 (.pointer (some ⟨q, 4, none⟩)) rfl rfl (by kernel_rfl) (by kernel_rfl) (by kernel_rfl) (fun _ _ _ h => nomatch h.1) (Or.inl ⟨by rfl, ?_⟩) y0 ?_
      · rintro w' hS'
        go_simp
      try simp only [List.setIfInBounds_toArray, List.set_cons_zero, List.set_cons_succ]
      refine nany_one 29 (by kernel_rfl) ?_
      refine nop_skip (w' := w6.setCell ⟨q, 4, none⟩ (.int .u32 pc)) rfl (by rfl) rfl (by have yy := cell_of hZ5 (i := 4) (v := .int .u32 0) rfl; have ff := froz_of hZ5 4; go_simp) ?_
      have hZ6 : (w6.setCell ⟨q, 4, none⟩ (.int .u32 pc)).heap[q]? = some (.cells (rgC p x pg vs pc 0 0 nilS nilS) 73 (0, 0)) := setc hZ5 4 _
      have hq6 : Mods (fun b => b = q) w6 (w6.setCell ⟨q, 4, none⟩ (.int .u32 pc)) := (Mods.refl _ _).setCell q 4 _ rfl
      obtain ⟨w7, hW6⟩ : ∃ W, W = w6.setCell ⟨q, 4, none⟩ (.int .u32 pc) := ⟨_, rfl⟩
      rw [← hW6] at hZ6 hq6 ⊢
      clear hW6
      have hX6 := RY.side hX5 hq6 (fun b hb => by have h : b = q := hb; have := HPQ.out; omega)
      have hM6 := hM5.trans hq6 (fun b hb => .inl (.inr hb))
      have y0 : w7.cell? ⟨q, 0, none⟩ = some (.pointer (some ⟨p, 0, none⟩)) := cell_of hZ6 (i := 0) rfl
      refine ⟨y0, ?_⟩
      try simp only [List.setIfInBounds_toArray, List.set_cons_zero, List.set_cons_succ]
      refine wpAnyH_done (by kernel_rfl) ?_ _
      exact ⟨rfl, 0, by kernel_rfl, hX6, hZ6, hM6, rfl⟩
    · rintro a' w4 ⟨_, rfl, hx4, hz4, hm4, _⟩
      simp only [List.setIfInBounds_toArray, List.set_cons_zero, List.set_cons_succ]
      have HX4 := hid hx4
      have HZ4 := hid hz4
      have HM4 := hid (HM1.out.tr hm4)
      clear hx4 hz4 hm4 y0 HX1 HQ1 HM1 qp
      go_upto_region 5 with fail
      have hlp : p < w4.drew.heap.size := HX4.out.lt
      refine wp_mid (fun a a' w' => ∃ ga gb a1 c1 a2 c2, a' = { a with tmps := ((((((((((((a.tmps.setIfInBounds 41 (.pointer (some ⟨q, 0, none⟩))).setIfInBounds 42 (.pointer (some ⟨q, 0, none⟩))).setIfInBounds 43 (.pointer (some ⟨q, 0, none⟩))).setIfInBounds 44 (.pointer (some ⟨p, 0, none⟩))).setIfInBounds 46 (.pointer (some ⟨q, 0, none⟩))).setIfInBounds 47 (.pointer (some ⟨q, 0, none⟩))).setIfInBounds 48 (.pointer (some ⟨q, 0, none⟩))).setIfInBounds 49 (.pointer (some ⟨p, 0, none⟩))).setIfInBounds 45 (.agg #[.int .u32 k1, .slice a1 m1 c1])).setIfInBounds 50 (.agg #[.int .u32 k2, .slice a2 m2 c2])).setIfInBounds 4 (.pointer (some ⟨ga, 0, none⟩))).setIfInBounds 5 (.pointer (some ⟨gb, 0, none⟩))) } ∧ m1 ≤ c1 ∧ m2 ≤ c2 ∧ PE w4.drew w' p r8 ga gb k1 a1 c1 l1 m1 k2 a2 c2 l2 m2) ?_ ?_
      · have y0 : w4.drew.cell? ⟨q, 0, none⟩ = some (.pointer (some ⟨p, 0, none⟩)) := cell_of (show w4.drew.heap[q]? = _ from HZ4.out) (i := 0) rfl
        refine wp_region_held_drew (S := fun W => W.cell? ⟨q, 0, none⟩ = some (.pointer (some ⟨p, 0, none⟩))) (by kernel_rfl) y0 (fun hS => ?_)
        obtain ⟨v0, hv0⟩ : ∃ W, W = w4.drew := ⟨_, rfl⟩
        have hZ0 : v0.heap[q]? = some (.cells (rgC p x pg vs pc 0 0 nilS nilS) 73 (0, 0)) := by rw [hv0]; exact HZ4.out
        have hX0 : RY v0 103 p r6 := by rw [hv0]; exact RX.later HX4.out (Below.refl _ w4).drew
        rw [← hv0] at hS y0 hlp ⊢
        have J0 : PJ v0 v0 p r6 none none [] := ⟨hX0, Mods.refl _ _, hlp, fun g e => (nomatch e), fun g e => (nomatch e), fun g g' e => (nomatch e), fun y hy => by simp at hy⟩
        have HYC : Hid (∀ W r' ga gb ys, PJ v0 W p r' ga gb ys → W.cell? ⟨q, 0, none⟩ = some (.pointer (some ⟨p, 0, none⟩))) := hid (fun W r' ga gb ys J => J.m.cell y0 HQP.out)
        clear hv0 hX0
        refine nany_take 0 41 (.pointer (some ⟨q, 0, none⟩)) rfl rfl (by kernel_rfl) (by kernel_rfl) (by kernel_rfl) (fun _ _ _ h => nomatch h.1) (Or.inl ⟨by rfl, ?_⟩) y0 ?_
        · rintro w' hS'
          go_simp
        try simp only [List.setIfInBounds_toArray, List.set_cons_zero, List.set_cons_succ]
        refine nany_take 1 42 (.pointer (some ⟨q, 0, none⟩)) rfl rfl (by kernel_rfl) (by kernel_rfl) (by kernel_rfl) (fun _ _ _ h => nomatch h.1) (Or.inl ⟨by rfl, ?_⟩) y0 ?_
        · rintro w' hS'
          go_simp
        try simp only [List.setIfInBounds_toArray, List.set_cons_zero, List.set_cons_succ]
        refine nany_take 2 43 (.pointer (some ⟨q, 0, none⟩)) rfl rfl (by kernel_rfl) (by kernel_rfl) (by kernel_rfl) (fun _ _ _ h => nomatch h.1) (Or.inl ⟨by rfl, ?_⟩) y0 ?_
        · rintro w' hS'
          go_simp
        try simp only [List.setIfInBounds_toArray, List.set_cons_zero, List.set_cons_succ]
        refine nany_take 3 44 (.pointer (some ⟨p, 0, none⟩)) rfl rfl (by kernel_rfl) (by kernel_rfl) (by kernel_rfl) (fun _ _ _ h => nomatch h.1) (Or.inl ⟨by rfl, ?_⟩) y0 ?_
        · rintro w' hS'
          have y0 : w'.cell? ⟨q, 0, none⟩ = some (.pointer (some ⟨p, 0, none⟩)) := hS'
          go_simp
        try simp only [List.setIfInBounds_toArray, List.set_cons_zero, List.set_cons_succ]
        refine nany_take 5 46 (.pointer (some ⟨q, 0, none⟩)) rfl rfl (by kernel_rfl) (by kernel_rfl) (by kernel_rfl) (fun _ _ _ h => nomatch h.1) (Or.inl ⟨by rfl, ?_⟩) y0 ?_
        · rintro w' hS'
          go_simp
        try simp only [List.setIfInBounds_toArray, List.set_cons_zero, List.set_cons_succ]
        refine nany_take 6 47 (.pointer (some ⟨q, 0, none⟩)) rfl rfl (by kernel_rfl) (by kernel_rfl) (by kernel_rfl) (fun _ _ _ h => nomatch h.1) (Or.inl ⟨by rfl, ?_⟩) y0 ?_
        · rintro w' hS'
          go_simp
        try simp only [List.setIfInBounds_toArray, List.set_cons_zero, List.set_cons_succ]
        refine nany_take 7 48 (.pointer (some ⟨q, 0, none⟩)) rfl rfl (by kernel_rfl) (by kernel_rfl) (by kernel_rfl) (fun _ _ _ h => nomatch h.1) (Or.inl ⟨by rfl, ?_⟩) y0 ?_
        · rintro w' hS'
          go_simp
        try simp only [List.setIfInBounds_toArray, List.set_cons_zero, List.set_cons_succ]
        refine nany_take 8 49 (.pointer (some ⟨p, 0, none⟩)) rfl rfl (by kernel_rfl) (by kernel_rfl) (by kernel_rfl) (fun _ _ _ h => nomatch h.1) (Or.inl ⟨by rfl, ?_⟩) y0 ?_
        · rintro w' hS'
          have y0 : w'.cell? ⟨q, 0, none⟩ = some (.pointer (some ⟨p, 0, none⟩)) := hS'
          go_simp
        try simp only [List.setIfInBounds_toArray, List.set_cons_zero, List.set_cons_succ]
        refine nany_three 4 10 11 (by kernel_rfl) ?_ ?_ ?_
        · refine nop_callE 45 (f := 38) (args := #[.pointer (some ⟨p, 0, none⟩)]) (R := fun v w' => ∃ a c, v = .agg #[.int .u32 k1, .slice a m1 c] ∧ By w' (New v0) a l1 ∧ m1 ≤ c ∧ RY w' 103 p r7 ∧ Mods (fun b => b = p) v0 w') rfl (by rfl) rfl (by go_simp) (readProof_is E7.out HL1.out.1 J0.x) ?_
          rintro v W1 ⟨a1, c1, rfl, hy, hc1, hx, hm⟩
          have J1 := J0.call hx hm hy
          clear hy hx hm
          refine ⟨HYC.out _ _ _ _ _ J1, ?_⟩
          try simp only [List.setIfInBounds_toArray, List.set_cons_zero, List.set_cons_succ]
          refine nany_three 9 10 11 (by kernel_rfl) ?_ ?_ ?_
          · refine nop_callE 50 (f := 38) (args := #[.pointer (some ⟨p, 0, none⟩)]) (R := fun v w' => ∃ a c, v = .agg #[.int .u32 k2, .slice a m2 c] ∧ By w' (New W1) a l2 ∧ m2 ≤ c ∧ RY w' 103 p r8 ∧ Mods (fun b => b = p) W1 w') rfl (by rfl) rfl (by go_simp) (readProof_is E8.out HL2.out J1.x) ?_
            rintro v W2 ⟨a2, c2, rfl, hy, hc2, hx, hm⟩
            have J2 := J1.call hx hm hy
            clear hy hx hm
            refine ⟨HYC.out _ _ _ _ _ J2, ?_⟩
            try simp only [List.setIfInBounds_toArray, List.set_cons_zero, List.set_cons_succ]
            refine nany_two 10 11 (by kernel_rfl) ?_ ?_
            · refine nop_value' 4 (v := .pointer (some ⟨W2.heap.size, 0, none⟩)) (w' := W2.alloc (.cells prZ 80)) rfl (by rfl) rfl (by kernel_rfl) ?_
              have J3 := J2.newA
              obtain ⟨g3, hg3⟩ : ∃ g, W2.heap.size = g := ⟨_, rfl⟩
              rw [hg3] at J3 ⊢
              obtain ⟨W3, hW3⟩ : ∃ W, W = W2.alloc (.cells prZ 80) := ⟨_, rfl⟩
              rw [← hW3] at J3 ⊢
              clear hW3 hg3
              refine ⟨HYC.out _ _ _ _ _ J3, ?_⟩
              try simp only [List.setIfInBounds_toArray, List.set_cons_zero, List.set_cons_succ]
              refine nany_one 11 (by kernel_rfl) ?_
              refine nop_value' 5 (v := .pointer (some ⟨W3.heap.size, 0, none⟩)) (w' := W3.alloc (.cells prZ 80)) rfl (by rfl) rfl (by kernel_rfl) ?_
              have J4 := J3.newB
              obtain ⟨g4, hg4⟩ : ∃ g, W3.heap.size = g := ⟨_, rfl⟩
              rw [hg4] at J4 ⊢
              obtain ⟨W4, hW4⟩ : ∃ W, W = W3.alloc (.cells prZ 80) := ⟨_, rfl⟩
              rw [← hW4] at J4 ⊢
              clear hW4 hg4
              refine ⟨HYC.out _ _ _ _ _ J4, ?_⟩
              try simp only [List.setIfInBounds_toArray, List.set_cons_zero, List.set_cons_succ]
              refine nany_one 12 (by kernel_rfl) ?_
              obtain ⟨hPE, hzb⟩ := J4.lay k1 k2 c1 m1 c2 m2
              have hqa := (J4.a g3 rfl)
              have hqb := (J4.b g4 rfl)
              refine nop_skip (w' := (W4.setRow g3 #[.int .u32 k1, .slice a1 m1 c1])) rfl (by rfl) rfl (ex_store 80 _ _ rfl g3 #[.int .u32 k1, .slice a1 m1 c1] rfl rfl 80 _ hqa.2 sizeProof rfl (prC_one _ _ _ _)) ?_
              refine ⟨((setRow_mods W4 g3 _).cell (HYC.out _ _ _ _ _ J4) (fun e => by have h : q = g3 := e; have h1 := hqa.1; have h2 := (Array.getElem?_eq_some_iff.1 hZ0).1; omega)), ?_⟩
              try simp only [List.setIfInBounds_toArray, List.set_cons_zero, List.set_cons_succ]
              refine nany_one 13 (by kernel_rfl) ?_
              refine nop_skip (w' := (W4.setRow g3 #[.int .u32 k1, .slice a1 m1 c1]).setRow g4 #[.int .u32 k2, .slice a2 m2 c2]) rfl (by rfl) rfl (ex_store 80 _ _ rfl g4 #[.int .u32 k2, .slice a2 m2 c2] rfl rfl 80 _ hzb sizeProof rfl (prC_one _ _ _ _)) ?_
              refine ⟨((setRow_mods (W4.setRow g3 #[.int .u32 k1, .slice a1 m1 c1]) g4 _).cell ((setRow_mods W4 g3 _).cell (HYC.out _ _ _ _ _ J4) (fun e => by have h : q = g3 := e; have h1 := hqa.1; have h2 := (Array.getElem?_eq_some_iff.1 hZ0).1; omega)) (fun e => by have h : q = g4 := e; have h1 := hqb.1; have h2 := (Array.getElem?_eq_some_iff.1 hZ0).1; omega)), ?_⟩
              try simp only [List.setIfInBounds_toArray, List.set_cons_zero, List.set_cons_succ]
              refine wpAnyH_done (by kernel_rfl) ?_ _
              exact ⟨rfl, g3, g4, a1, c1, a2, c2, by kernel_rfl, hc1, hc2, hPE⟩
            · refine nop_value' 5 (v := .pointer (some ⟨W2.heap.size, 0, none⟩)) (w' := W2.alloc (.cells prZ 80)) rfl (by rfl) rfl (by kernel_rfl) ?_
              have J5 := J2.newB
              obtain ⟨g5, hg5⟩ : ∃ g, W2.heap.size = g := ⟨_, rfl⟩
              rw [hg5] at J5 ⊢
              obtain ⟨W5, hW5⟩ : ∃ W, W = W2.alloc (.cells prZ 80) := ⟨_, rfl⟩
              rw [← hW5] at J5 ⊢
              clear hW5 hg5
              refine ⟨HYC.out _ _ _ _ _ J5, ?_⟩
              try simp only [List.setIfInBounds_toArray, List.set_cons_zero, List.set_cons_succ]
              refine nany_one 10 (by kernel_rfl) ?_
              refine nop_value' 4 (v := .pointer (some ⟨W5.heap.size, 0, none⟩)) (w' := W5.alloc (.cells prZ 80)) rfl (by rfl) rfl (by kernel_rfl) ?_
              have J6 := J5.newA
              obtain ⟨g6, hg6⟩ : ∃ g, W5.heap.size = g := ⟨_, rfl⟩
              rw [hg6] at J6 ⊢
              obtain ⟨W6, hW6⟩ : ∃ W, W = W5.alloc (.cells prZ 80) := ⟨_, rfl⟩
              rw [← hW6] at J6 ⊢
              clear hW6 hg6
              refine ⟨HYC.out _ _ _ _ _ J6, ?_⟩
              try simp only [List.setIfInBounds_toArray, List.set_cons_zero, List.set_cons_succ]
              refine nany_one 12 (by kernel_rfl) ?_
              obtain ⟨hPE, hzb⟩ := J6.lay k1 k2 c1 m1 c2 m2
              have hqa := (J6.a g6 rfl)
              have hqb := (J6.b g5 rfl)
              refine nop_skip (w' := (W6.setRow g6 #[.int .u32 k1, .slice a1 m1 c1])) rfl (by rfl) rfl (ex_store 80 _ _ rfl g6 #[.int .u32 k1, .slice a1 m1 c1] rfl rfl 80 _ hqa.2 sizeProof rfl (prC_one _ _ _ _)) ?_
              refine ⟨((setRow_mods W6 g6 _).cell (HYC.out _ _ _ _ _ J6) (fun e => by have h : q = g6 := e; have h1 := hqa.1; have h2 := (Array.getElem?_eq_some_iff.1 hZ0).1; omega)), ?_⟩
              try simp only [List.setIfInBounds_toArray, List.set_cons_zero, List.set_cons_succ]
              refine nany_one 13 (by kernel_rfl) ?_
              refine nop_skip (w' := (W6.setRow g6 #[.int .u32 k1, .slice a1 m1 c1]).setRow g5 #[.int .u32 k2, .slice a2 m2 c2]) rfl (by rfl) rfl (ex_store 80 _ _ rfl g5 #[.int .u32 k2, .slice a2 m2 c2] rfl rfl 80 _ hzb sizeProof rfl (prC_one _ _ _ _)) ?_
              refine ⟨((setRow_mods (W6.setRow g6 #[.int .u32 k1, .slice a1 m1 c1]) g5 _).cell ((setRow_mods W6 g6 _).cell (HYC.out _ _ _ _ _ J6) (fun e => by have h : q = g6 := e; have h1 := hqa.1; have h2 := (Array.getElem?_eq_some_iff.1 hZ0).1; omega)) (fun e => by have h : q = g5 := e; have h1 := hqb.1; have h2 := (Array.getElem?_eq_some_iff.1 hZ0).1; omega)), ?_⟩
              try simp only [List.setIfInBounds_toArray, List.set_cons_zero, List.set_cons_succ]
              refine wpAnyH_done (by kernel_rfl) ?_ _
              exact ⟨rfl, g6, g5, a1, c1, a2, c2, by kernel_rfl, hc1, hc2, hPE⟩
          · refine nop_value' 4 (v := .pointer (some ⟨W1.heap.size, 0, none⟩)) (w' := W1.alloc (.cells prZ 80)) rfl (by rfl) rfl (by kernel_rfl) ?_
            have J7 := J1.newA
            obtain ⟨g7, hg7⟩ : ∃ g, W1.heap.size = g := ⟨_, rfl⟩
            rw [hg7] at J7 ⊢
            obtain ⟨W7, hW7⟩ : ∃ W, W = W1.alloc (.cells prZ 80) := ⟨_, rfl⟩
            rw [← hW7] at J7 ⊢
            clear hW7 hg7
            refine ⟨HYC.out _ _ _ _ _ J7, ?_⟩
            try simp only [List.setIfInBounds_toArray, List.set_cons_zero, List.set_cons_succ]
            refine nany_two 9 11 (by kernel_rfl) ?_ ?_
            · refine nop_callE 50 (f := 38) (args := #[.pointer (some ⟨p, 0, none⟩)]) (R := fun v w' => ∃ a c, v = .agg #[.int .u32 k2, .slice a m2 c] ∧ By w' (New W7) a l2 ∧ m2 ≤ c ∧ RY w' 103 p r8 ∧ Mods (fun b => b = p) W7 w') rfl (by rfl) rfl (by go_simp) (readProof_is E8.out HL2.out J7.x) ?_
              rintro v W8 ⟨a8, c8, rfl, hy, hc8, hx, hm⟩
              have J8 := J7.call hx hm hy
              clear hy hx hm
              refine ⟨HYC.out _ _ _ _ _ J8, ?_⟩
              try simp only [List.setIfInBounds_toArray, List.set_cons_zero, List.set_cons_succ]
              refine nany_one 11 (by kernel_rfl) ?_
              refine nop_value' 5 (v := .pointer (some ⟨W8.heap.size, 0, none⟩)) (w' := W8.alloc (.cells prZ 80)) rfl (by rfl) rfl (by kernel_rfl) ?_
              have J9 := J8.newB
              obtain ⟨g9, hg9⟩ : ∃ g, W8.heap.size = g := ⟨_, rfl⟩
              rw [hg9] at J9 ⊢
              obtain ⟨W9, hW9⟩ : ∃ W, W = W8.alloc (.cells prZ 80) := ⟨_, rfl⟩
              rw [← hW9] at J9 ⊢
              clear hW9 hg9
              refine ⟨HYC.out _ _ _ _ _ J9, ?_⟩
              try simp only [List.setIfInBounds_toArray, List.set_cons_zero, List.set_cons_succ]
              refine nany_one 12 (by kernel_rfl) ?_
              obtain ⟨hPE, hzb⟩ := J9.lay k1 k2 c1 m1 c8 m2
              have hqa := (J9.a g7 rfl)
              have hqb := (J9.b g9 rfl)
              refine nop_skip (w' := (W9.setRow g7 #[.int .u32 k1, .slice a1 m1 c1])) rfl (by rfl) rfl (ex_store 80 _ _ rfl g7 #[.int .u32 k1, .slice a1 m1 c1] rfl rfl 80 _ hqa.2 sizeProof rfl (prC_one _ _ _ _)) ?_
              refine ⟨((setRow_mods W9 g7 _).cell (HYC.out _ _ _ _ _ J9) (fun e => by have h : q = g7 := e; have h1 := hqa.1; have h2 := (Array.getElem?_eq_some_iff.1 hZ0).1; omega)), ?_⟩
              try simp only [List.setIfInBounds_toArray, List.set_cons_zero, List.set_cons_succ]
              refine nany_one 13 (by kernel_rfl) ?_
              refine nop_skip (w' := (W9.setRow g7 #[.int .u32 k1, .slice a1 m1 c1]).setRow g9 #[.int .u32 k2, .slice a8 m2 c8]) rfl (by rfl) rfl (ex_store 80 _ _ rfl g9 #[.int .u32 k2, .slice a8 m2 c8] rfl rfl 80 _ hzb sizeProof rfl (prC_one _ _ _ _)) ?_
              refine ⟨((setRow_mods (W9.setRow g7 #[.int .u32 k1, .slice a1 m1 c1]) g9 _).cell ((setRow_mods W9 g7 _).cell (HYC.out _ _ _ _ _ J9) (fun e => by have h : q = g7 := e; have h1 := hqa.1; have h2 := (Array.getElem?_eq_some_iff.1 hZ0).1; omega)) (fun e => by have h : q = g9 := e; have h1 := hqb.1; have h2 := (Array.getElem?_eq_some_iff.1 hZ0).1; omega)), ?_⟩
              try simp only [List.setIfInBounds_toArray, List.set_cons_zero, List.set_cons_succ]
              refine wpAnyH_done (by kernel_rfl) ?_ _
              exact ⟨rfl, g7, g9, a1, c1, a8, c8, by kernel_rfl, hc1, hc8, hPE⟩
            · refine nop_value' 5 (v := .pointer (some ⟨W7.heap.size, 0, none⟩)) (w' := W7.alloc (.cells prZ 80)) rfl (by rfl) rfl (by kernel_rfl) ?_
              have J10 := J7.newB
              obtain ⟨g10, hg10⟩ : ∃ g, W7.heap.size = g := ⟨_, rfl⟩
              rw [hg10] at J10 ⊢
              obtain ⟨W10, hW10⟩ : ∃ W, W = W7.alloc (.cells prZ 80) := ⟨_, rfl⟩
              rw [← hW10] at J10 ⊢
              clear hW10 hg10
              refine ⟨HYC.out _ _ _ _ _ J10, ?_⟩
              try simp only [List.setIfInBounds_toArray, List.set_cons_zero, List.set_cons_succ]
              refine nany_one 9 (by kernel_rfl) ?_
              refine nop_callE 50 (f := 38) (args := #[.pointer (some ⟨p, 0, none⟩)]) (R := fun v w' => ∃ a c, v = .agg #[.int .u32 k2, .slice a m2 c] ∧ By w' (New W10) a l2 ∧ m2 ≤ c ∧ RY w' 103 p r8 ∧ Mods (fun b => b = p) W10 w') rfl (by rfl) rfl (by go_simp) (readProof_is E8.out HL2.out J10.x) ?_
              rintro v W11 ⟨a11, c11, rfl, hy, hc11, hx, hm⟩
              have J11 := J10.call hx hm hy
              clear hy hx hm
              refine ⟨HYC.out _ _ _ _ _ J11, ?_⟩
              try simp only [List.setIfInBounds_toArray, List.set_cons_zero, List.set_cons_succ]
              refine nany_one 12 (by kernel_rfl) ?_
              obtain ⟨hPE, hzb⟩ := J11.lay k1 k2 c1 m1 c11 m2
              have hqa := (J11.a g7 rfl)
              have hqb := (J11.b g10 rfl)
              refine nop_skip (w' := (W11.setRow g7 #[.int .u32 k1, .slice a1 m1 c1])) rfl (by rfl) rfl (ex_store 80 _ _ rfl g7 #[.int .u32 k1, .slice a1 m1 c1] rfl rfl 80 _ hqa.2 sizeProof rfl (prC_one _ _ _ _)) ?_
              refine ⟨((setRow_mods W11 g7 _).cell (HYC.out _ _ _ _ _ J11) (fun e => by have h : q = g7 := e; have h1 := hqa.1; have h2 := (Array.getElem?_eq_some_iff.1 hZ0).1; omega)), ?_⟩
              try simp only [List.setIfInBounds_toArray, List.set_cons_zero, List.set_cons_succ]
              refine nany_one 13 (by kernel_rfl) ?_
              refine nop_skip (w' := (W11.setRow g7 #[.int .u32 k1, .slice a1 m1 c1]).setRow g10 #[.int .u32 k2, .slice a11 m2 c11]) rfl (by rfl) rfl (ex_store 80 _ _ rfl g10 #[.int .u32 k2, .slice a11 m2 c11] rfl rfl 80 _ hzb sizeProof rfl (prC_one _ _ _ _)) ?_
              refine ⟨((setRow_mods (W11.setRow g7 #[.int .u32 k1, .slice a1 m1 c1]) g10 _).cell ((setRow_mods W11 g7 _).cell (HYC.out _ _ _ _ _ J11) (fun e => by have h : q = g7 := e; have h1 := hqa.1; have h2 := (Array.getElem?_eq_some_iff.1 hZ0).1; omega)) (fun e => by have h : q = g10 := e; have h1 := hqb.1; have h2 := (Array.getElem?_eq_some_iff.1 hZ0).1; omega)), ?_⟩
              try simp only [List.setIfInBounds_toArray, List.set_cons_zero, List.set_cons_succ]
              refine wpAnyH_done (by kernel_rfl) ?_ _
              exact ⟨rfl, g7, g10, a1, c1, a11, c11, by kernel_rfl, hc1, hc11, hPE⟩
          · refine nop_value' 5 (v := .pointer (some ⟨W1.heap.size, 0, none⟩)) (w' := W1.alloc (.cells prZ 80)) rfl (by rfl) rfl (by kernel_rfl) ?_
            have J12 := J1.newB
            obtain ⟨g12, hg12⟩ : ∃ g, W1.heap.size = g := ⟨_, rfl⟩
            rw [hg12] at J12 ⊢
            obtain ⟨W12, hW12⟩ : ∃ W, W = W1.alloc (.cells prZ 80) := ⟨_, rfl⟩
            rw [← hW12] at J12 ⊢
            clear hW12 hg12
            refine ⟨HYC.out _ _ _ _ _ J12, ?_⟩
            try simp only [List.setIfInBounds_toArray, List.set_cons_zero, List.set_cons_succ]
            refine nany_two 9 10 (by kernel_rfl) ?_ ?_
            · refine nop_callE 50 (f := 38) (args := #[.pointer (some ⟨p, 0, none⟩)]) (R := fun v w' => ∃ a c, v = .agg #[.int .u32 k2, .slice a m2 c] ∧ By w' (New W12) a l2 ∧ m2 ≤ c ∧ RY w' 103 p r8 ∧ Mods (fun b => b = p) W12 w') rfl (by rfl) rfl (by go_simp) (readProof_is E8.out HL2.out J12.x) ?_
              rintro v W13 ⟨a13, c13, rfl, hy, hc13, hx, hm⟩
              have J13 := J12.call hx hm hy
              clear hy hx hm
              refine ⟨HYC.out _ _ _ _ _ J13, ?_⟩
              try simp only [List.setIfInBounds_toArray, List.set_cons_zero, List.set_cons_succ]
              refine nany_one 10 (by kernel_rfl) ?_
              refine nop_value' 4 (v := .pointer (some ⟨W13.heap.size, 0, none⟩)) (w' := W13.alloc (.cells prZ 80)) rfl (by rfl) rfl (by kernel_rfl) ?_
              have J14 := J13.newA
              obtain ⟨g14, hg14⟩ : ∃ g, W13.heap.size = g := ⟨_, rfl⟩
              rw [hg14] at J14 ⊢
              obtain ⟨W14, hW14⟩ : ∃ W, W = W13.alloc (.cells prZ 80) := ⟨_, rfl⟩
              rw [← hW14] at J14 ⊢
              clear hW14 hg14
              refine ⟨HYC.out _ _ _ _ _ J14, ?_⟩
              try simp only [List.setIfInBounds_toArray, List.set_cons_zero, List.set_cons_succ]
              refine nany_one 12 (by kernel_rfl) ?_
              obtain ⟨hPE, hzb⟩ := J14.lay k1 k2 c1 m1 c13 m2
              have hqa := (J14.a g14 rfl)
              have hqb := (J14.b g12 rfl)
              refine nop_skip (w' := (W14.setRow g14 #[.int .u32 k1, .slice a1 m1 c1])) rfl (by rfl) rfl (ex_store 80 _ _ rfl g14 #[.int .u32 k1, .slice a1 m1 c1] rfl rfl 80 _ hqa.2 sizeProof rfl (prC_one _ _ _ _)) ?_
              refine ⟨((setRow_mods W14 g14 _).cell (HYC.out _ _ _ _ _ J14) (fun e => by have h : q = g14 := e; have h1 := hqa.1; have h2 := (Array.getElem?_eq_some_iff.1 hZ0).1; omega)), ?_⟩
              try simp only [List.setIfInBounds_toArray, List.set_cons_zero, List.set_cons_succ]
              refine nany_one 13 (by kernel_rfl) ?_
              refine nop_skip (w' := (W14.setRow g14 #[.int .u32 k1, .slice a1 m1 c1]).setRow g12 #[.int .u32 k2, .slice a13 m2 c13]) rfl (by rfl) rfl (ex_store 80 _ _ rfl g12 #[.int .u32 k2, .slice a13 m2 c13] rfl rfl 80 _ hzb sizeProof rfl (prC_one _ _ _ _)) ?_
              refine ⟨((setRow_mods (W14.setRow g14 #[.int .u32 k1, .slice a1 m1 c1]) g12 _).cell ((setRow_mods W14 g14 _).cell (HYC.out _ _ _ _ _ J14) (fun e => by have h : q = g14 := e; have h1 := hqa.1; have h2 := (Array.getElem?_eq_some_iff.1 hZ0).1; omega)) (fun e => by have h : q = g12 := e; have h1 := hqb.1; have h2 := (Array.getElem?_eq_some_iff.1 hZ0).1; omega)), ?_⟩
              try simp only [List.setIfInBounds_toArray, List.set_cons_zero, List.set_cons_succ]
              refine wpAnyH_done (by kernel_rfl) ?_ _
              exact ⟨rfl, g14, g12, a1, c1, a13, c13, by kernel_rfl, hc1, hc13, hPE⟩
            · refine nop_value' 4 (v := .pointer (some ⟨W12.heap.size, 0, none⟩)) (w' := W12.alloc (.cells prZ 80)) rfl (by rfl) rfl (by kernel_rfl) ?_
              have J15 := J12.newA
              obtain ⟨g15, hg15⟩ : ∃ g, W12.heap.size = g := ⟨_, rfl⟩
              rw [hg15] at J15 ⊢
              obtain ⟨W15, hW15⟩ : ∃ W, W = W12.alloc (.cells prZ 80) := ⟨_, rfl⟩
              rw [← hW15] at J15 ⊢
              clear hW15 hg15
              refine ⟨HYC.out _ _ _ _ _ J15, ?_⟩
              try simp only [List.setIfInBounds_toArray, List.set_cons_zero, List.set_cons_succ]
              refine nany_one 9 (by kernel_rfl) ?_
              refine nop_callE 50 (f := 38) (args := #[.pointer (some ⟨p, 0, none⟩)]) (R := fun v w' => ∃ a c, v = .agg #[.int .u32 k2, .slice a m2 c] ∧ By w' (New W15) a l2 ∧ m2 ≤ c ∧ RY w' 103 p r8 ∧ Mods (fun b => b = p) W15 w') rfl (by rfl) rfl (by go_simp) (readProof_is E8.out HL2.out J15.x) ?_
              rintro v W16 ⟨a16, c16, rfl, hy, hc16, hx, hm⟩
              have J16 := J15.call hx hm hy
              clear hy hx hm
              refine ⟨HYC.out _ _ _ _ _ J16, ?_⟩
              try simp only [List.setIfInBounds_toArray, List.set_cons_zero, List.set_cons_succ]
              refine nany_one 12 (by kernel_rfl) ?_
              obtain ⟨hPE, hzb⟩ := J16.lay k1 k2 c1 m1 c16 m2
              have hqa := (J16.a g15 rfl)
              have hqb := (J16.b g12 rfl)
              refine nop_skip (w' := (W16.setRow g15 #[.int .u32 k1, .slice a1 m1 c1])) rfl (by rfl) rfl (ex_store 80 _ _ rfl g15 #[.int .u32 k1, .slice a1 m1 c1] rfl rfl 80 _ hqa.2 sizeProof rfl (prC_one _ _ _ _)) ?_
              refine ⟨((setRow_mods W16 g15 _).cell (HYC.out _ _ _ _ _ J16) (fun e => by have h : q = g15 := e; have h1 := hqa.1; have h2 := (Array.getElem?_eq_some_iff.1 hZ0).1; omega)), ?_⟩
              try simp only [List.setIfInBounds_toArray, List.set_cons_zero, List.set_cons_succ]
              refine nany_one 13 (by kernel_rfl) ?_
              refine nop_skip (w' := (W16.setRow g15 #[.int .u32 k1, .slice a1 m1 c1]).setRow g12 #[.int .u32 k2, .slice a16 m2 c16]) rfl (by rfl) rfl (ex_store 80 _ _ rfl g12 #[.int .u32 k2, .slice a16 m2 c16] rfl rfl 80 _ hzb sizeProof rfl (prC_one _ _ _ _)) ?_
              refine ⟨((setRow_mods (W16.setRow g15 #[.int .u32 k1, .slice a1 m1 c1]) g12 _).cell ((setRow_mods W16 g15 _).cell (HYC.out _ _ _ _ _ J16) (fun e => by have h : q = g15 := e; have h1 := hqa.1; have h2 := (Array.getElem?_eq_some_iff.1 hZ0).1; omega)) (fun e => by have h : q = g12 := e; have h1 := hqb.1; have h2 := (Array.getElem?_eq_some_iff.1 hZ0).1; omega)), ?_⟩
              try simp only [List.setIfInBounds_toArray, List.set_cons_zero, List.set_cons_succ]
              refine wpAnyH_done (by kernel_rfl) ?_ _
              exact ⟨rfl, g15, g12, a1, c1, a16, c16, by kernel_rfl, hc1, hc16, hPE⟩
        · refine nop_value' 4 (v := .pointer (some ⟨v0.heap.size, 0, none⟩)) (w' := v0.alloc (.cells prZ 80)) rfl (by rfl) rfl (by kernel_rfl) ?_
          have J17 := J0.newA
          obtain ⟨g17, hg17⟩ : ∃ g, v0.heap.size = g := ⟨_, rfl⟩
          rw [hg17] at J17 ⊢
          obtain ⟨W17, hW17⟩ : ∃ W, W = v0.alloc (.cells prZ 80) := ⟨_, rfl⟩
          rw [← hW17] at J17 ⊢
          clear hW17 hg17
          refine ⟨HYC.out _ _ _ _ _ J17, ?_⟩
          try simp only [List.setIfInBounds_toArray, List.set_cons_zero, List.set_cons_succ]
          refine nany_two 4 11 (by kernel_rfl) ?_ ?_
          · refine nop_callE 45 (f := 38) (args := #[.pointer (some ⟨p, 0, none⟩)]) (R := fun v w' => ∃ a c, v = .agg #[.int .u32 k1, .slice a m1 c] ∧ By w' (New W17) a l1 ∧ m1 ≤ c ∧ RY w' 103 p r7 ∧ Mods (fun b => b = p) W17 w') rfl (by rfl) rfl (by go_simp) (readProof_is E7.out HL1.out.1 J17.x) ?_
            rintro v W18 ⟨a18, c18, rfl, hy, hc18, hx, hm⟩
            have J18 := J17.call hx hm hy
            clear hy hx hm
            refine ⟨HYC.out _ _ _ _ _ J18, ?_⟩
            try simp only [List.setIfInBounds_toArray, List.set_cons_zero, List.set_cons_succ]
            refine nany_two 9 11 (by kernel_rfl) ?_ ?_
            · refine nop_callE 50 (f := 38) (args := #[.pointer (some ⟨p, 0, none⟩)]) (R := fun v w' => ∃ a c, v = .agg #[.int .u32 k2, .slice a m2 c] ∧ By w' (New W18) a l2 ∧ m2 ≤ c ∧ RY w' 103 p r8 ∧ Mods (fun b => b = p) W18 w') rfl (by rfl) rfl (by go_simp) (readProof_is E8.out HL2.out J18.x) ?_
              rintro v W19 ⟨a19, c19, rfl, hy, hc19, hx, hm⟩
              have J19 := J18.call hx hm hy
              clear hy hx hm
              refine ⟨HYC.out _ _ _ _ _ J19, ?_⟩
              try simp only [List.setIfInBounds_toArray, List.set_cons_zero, List.set_cons_succ]
              refine nany_one 11 (by kernel_rfl) ?_
              refine nop_value' 5 (v := .pointer (some ⟨W19.heap.size, 0, none⟩)) (w' := W19.alloc (.cells prZ 80)) rfl (by rfl) rfl (by kernel_rfl) ?_
              have J20 := J19.newB
              obtain ⟨g20, hg20⟩ : ∃ g, W19.heap.size = g := ⟨_, rfl⟩
              rw [hg20] at J20 ⊢
              obtain ⟨W20, hW20⟩ : ∃ W, W = W19.alloc (.cells prZ 80) := ⟨_, rfl⟩
              rw [← hW20] at J20 ⊢
              clear hW20 hg20
              refine ⟨HYC.out _ _ _ _ _ J20, ?_⟩
              try simp only [List.setIfInBounds_toArray, List.set_cons_zero, List.set_cons_succ]
              refine nany_one 12 (by kernel_rfl) ?_
              obtain ⟨hPE, hzb⟩ := J20.lay k1 k2 c18 m1 c19 m2
              have hqa := (J20.a g17 rfl)
              have hqb := (J20.b g20 rfl)
              refine nop_skip (w' := (W20.setRow g17 #[.int .u32 k1, .slice a18 m1 c18])) rfl (by rfl) rfl (ex_store 80 _ _ rfl g17 #[.int .u32 k1, .slice a18 m1 c18] rfl rfl 80 _ hqa.2 sizeProof rfl (prC_one _ _ _ _)) ?_
              refine ⟨((setRow_mods W20 g17 _).cell (HYC.out _ _ _ _ _ J20) (fun e => by have h : q = g17 := e; have h1 := hqa.1; have h2 := (Array.getElem?_eq_some_iff.1 hZ0).1; omega)), ?_⟩
              try simp only [List.setIfInBounds_toArray, List.set_cons_zero, List.set_cons_succ]
              refine nany_one 13 (by kernel_rfl) ?_
              refine nop_skip (w' := (W20.setRow g17 #[.int .u32 k1, .slice a18 m1 c18]).setRow g20 #[.int .u32 k2, .slice a19 m2 c19]) rfl (by rfl) rfl (ex_store 80 _ _ rfl g20 #[.int .u32 k2, .slice a19 m2 c19] rfl rfl 80 _ hzb sizeProof rfl (prC_one _ _ _ _)) ?_
              refine ⟨((setRow_mods (W20.setRow g17 #[.int .u32 k1, .slice a18 m1 c18]) g20 _).cell ((setRow_mods W20 g17 _).cell (HYC.out _ _ _ _ _ J20) (fun e => by have h : q = g17 := e; have h1 := hqa.1; have h2 := (Array.getElem?_eq_some_iff.1 hZ0).1; omega)) (fun e => by have h : q = g20 := e; have h1 := hqb.1; have h2 := (Array.getElem?_eq_some_iff.1 hZ0).1; omega)), ?_⟩
              try simp only [List.setIfInBounds_toArray, List.set_cons_zero, List.set_cons_succ]
              refine wpAnyH_done (by kernel_rfl) ?_ _
              exact ⟨rfl, g17, g20, a18, c18, a19, c19, by kernel_rfl, hc18, hc19, hPE⟩
            · refine nop_value' 5 (v := .pointer (some ⟨W18.heap.size, 0, none⟩)) (w' := W18.alloc (.cells prZ 80)) rfl (by rfl) rfl (by kernel_rfl) ?_
              have J21 := J18.newB
              obtain ⟨g21, hg21⟩ : ∃ g, W18.heap.size = g := ⟨_, rfl⟩
              rw [hg21] at J21 ⊢
              obtain ⟨W21, hW21⟩ : ∃ W, W = W18.alloc (.cells prZ 80) := ⟨_, rfl⟩
              rw [← hW21] at J21 ⊢
              clear hW21 hg21
              refine ⟨HYC.out _ _ _ _ _ J21, ?_⟩
              try simp only [List.setIfInBounds_toArray, List.set_cons_zero, List.set_cons_succ]
              refine nany_one 9 (by kernel_rfl) ?_
              refine nop_callE 50 (f := 38) (args := #[.pointer (some ⟨p, 0, none⟩)]) (R := fun v w' => ∃ a c, v = .agg #[.int .u32 k2, .slice a m2 c] ∧ By w' (New W21) a l2 ∧ m2 ≤ c ∧ RY w' 103 p r8 ∧ Mods (fun b => b = p) W21 w') rfl (by rfl) rfl (by go_simp) (readProof_is E8.out HL2.out J21.x) ?_
              rintro v W22 ⟨a22, c22, rfl, hy, hc22, hx, hm⟩
              have J22 := J21.call hx hm hy
              clear hy hx hm
              refine ⟨HYC.out _ _ _ _ _ J22, ?_⟩
              try simp only [List.setIfInBounds_toArray, List.set_cons_zero, List.set_cons_succ]
              refine nany_one 12 (by kernel_rfl) ?_
              obtain ⟨hPE, hzb⟩ := J22.lay k1 k2 c18 m1 c22 m2
              have hqa := (J22.a g17 rfl)
              have hqb := (J22.b g21 rfl)
              refine nop_skip (w' := (W22.setRow g17 #[.int .u32 k1, .slice a18 m1 c18])) rfl (by rfl) rfl (ex_store 80 _ _ rfl g17 #[.int .u32 k1, .slice a18 m1 c18] rfl rfl 80 _ hqa.2 sizeProof rfl (prC_one _ _ _ _)) ?_
              refine ⟨((setRow_mods W22 g17 _).cell (HYC.out _ _ _ _ _ J22) (fun e => by have h : q = g17 := e; have h1 := hqa.1; have h2 := (Array.getElem?_eq_some_iff.1 hZ0).1; omega)), ?_⟩
              try simp only [List.setIfInBounds_toArray, List.set_cons_zero, List.set_cons_succ]
              refine nany_one 13 (by kernel_rfl) ?_
              refine nop_skip (w' := (W22.setRow g17 #[.int .u32 k1, .slice a18 m1 c18]).setRow g21 #[.int .u32 k2, .slice a22 m2 c22]) rfl (by rfl) rfl (ex_store 80 _ _ rfl g21 #[.int .u32 k2, .slice a22 m2 c22] rfl rfl 80 _ hzb sizeProof rfl (prC_one _ _ _ _)) ?_
              refine ⟨((setRow_mods (W22.setRow g17 #[.int .u32 k1, .slice a18 m1 c18]) g21 _).cell ((setRow_mods W22 g17 _).cell (HYC.out _ _ _ _ _ J22) (fun e => by have h : q = g17 := e; have h1 := hqa.1; have h2 := (Array.getElem?_eq_some_iff.1 hZ0).1; omega)) (fun e => by have h : q = g21 := e; have h1 := hqb.1; have h2 := (Array.getElem?_eq_some_iff.1 hZ0).1; omega)), ?_⟩
              try simp only [List.setIfInBounds_toArray, List.set_cons_zero, List.set_cons_succ]
              refine wpAnyH_done (by kernel_rfl) ?_ _
              exact ⟨rfl, g17, g21, a18, c18, a22, c22, by kernel_rfl, hc18, hc22, hPE⟩
          · refine nop_value' 5 (v := .pointer (some ⟨W17.heap.size, 0, none⟩)) (w' := W17.alloc (.cells prZ 80)) rfl (by rfl) rfl (by kernel_rfl) ?_
            have J23 := J17.newB
            obtain ⟨g23, hg23⟩ : ∃ g, W17.heap.size = g := ⟨_, rfl⟩
            rw [hg23] at J23 ⊢
            obtain ⟨W23, hW23⟩ : ∃ W, W = W17.alloc (.cells prZ 80) := ⟨_, rfl⟩
            rw [← hW23] at J23 ⊢
            clear hW23 hg23
            refine ⟨HYC.out _ _ _ _ _ J23, ?_⟩
            try simp only [List.setIfInBounds_toArray, List.set_cons_zero, List.set_cons_succ]
            refine nany_one 4 (by kernel_rfl) ?_
            refine nop_callE 45 (f := 38) (args := #[.pointer (some ⟨p, 0, none⟩)]) (R := fun v w' => ∃ a c, v = .agg #[.int .u32 k1, .slice a m1 c] ∧ By w' (New W23) a l1 ∧ m1 ≤ c ∧ RY w' 103 p r7 ∧ Mods (fun b => b = p) W23 w') rfl (by rfl) rfl (by go_simp) (readProof_is E7.out HL1.out.1 J23.x) ?_
            rintro v W24 ⟨a24, c24, rfl, hy, hc24, hx, hm⟩
            have J24 := J23.call hx hm hy
            clear hy hx hm
            refine ⟨HYC.out _ _ _ _ _ J24, ?_⟩
            try simp only [List.setIfInBounds_toArray, List.set_cons_zero, List.set_cons_succ]
            refine nany_one 9 (by kernel_rfl) ?_
            refine nop_callE 50 (f := 38) (args := #[.pointer (some ⟨p, 0, none⟩)]) (R := fun v w' => ∃ a c, v = .agg #[.int .u32 k2, .slice a m2 c] ∧ By w' (New W24) a l2 ∧ m2 ≤ c ∧ RY w' 103 p r8 ∧ Mods (fun b => b = p) W24 w') rfl (by rfl) rfl (by go_simp) (readProof_is E8.out HL2.out J24.x) ?_
            rintro v W25 ⟨a25, c25, rfl, hy, hc25, hx, hm⟩
            have J25 := J24.call hx hm hy
            clear hy hx hm
            refine ⟨HYC.out _ _ _ _ _ J25, ?_⟩
            try simp only [List.setIfInBounds_toArray, List.set_cons_zero, List.set_cons_succ]
            refine nany_one 12 (by kernel_rfl) ?_
            obtain ⟨hPE, hzb⟩ := J25.lay k1 k2 c24 m1 c25 m2
            have hqa := (J25.a g17 rfl)
            have hqb := (J25.b g23 rfl)
            refine nop_skip (w' := (W25.setRow g17 #[.int .u32 k1, .slice a24 m1 c24])) rfl (by rfl) rfl (ex_store 80 _ _ rfl g17 #[.int .u32 k1, .slice a24 m1 c24] rfl rfl 80 _ hqa.2 sizeProof rfl (prC_one _ _ _ _)) ?_
            refine ⟨((setRow_mods W25 g17 _).cell (HYC.out _ _ _ _ _ J25) (fun e => by have h : q = g17 := e; have h1 := hqa.1; have h2 := (Array.getElem?_eq_some_iff.1 hZ0).1; omega)), ?_⟩
            try simp only [List.setIfInBounds_toArray, List.set_cons_zero, List.set_cons_succ]
            refine nany_one 13 (by kernel_rfl) ?_
            refine nop_skip (w' := (W25.setRow g17 #[.int .u32 k1, .slice a24 m1 c24]).setRow g23 #[.int .u32 k2, .slice a25 m2 c25]) rfl (by rfl) rfl (ex_store 80 _ _ rfl g23 #[.int .u32 k2, .slice a25 m2 c25] rfl rfl 80 _ hzb sizeProof rfl (prC_one _ _ _ _)) ?_
            refine ⟨((setRow_mods (W25.setRow g17 #[.int .u32 k1, .slice a24 m1 c24]) g23 _).cell ((setRow_mods W25 g17 _).cell (HYC.out _ _ _ _ _ J25) (fun e => by have h : q = g17 := e; have h1 := hqa.1; have h2 := (Array.getElem?_eq_some_iff.1 hZ0).1; omega)) (fun e => by have h : q = g23 := e; have h1 := hqb.1; have h2 := (Array.getElem?_eq_some_iff.1 hZ0).1; omega)), ?_⟩
            try simp only [List.setIfInBounds_toArray, List.set_cons_zero, List.set_cons_succ]
            refine wpAnyH_done (by kernel_rfl) ?_ _
            exact ⟨rfl, g17, g23, a24, c24, a25, c25, by kernel_rfl, hc24, hc25, hPE⟩
        · refine nop_value' 5 (v := .pointer (some ⟨v0.heap.size, 0, none⟩)) (w' := v0.alloc (.cells prZ 80)) rfl (by rfl) rfl (by kernel_rfl) ?_
          have J26 := J0.newB
          obtain ⟨g26, hg26⟩ : ∃ g, v0.heap.size = g := ⟨_, rfl⟩
          rw [hg26] at J26 ⊢
          obtain ⟨W26, hW26⟩ : ∃ W, W = v0.alloc (.cells prZ 80) := ⟨_, rfl⟩
          rw [← hW26] at J26 ⊢
          clear hW26 hg26
          refine ⟨HYC.out _ _ _ _ _ J26, ?_⟩
          try simp only [List.setIfInBounds_toArray, List.set_cons_zero, List.set_cons_succ]
          refine nany_two 4 10 (by kernel_rfl) ?_ ?_
          · refine nop_callE 45 (f := 38) (args := #[.pointer (some ⟨p, 0, none⟩)]) (R := fun v w' => ∃ a c, v = .agg #[.int .u32 k1, .slice a m1 c] ∧ By w' (New W26) a l1 ∧ m1 ≤ c ∧ RY w' 103 p r7 ∧ Mods (fun b => b = p) W26 w') rfl (by rfl) rfl (by go_simp) (readProof_is E7.out HL1.out.1 J26.x) ?_
            rintro v W27 ⟨a27, c27, rfl, hy, hc27, hx, hm⟩
            have J27 := J26.call hx hm hy
            clear hy hx hm
            refine ⟨HYC.out _ _ _ _ _ J27, ?_⟩
            try simp only [List.setIfInBounds_toArray, List.set_cons_zero, List.set_cons_succ]
            refine nany_two 9 10 (by kernel_rfl) ?_ ?_
            · refine nop_callE 50 (f := 38) (args := #[.pointer (some ⟨p, 0, none⟩)]) (R := fun v w' => ∃ a c, v = .agg #[.int .u32 k2, .slice a m2 c] ∧ By w' (New W27) a l2 ∧ m2 ≤ c ∧ RY w' 103 p r8 ∧ Mods (fun b => b = p) W27 w') rfl (by rfl) rfl (by go_simp) (readProof_is E8.out HL2.out J27.x) ?_
              rintro v W28 ⟨a28, c28, rfl, hy, hc28, hx, hm⟩
              have J28 := J27.call hx hm hy
              clear hy hx hm
              refine ⟨HYC.out _ _ _ _ _ J28, ?_⟩
              try simp only [List.setIfInBounds_toArray, List.set_cons_zero, List.set_cons_succ]
              refine nany_one 10 (by kernel_rfl) ?_
              refine nop_value' 4 (v := .pointer (some ⟨W28.heap.size, 0, none⟩)) (w' := W28.alloc (.cells prZ 80)) rfl (by rfl) rfl (by kernel_rfl) ?_
              have J29 := J28.newA
              obtain ⟨g29, hg29⟩ : ∃ g, W28.heap.size = g := ⟨_, rfl⟩
              rw [hg29] at J29 ⊢
              obtain ⟨W29, hW29⟩ : ∃ W, W = W28.alloc (.cells prZ 80) := ⟨_, rfl⟩
              rw [← hW29] at J29 ⊢
              clear hW29 hg29
              refine ⟨HYC.out _ _ _ _ _ J29, ?_⟩
              try simp only [List.setIfInBounds_toArray, List.set_cons_zero, List.set_cons_succ]
              refine nany_one 12 (by kernel_rfl) ?_
              obtain ⟨hPE, hzb⟩ := J29.lay k1 k2 c27 m1 c28 m2
              have hqa := (J29.a g29 rfl)
              have hqb := (J29.b g26 rfl)
              refine nop_skip (w' := (W29.setRow g29 #[.int .u32 k1, .slice a27 m1 c27])) rfl (by rfl) rfl (ex_store 80 _ _ rfl g29 #[.int .u32 k1, .slice a27 m1 c27] rfl rfl 80 _ hqa.2 sizeProof rfl (prC_one _ _ _ _)) ?_
              refine ⟨((setRow_mods W29 g29 _).cell (HYC.out _ _ _ _ _ J29) (fun e => by have h : q = g29 := e; have h1 := hqa.1; have h2 := (Array.getElem?_eq_some_iff.1 hZ0).1; omega)), ?_⟩
              try simp only [List.setIfInBounds_toArray, List.set_cons_zero, List.set_cons_succ]
              refine nany_one 13 (by kernel_rfl) ?_
              refine nop_skip (w' := (W29.setRow g29 #[.int .u32 k1, .slice a27 m1 c27]).setRow g26 #[.int .u32 k2, .slice a28 m2 c28]) rfl (by rfl) rfl (ex_store 80 _ _ rfl g26 #[.int .u32 k2, .slice a28 m2 c28] rfl rfl 80 _ hzb sizeProof rfl (prC_one _ _ _ _)) ?_
              refine ⟨((setRow_mods (W29.setRow g29 #[.int .u32 k1, .slice a27 m1 c27]) g26 _).cell ((setRow_mods W29 g29 _).cell (HYC.out _ _ _ _ _ J29) (fun e => by have h : q = g29 := e; have h1 := hqa.1; have h2 := (Array.getElem?_eq_some_iff.1 hZ0).1; omega)) (fun e => by have h : q = g26 := e; have h1 := hqb.1; have h2 := (Array.getElem?_eq_some_iff.1 hZ0).1; omega)), ?_⟩
              try simp only [List.setIfInBounds_toArray, List.set_cons_zero, List.set_cons_succ]
              refine wpAnyH_done (by kernel_rfl) ?_ _
              exact ⟨rfl, g29, g26, a27, c27, a28, c28, by kernel_rfl, hc27, hc28, hPE⟩
            · refine nop_value' 4 (v := .pointer (some ⟨W27.heap.size, 0, none⟩)) (w' := W27.alloc (.cells prZ 80)) rfl (by rfl) rfl (by kernel_rfl) ?_
              have J30 := J27.newA
              obtain ⟨g30, hg30⟩ : ∃ g, W27.heap.size = g := ⟨_, rfl⟩
              rw [hg30] at J30 ⊢
              obtain ⟨W30, hW30⟩ : ∃ W, W = W27.alloc (.cells prZ 80) := ⟨_, rfl⟩
              rw [← hW30] at J30 ⊢
              clear hW30 hg30
              refine ⟨HYC.out _ _ _ _ _ J30, ?_⟩
              try simp only [List.setIfInBounds_toArray, List.set_cons_zero, List.set_cons_succ]
              refine nany_one 9 (by kernel_rfl) ?_
              refine nop_callE 50 (f := 38) (args := #[.pointer (some ⟨p, 0, none⟩)]) (R := fun v w' => ∃ a c, v = .agg #[.int .u32 k2, .slice a m2 c] ∧ By w' (New W30) a l2 ∧ m2 ≤ c ∧ RY w' 103 p r8 ∧ Mods (fun b => b = p) W30 w') rfl (by rfl) rfl (by go_simp) (readProof_is E8.out HL2.out J30.x) ?_
              rintro v W31 ⟨a31, c31, rfl, hy, hc31, hx, hm⟩
              have J31 := J30.call hx hm hy
              clear hy hx hm
              refine ⟨HYC.out _ _ _ _ _ J31, ?_⟩
              try simp only [List.setIfInBounds_toArray, List.set_cons_zero, List.set_cons_succ]
              refine nany_one 12 (by kernel_rfl) ?_
              obtain ⟨hPE, hzb⟩ := J31.lay k1 k2 c27 m1 c31 m2
              have hqa := (J31.a g30 rfl)
              have hqb := (J31.b g26 rfl)
              refine nop_skip (w' := (W31.setRow g30 #[.int .u32 k1, .slice a27 m1 c27])) rfl (by rfl) rfl (ex_store 80 _ _ rfl g30 #[.int .u32 k1, .slice a27 m1 c27] rfl rfl 80 _ hqa.2 sizeProof rfl (prC_one _ _ _ _)) ?_
              refine ⟨((setRow_mods W31 g30 _).cell (HYC.out _ _ _ _ _ J31) (fun e => by have h : q = g30 := e; have h1 := hqa.1; have h2 := (Array.getElem?_eq_some_iff.1 hZ0).1; omega)), ?_⟩
              try simp only [List.setIfInBounds_toArray, List.set_cons_zero, List.set_cons_succ]
              refine nany_one 13 (by kernel_rfl) ?_
              refine nop_skip (w' := (W31.setRow g30 #[.int .u32 k1, .slice a27 m1 c27]).setRow g26 #[.int .u32 k2, .slice a31 m2 c31]) rfl (by rfl) rfl (ex_store 80 _ _ rfl g26 #[.int .u32 k2, .slice a31 m2 c31] rfl rfl 80 _ hzb sizeProof rfl (prC_one _ _ _ _)) ?_
              refine ⟨((setRow_mods (W31.setRow g30 #[.int .u32 k1, .slice a27 m1 c27]) g26 _).cell ((setRow_mods W31 g30 _).cell (HYC.out _ _ _ _ _ J31) (fun e => by have h : q = g30 := e; have h1 := hqa.1; have h2 := (Array.getElem?_eq_some_iff.1 hZ0).1; omega)) (fun e => by have h : q = g26 := e; have h1 := hqb.1; have h2 := (Array.getElem?_eq_some_iff.1 hZ0).1; omega)), ?_⟩
              try simp only [List.setIfInBounds_toArray, List.set_cons_zero, List.set_cons_succ]
              refine wpAnyH_done (by kernel_rfl) ?_ _
              exact ⟨rfl, g30, g26, a27, c27, a31, c31, by kernel_rfl, hc27, hc31, hPE⟩
          · refine nop_value' 4 (v := .pointer (some ⟨W26.heap.size, 0, none⟩)) (w' := W26.alloc (.cells prZ 80)) rfl (by rfl) rfl (by kernel_rfl) ?_
            have J32 := J26.newA
            obtain ⟨g32, hg32⟩ : ∃ g, W26.heap.size = g := ⟨_, rfl⟩
            rw [hg32] at J32 ⊢
            obtain ⟨W32, hW32⟩ : ∃ W, W = W26.alloc (.cells prZ 80) := ⟨_, rfl⟩
            rw [← hW32] at J32 ⊢
            clear hW32 hg32
            refine ⟨HYC.out _ _ _ _ _ J32, ?_⟩
            try simp only [List.setIfInBounds_toArray, List.set_cons_zero, List.set_cons_succ]
            refine nany_one 4 (by kernel_rfl) ?_
            refine nop_callE 45 (f := 38) (args := #[.pointer (some ⟨p, 0, none⟩)]) (R := fun v w' => ∃ a c, v = .agg #[.int .u32 k1, .slice a m1 c] ∧ By w' (New W32) a l1 ∧ m1 ≤ c ∧ RY w' 103 p r7 ∧ Mods (fun b => b = p) W32 w') rfl (by rfl) rfl (by go_simp) (readProof_is E7.out HL1.out.1 J32.x) ?_
            rintro v W33 ⟨a33, c33, rfl, hy, hc33, hx, hm⟩
            have J33 := J32.call hx hm hy
            clear hy hx hm
            refine ⟨HYC.out _ _ _ _ _ J33, ?_⟩
            try simp only [List.setIfInBounds_toArray, List.set_cons_zero, List.set_cons_succ]
            refine nany_one 9 (by kernel_rfl) ?_
            refine nop_callE 50 (f := 38) (args := #[.pointer (some ⟨p, 0, none⟩)]) (R := fun v w' => ∃ a c, v = .agg #[.int .u32 k2, .slice a m2 c] ∧ By w' (New W33) a l2 ∧ m2 ≤ c ∧ RY w' 103 p r8 ∧ Mods (fun b => b = p) W33 w') rfl (by rfl) rfl (by go_simp) (readProof_is E8.out HL2.out J33.x) ?_
            rintro v W34 ⟨a34, c34, rfl, hy, hc34, hx, hm⟩
            have J34 := J33.call hx hm hy
            clear hy hx hm
            refine ⟨HYC.out _ _ _ _ _ J34, ?_⟩
            try simp only [List.setIfInBounds_toArray, List.set_cons_zero, List.set_cons_succ]
            refine nany_one 12 (by kernel_rfl) ?_
            obtain ⟨hPE, hzb⟩ := J34.lay k1 k2 c33 m1 c34 m2
            have hqa := (J34.a g32 rfl)
            have hqb := (J34.b g26 rfl)
            refine nop_skip (w' := (W34.setRow g32 #[.int .u32 k1, .slice a33 m1 c33])) rfl (by rfl) rfl (ex_store 80 _ _ rfl g32 #[.int .u32 k1, .slice a33 m1 c33] rfl rfl 80 _ hqa.2 sizeProof rfl (prC_one _ _ _ _)) ?_
            refine ⟨((setRow_mods W34 g32 _).cell (HYC.out _ _ _ _ _ J34) (fun e => by have h : q = g32 := e; have h1 := hqa.1; have h2 := (Array.getElem?_eq_some_iff.1 hZ0).1; omega)), ?_⟩
            try simp only [List.setIfInBounds_toArray, List.set_cons_zero, List.set_cons_succ]
            refine nany_one 13 (by kernel_rfl) ?_
            refine nop_skip (w' := (W34.setRow g32 #[.int .u32 k1, .slice a33 m1 c33]).setRow g26 #[.int .u32 k2, .slice a34 m2 c34]) rfl (by rfl) rfl (ex_store 80 _ _ rfl g26 #[.int .u32 k2, .slice a34 m2 c34] rfl rfl 80 _ hzb sizeProof rfl (prC_one _ _ _ _)) ?_
            refine ⟨((setRow_mods (W34.setRow g32 #[.int .u32 k1, .slice a33 m1 c33]) g26 _).cell ((setRow_mods W34 g32 _).cell (HYC.out _ _ _ _ _ J34) (fun e => by have h : q = g32 := e; have h1 := hqa.1; have h2 := (Array.getElem?_eq_some_iff.1 hZ0).1; omega)) (fun e => by have h : q = g26 := e; have h1 := hqb.1; have h2 := (Array.getElem?_eq_some_iff.1 hZ0).1; omega)), ?_⟩
            try simp only [List.setIfInBounds_toArray, List.set_cons_zero, List.set_cons_succ]
            refine wpAnyH_done (by kernel_rfl) ?_ _
            exact ⟨rfl, g32, g26, a33, c33, a34, c34, by kernel_rfl, hc33, hc34, hPE⟩
      · rintro a' w5 ⟨ga, gb, a1, c1, a2, c2, rfl, hc1, hc2, hpe⟩
        simp only [List.setIfInBounds_toArray, List.set_cons_zero, List.set_cons_succ]
        have hz5 : w5.heap[q]? = some (.cells (rgC p x pg vs pc 0 0 nilS nilS) 73 (0, 0)) := (hpe.m.block q (Array.getElem?_eq_some_iff.1 (show w4.drew.heap[q]? = _ from HZ4.out)).1 HQP.out).trans (show w4.drew.heap[q]? = _ from HZ4.out)
        have HZ5 := hid hz5
        have HP5 := hid hpe
        have HM5 := hid (HM4.out.drew.tr (hpe.m.weak (al' := fun b => b = p ∨ b = q) (fun b hb => .inl (.inl hb))))
        have y0 := cell_of hz5 (i := 0) (v := .pointer (some ⟨p, 0, none⟩)) rfl
        have HER := hid (RErr_any hpe.x)
        have HWS : Hid (w.heap.size ≤ w4.drew.heap.size) := hid HM4.out.size
        clear hpe hz5 HX4 HZ4 HM4 hlp hc1 hc2 E4 E5 E6 E7 E8
        obtain ⟨EE, hEE⟩ : ∃ e, r8.e = e := ⟨_, rfl⟩
        rw [hEE] at HER HU2
        clear hEE
        by_cases h0 : EE = 0
        · subst h0
          have HCL := hid (caller_any w5 k1 a1 m1 c1 l1 HL1.out.1 (by have := HL1.out; omega) HP5.out.y1.bytes k2 a2 m2 c2 l2 HL2.out)
          obtain ⟨⟨y, xu, xg, xs⟩, hxc⟩ : ∃ c, calP k1 l1 k2 l2 = c := ⟨_, rfl⟩
          rw [hxc] at HCL HU2
          have hyu : IsU y := by have := calP_u k1 l1 k2 l2; rw [hxc] at this; exact this
          have HYU := hid hyu
          obtain ⟨xn, hxn⟩ : ∃ n, xs.length = n := ⟨_, rfl⟩
          have HXN := hid hxn
          clear hxc hxn hyu
          by_cases hy : y = 0
          · subst hy
            have hU := HU2.out
            unfold upQ at hU
            rw [if_neg (by simp), if_neg (by simp)] at hU
            have HU := hid hU
            have HAS := hid (fun W => asked_any W pg vs pc)
            obtain ⟨ae, hae⟩ : ∃ z, askP pg vs pc = z := ⟨_, rfl⟩
            rw [hae] at HU HAS
            clear hU HU2 hae
            go_upto_region 13 with (first
              | (go_at_call 39; refine HER.out.mono ?_; rintro e w6 ⟨rfl, hw6⟩; rw [hw6]; clear hw6 HER)
              | (refine wpList_load_row rfl 80 _ rfl ga rfl 80 _ (0, 0) _ HP5.out.a.2 Tryd.underlying80 rfl sizeProof ?_)
              | (refine wpList_load_row rfl 80 _ rfl gb rfl 80 _ (0, 0) _ HP5.out.b.2 Tryd.underlying80 rfl sizeProof ?_)
              | (go_at_call 40
                 refine HCL.out.mono ?_
                 rintro e w6 ⟨hb6, ag, cg, rfl, hut, hcg⟩
                 simp only [HXN.out] at hcg ⊢
                 obtain ⟨gc, hgc⟩ : ∃ g, w6.heap.size = g := ⟨_, rfl⟩
                 obtain ⟨W7, hW7⟩ : ∃ W, W = w6.alloc (.cells (crC 0 0 none 0 0) 44) := ⟨_, rfl⟩
                 have b7 : Below w6.heap.size w6 W7 := by rw [hW7]; exact below_alloc (Below.refl _ _) (Nat.le_refl _) _
                 have z7 : W7.heap[gc]? = some (.cells (crC 0 0 none 0 0) 44 (0, 0)) := by rw [hW7, ← hgc]; exact alloc_new w6 _
                 obtain ⟨W8, hW8⟩ : ∃ W, W = W7.setRow gc (crC xu xg ag xn cg) := ⟨_, rfl⟩
                 have z8 : W8.heap[gc]? = some (.cells (crC xu xg ag xn cg) 44 (0, 0)) := by rw [hW8]; exact setRow_heap _ gc _ _ _ _ z7
                 have hq8 : Mods (fun b => b = gc) W7 W8 := by rw [hW8]; exact setRow_mods _ _ _
                 have b8 : Below w6.heap.size w6 W8 := hq8.to_below b7 b7.size (fun b hb => by have h : b = gc := hb; omega)
                 have B8 : Below w5.heap.size w5 W8 := hb6.trans (b8.mono hb6.size)
                 have hz8 := (B8.block q (Array.getElem?_eq_some_iff.1 HZ5.out).1).trans HZ5.out
                 have hQG : q < gc := by rw [← hgc]; have := (Array.getElem?_eq_some_iff.1 HZ5.out).1; have := hb6.size; omega
                 have HZ7 := hid z7
                 have HZ8 := hid z8
                 have HQ8 := hid hz8
                 have HX8 := hid (RX.later HP5.out.x B8)
                 have HM8 := hid (HM5.out.below B8)
                 have HUT := hid ((hut.later b8).weak (T' := New w) (fun b hb _ => by have h1 : w5.heap.size ≤ b := hb; have h2 := HM5.out.size; show w.heap.size ≤ b; omega))
                 have HCG := hid hcg
                 have HQG := hid hQG
                 have y1 := cell_of hz8 (i := 1) (v := .int .u32 x) rfl
                 have y2 := cell_of hz8 (i := 2) (v := .int .u32 pg) rfl
                 have y3 := cell_of hz8 (i := 3) (v := .int .u32 vs) rfl
                 have y4 := cell_of hz8 (i := 4) (v := .int .u32 pc) rfl
                 have hW7' := hW7.symm
                 have hW8' := hW8.symm
                 clear hb6 hut hcg b7 z7 z8 hq8 b8 B8 hz8 hQG hW7 hW8 HCL)
              | ((try rw [hW7']); refine wpList_store_row rfl 44 _ _ rfl gc (crC xu xg ag xn cg) rfl rfl 44 _ HZ7.out sizeCred rfl (crC_one _ _ _ _ _) ?_; (try rw [hW8']))
              | (refine wpList_load_row rfl 44 _ rfl gc rfl 44 _ (0, 0) _ HZ8.out Tryd.underlying44 rfl sizeCred ?_)
              | (refine wpList_store_mid rfl 44 _ _ rfl q 5 (crC xu xg ag xn cg) rfl rfl (there_of HQ8.out (by simp)) sizeCred (crC_one _ _ _ _ _) ?_))
            have hqs := setCells_mods q [.int .u32 xu, .int .u32 xg, .slice ag xn cg] W8 5
            have hzs : (W8.setCells q 5 [.int .u32 xu, .int .u32 xg, .slice ag xn cg]).heap[q]? = some (.cells (rgC p x pg vs pc xu xg (.slice ag xn cg) nilS) 73 (0, 0)) := setCells_heap _ _ _ 5 HQ8.out
            obtain ⟨W9, hW9⟩ : ∃ W, W8.setCells q 5 [.int .u32 xu, .int .u32 xg, .slice ag xn cg] = W := ⟨_, rfl⟩
            rw [hW9] at hqs hzs
            (try rw [hW9])
            have HX9 := hid (RY.side HX8.out hqs (fun b hb => by have h : b = q := hb; have := HPQ.out; omega))
            have HM9 := hid (HM8.out.trans hqs (fun b hb => .inl (.inr hb)))
            have HUT9 := hid ((HUT.out.keep hqs.size (fun b hb hl => hqs.block b hl (fun e => by have h : b = q := e; have h1 : w.heap.size ≤ b := hb; have := HQL.out; omega))))
            have HQ9 := hid hzs
            have z2 : W9.drew.cell? ⟨q, 2, none⟩ = some (.int .u32 pg) := cell_of (show W9.drew.heap[q]? = _ from hzs) (i := 2) rfl
            have z3 : W9.drew.cell? ⟨q, 3, none⟩ = some (.int .u32 vs) := cell_of (show W9.drew.heap[q]? = _ from hzs) (i := 3) rfl
            have z4 : W9.drew.cell? ⟨q, 4, none⟩ = some (.int .u32 pc) := cell_of (show W9.drew.heap[q]? = _ from hzs) (i := 4) rfl
            clear hqs hzs hW9 y0 y1 y2 y3 y4 HX8 HM8 HQ8 HUT
            go_region_held3 (fun w' => w'.cell? ⟨q, 2, none⟩ = some (.int .u32 pg) ∧ w'.cell? ⟨q, 3, none⟩ = some (.int .u32 vs) ∧ w'.cell? ⟨q, 4, none⟩ = some (.int .u32 pc)) (exact ⟨z2, z3, z4⟩)
              ((go_at_call 42; refine (HAS.out _).mono ?_; rintro e wz ⟨rfl, rfl⟩))
            go_wp2
            go_ret
            rw [← HU.out]
            have hb9 := (Below.refl W9.heap.size W9).drew
            refine ⟨⟨_, rfl, ?_⟩, RX.later HX9.out hb9, HM9.out.drew, pg, vs, pc, xu, xg, ag, xn, cg, HQ9.out, fun _ => ⟨rfl, rfl, rfl, rfl, rfl, HUT9.out.later hb9, HXN.out, HCG.out⟩⟩
            unfold erV
            by_cases ha : ae = 0
            · rw [if_pos ha]
              simp only [if_pos ha]
              rfl
            · rw [if_neg ha]
              simp only [if_neg ha]
              rfl
          · have hU := HU2.out
            unfold upQ at hU
            rw [if_neg (by simp), if_pos hy] at hU
            have HU := hid hU
            have hyb : (y != 0) = true := by simpa using hy
            clear hU HU2 hy
            go_wp2_with (first
              | (go_at_call 39; refine HER.out.mono ?_; rintro e w6 ⟨rfl, hw6⟩; rw [hw6]; clear hw6 HER)
              | (refine wpList_load_row rfl 80 _ rfl ga rfl 80 _ (0, 0) _ HP5.out.a.2 Tryd.underlying80 rfl sizeProof ?_)
              | (refine wpList_load_row rfl 80 _ rfl gb rfl 80 _ (0, 0) _ HP5.out.b.2 Tryd.underlying80 rfl sizeProof ?_)
              | (go_at_call 40
                 refine HCL.out.mono ?_
                 rintro e w6 ⟨hb6, ag, cg, rfl, hut, hcg⟩
                 simp only [HXN.out] at hcg ⊢
                 obtain ⟨gc, hgc⟩ : ∃ g, w6.heap.size = g := ⟨_, rfl⟩
                 obtain ⟨W7, hW7⟩ : ∃ W, W = w6.alloc (.cells (crC 0 0 none 0 0) 44) := ⟨_, rfl⟩
                 have b7 : Below w6.heap.size w6 W7 := by rw [hW7]; exact below_alloc (Below.refl _ _) (Nat.le_refl _) _
                 have z7 : W7.heap[gc]? = some (.cells (crC 0 0 none 0 0) 44 (0, 0)) := by rw [hW7, ← hgc]; exact alloc_new w6 _
                 obtain ⟨W8, hW8⟩ : ∃ W, W = W7.setRow gc (crC xu xg ag xn cg) := ⟨_, rfl⟩
                 have z8 : W8.heap[gc]? = some (.cells (crC xu xg ag xn cg) 44 (0, 0)) := by rw [hW8]; exact setRow_heap _ gc _ _ _ _ z7
                 have hq8 : Mods (fun b => b = gc) W7 W8 := by rw [hW8]; exact setRow_mods _ _ _
                 have b8 : Below w6.heap.size w6 W8 := hq8.to_below b7 b7.size (fun b hb => by have h : b = gc := hb; omega)
                 have B8 : Below w5.heap.size w5 W8 := hb6.trans (b8.mono hb6.size)
                 have hz8 := (B8.block q (Array.getElem?_eq_some_iff.1 HZ5.out).1).trans HZ5.out
                 have hQG : q < gc := by rw [← hgc]; have := (Array.getElem?_eq_some_iff.1 HZ5.out).1; have := hb6.size; omega
                 have HZ7 := hid z7
                 have HZ8 := hid z8
                 have HQ8 := hid hz8
                 have HX8 := hid (RX.later HP5.out.x B8)
                 have HM8 := hid (HM5.out.below B8)
                 have HUT := hid ((hut.later b8).weak (T' := New w) (fun b hb _ => by have h1 : w5.heap.size ≤ b := hb; have h2 := HM5.out.size; show w.heap.size ≤ b; omega))
                 have HCG := hid hcg
                 have HQG := hid hQG
                 have y1 := cell_of hz8 (i := 1) (v := .int .u32 x) rfl
                 have y2 := cell_of hz8 (i := 2) (v := .int .u32 pg) rfl
                 have y3 := cell_of hz8 (i := 3) (v := .int .u32 vs) rfl
                 have y4 := cell_of hz8 (i := 4) (v := .int .u32 pc) rfl
                 have hW7' := hW7.symm
                 have hW8' := hW8.symm
                 clear hb6 hut hcg b7 z7 z8 hq8 b8 B8 hz8 hQG hW7 hW8 HCL)
              | ((try rw [hW7']); refine wpList_store_row rfl 44 _ _ rfl gc (crC xu xg ag xn cg) rfl rfl 44 _ HZ7.out sizeCred rfl (crC_one _ _ _ _ _) ?_; (try rw [hW8']))
              | (go_at_call 41
                 refine (refused_new W8 x HUX.out [1, y] (fun z hz => by simp only [List.mem_cons, List.mem_nil_iff, or_false] at hz; rcases hz with rfl | rfl; unfold IsU; omega; exact HYU.out) 2 rfl (by omega) 20 rfl).mono ?_
                 rintro e w9 h9
                 obtain ⟨a9, c9, rfl, hy9, hc9, hb9⟩ := h9.by_ (nuL_isB 4 _)
                 have hsz : w.heap.size ≤ w9.heap.size := Nat.le_trans HM8.out.size hb9.size
                 have HW := hid (wrg_new (e := 32) hsz (hy9.weak (fun b hb _ => Nat.le_trans HM8.out.size hb)) (by rw [nuL_len]; rfl) hc9)
                 have HB9 := hid (hb9.alloc hb9.size (.cells #[.int .i64 32, .slice a9 20 c9] 56))
                 clear h9 hy9 hc9 hb9 hsz))
            go_ret
            rw [← HU.out]
            exact ⟨⟨_, rfl, HW.out⟩, RX.later HX8.out HB9.out, HM8.out.below HB9.out, pg, vs, pc, 0, 0, none, 0, 0, (HB9.out.block q (Array.getElem?_eq_some_iff.1 HQ8.out).1).trans HQ8.out, fun e => nomatch e⟩
        · have hU := HU2.out
          unfold upQ at hU
          rw [if_pos h0] at hU
          have HU := hid hU
          have h0b : (EE != 0) = true := by simpa using h0
          clear hU h0 HU2
          go_wp2_with (go_at_call 39; refine HER.out.mono ?_; rintro e w6 ⟨rfl, hw6⟩; rw [hw6]; clear hw6 HER)
          go_ret
          rw [← HU.out]
          exact ⟨⟨_, rfl, rfl⟩, HP5.out.x, HM5.out, pg, vs, pc, 0, 0, none, 0, 0, HZ5.out, fun e => nomatch e⟩
end Go.Proofs.YtbfdkbdjipiliaaDoor
