/- step, Pick. -/
import Derived.Test.YtacmdhlemolngaaScJ
namespace Go.Proofs.Ytacmdhlemolngaa
open Go.RowKit Go.Maps

/-- A number modulo n, from 0 on. -/
def wi (at_ n : Int) : Int := if at_.tmod n < 0 then at_.tmod n + n else at_.tmod n
theorem wi_bd (at_ n : Int) (h : 0 < n) : 0 ≤ wi at_ n ∧ wi at_ n < n := by
  unfold wi
  have h1 := Int.tmod_lt_of_pos at_ h
  have h2 : -n < at_.tmod n := by
    rcases Int.lt_or_le at_ 0 with h3 | h3
    · have h4 := Int.neg_tmod (-at_) n
      rw [Int.neg_neg] at h4
      rw [h4]
      have := Int.tmod_lt_of_pos (-at_) h
      omega
    · have := Int.tmod_nonneg n h3
      omega
  split <;> omega
theorem wrap_wi {x n : Int} (h0 : 0 < n) (hn : n < 1099511627776) (h : x.tmod n < 0) : IntKind.i64.wrap (x.tmod n + n) = x.tmod n + n := by
  have h1 := wi_bd x n h0
  unfold wi at h1
  rw [if_pos h] at h1
  exact IntWalk.i64_in _ (by omega)
set_option maxHeartbeats 400000 in
theorem within_any (x n : Int) (h0 : 0 < n) (hn : n < 1099511627776) (w : World) : Calls Try.prog 24 #[.int .i64 x, .int .i64 n] w fun e w' => e = .returned (.int .i64 (wi x n)) ∧ w' = w := by
  have hne : ¬ (n = 0) := by omega
  have hne' : n ≠ 0 := by omega
  by_cases h : x.tmod n < 0
  · have hw := wrap_wi h0 hn h
    have e : wi x n = x.tmod n + n := by unfold wi; rw [if_pos h]
    rw [e]
    go_enter Try.func24, Try.ntmps24
    go_wp2
    go_ret
    exact ⟨rfl, rfl⟩
  · have e : wi x n = x.tmod n := by unfold wi; rw [if_neg h]
    rw [e]
    go_enter Try.func24, Try.ntmps24
    go_wp2
    go_ret
    exact ⟨rfl, rfl⟩
set_option maxHeartbeats 400000 in
theorem oneOf_any (x n : Int) (h0 : 0 < n) (hn : n < 1099511627776) (w : World) : Calls Try.prog 44 #[.int .i64 n, .int .i64 x] w fun e w' => e = .returned (.int .i64 (wi x n)) ∧ w' = w := by
  have hne : ¬ (n = 0) := by omega
  have hne' : n ≠ 0 := by omega
  by_cases h : x.tmod n < 0
  · have hw := wrap_wi h0 hn h
    have e : wi x n = x.tmod n + n := by unfold wi; rw [if_pos h]
    rw [e]
    go_enter Try.func44, Try.ntmps44
    go_wp2
    go_ret
    exact ⟨rfl, rfl⟩
  · have e : wi x n = x.tmod n := by unfold wi; rw [if_neg h]
    rw [e]
    go_enter Try.func44, Try.ntmps44
    go_wp2
    go_ret
    exact ⟨rfl, rfl⟩
section
variable {w w' : World} {p n : Nat} {lab : Nat → Own} {A : Ab} {vw vq va : Value} {bs bl : Nat} {MS ML : Int → Option Value}
set_option maxRecDepth 100000 in
set_option maxHeartbeats 2000000 in
theorem step_any (h : Sc w p lab A n) (x : Int) (hx : A.has x = true) (T : TypeId) (b : Nat) (ht : (A.wk x).t = some (T, b)) (f : FuncId) (hmeth : ∀ w : World, (method 272 T (.pointer (some ⟨b, 0, none⟩)) "Step").run Try.prog w = .ok (f, .pointer (some ⟨b, 0, none⟩)) w) (hcf : ∀ (args : Array Value) (w : World), (callFunc f args).run Try.prog w = .ok (.enter f args) w) (R : World → (Nat → Own) → Ab → Nat → Prop)
    (hS : ∀ w1, Sc w1 p lab { A with stp := true } n → Keep lab w lab w1 → Calls Try.prog f #[.pointer (some ⟨b, 0, none⟩), .pointer (some ⟨p, 0, none⟩), .int .i64 x] w1 fun e w2 => e = .returned undef ∧ ∃ lab2 A2 n2, R w2 lab2 A2 n2 ∧ Sc w2 p lab2 A2 n2 ∧ A2.q.length ≤ 549755813888 ∧ A2.has x = true) :
    Calls Try.prog 46 #[.pointer (some ⟨p, 0, none⟩), .int .i64 x] w fun e w3 => e = .returned undef ∧ ∃ w2 lab2 A2 n2, R w2 lab2 A2 n2 ∧ Goes w2 w3 p lab2 (A2.ended x) n2 := by
  obtain ⟨vw, vq, va, bs, bl, MS, ML, d⟩ := h
  have c6 := (d.cells).2.2.2.2.2.2
  have c0 := (d.cells).1
  have f6 := d.froz 6
  obtain ⟨W1, hW1⟩ : ∃ W1, W1 = w.setCell ⟨p, 6, none⟩ (.bool true) := ⟨_, rfl⟩
  obtain ⟨d1, hK1⟩ := d.toStp true hW1
  obtain ⟨x0, x1, x2⟩ := Ab.has_lt hx
  have x4 : x < (A.ws.length : Int) := by omega
  obtain ⟨g, c, hvw, hlg, t0, t1, t2, _⟩ := d1.worker (i := x.toNat) x1
  have hgp : ¬ g = p := fun e => by rw [e, d.lp] at hlg; cases hlg
  change W1.cell? ⟨g, x.toNat * 3, none⟩ = some (tv (A.wk x).t) at t0
  rw [ht] at t0
  change W1.cell? ⟨g, x.toNat * 3, none⟩ = some (.iface T (.pointer (some ⟨b, 0, none⟩))) at t0
  have HS := hid (hS W1 ⟨_, _, _, _, _, _, _, d1⟩ hK1)
  subst hvw
  clear d d1 hK1 hlg t1 t2 x1 hx hS
  generalize A.ws.length = wl at *
  subst hW1
  go_enter_defers Try.func46, Try.ntmps46
  go_wp2_with fail
  refine HS.out.mono ?_
  rintro e w2 ⟨rfl, lab2, A2, n2, hR, hS2, hq, hx2⟩
  have HE := hid (endStep_any hS2 hq x hx2 .returning)
  have HR := hid hR
  clear hR hS2 hq hx2
  go_wp2
  refine leaves_cons (f := 63) (args := #[.pointer (some ⟨p, 0, none⟩), .int .i64 x]) (by simp) (by simp [go_sem]) ?_
  refine HE.out.mono ?_
  rintro e u' w3 ⟨rfl, rfl, hG⟩
  exact ⟨_, results_none rfl _ _ _, rfl, w2, lab2, A2, n2, HR.out, hG⟩
theorem Pick_none (h : Sc w p lab A n) (hs : A.stp = false) (hq : A.q = []) (i : Int) :
    Calls Try.prog 18 #[.pointer (some ⟨p, 0, none⟩), .int .i64 i] w fun e w' => e = .returned (.tuple #[.int .i64 0, .int .i64 2]) ∧ w' = w := by
  obtain ⟨vw, vq, va, bs, bl, MS, ML, d⟩ := h
  obtain ⟨_, c1, _, _, _, _, c6⟩ := d.cells
  rw [hs] at c6
  obtain ⟨a, c, hvq⟩ := owns_slice d.cq.1
  rw [hq] at hvq
  simp only [List.length_nil] at hvq
  subst hvq
  clear d hq hs
  go_enter Try.func18, Try.ntmps18
  go_wp2
  go_ret2
  exact ⟨rfl, rfl⟩
def pickAt (A : Ab) (i : Int) : Nat := (wi i A.q.length).toNat
theorem pickAt_lt (A : Ab) (i : Int) (hq : A.q ≠ []) : pickAt A i < A.q.length ∧ ((pickAt A i : Nat) : Int) = wi i A.q.length := by
  have h0 : 0 < A.q.length := List.length_pos_iff.2 hq
  have := wi_bd i A.q.length (by omega)
  unfold pickAt
  omega
set_option maxRecDepth 100000 in
set_option maxHeartbeats 2000000 in
theorem Pick_some (h : Sc w p lab A n) (hs : A.stp = false) (hq : A.q ≠ []) (hl : A.q.length ≤ 549755813888) (i : Int) (Q : World → Prop)
    (hst : ∀ w1 lab1, Sc w1 p lab1 { A with q := A.q.eraseIdx (pickAt A i) } n → Keep lab w lab1 w1 → Calls Try.prog 46 #[.pointer (some ⟨p, 0, none⟩), .int .i64 (A.q.getD (pickAt A i) 0)] w1 fun e w3 => e = .returned undef ∧ Q w3) :
    Calls Try.prog 18 #[.pointer (some ⟨p, 0, none⟩), .int .i64 i] w fun e w' => e = .returned (.tuple #[.int .i64 (A.q.getD (pickAt A i) 0), .int .i64 0]) ∧ Q w' := by
  obtain ⟨vw, vq, va, bs, bl, MS, ML, d⟩ := h
  obtain ⟨_, c1, _, _, _, _, c6⟩ := d.cells
  rw [hs] at c6
  obtain ⟨k1, k2⟩ := pickAt_lt A i hq
  have h0 : 0 < A.q.length := List.length_pos_iff.2 hq
  have HO := hid (oneOf_any i A.q.length (by omega) (by omega) w)
  rw [← k2] at HO
  obtain ⟨g, c, hvq, hcx, _, hg⟩ := owns_int d.cq.1 k1
  have hd := Delete_row w g c (pickAt A i) (pickAt A i + 1) 0 A.q A.q.length rfl (by rw [← hvq]; exact d.cq.1) (by omega) (by omega)
  rw [← List.eraseIdx_eq_take_drop_succ] at hd
  have hle : (A.q.eraseIdx (pickAt A i)).length = A.q.length - (pickAt A i + 1 - pickAt A i) := by rw [List.length_eraseIdx_of_lt k1]; omega
  rw [← hle] at hd
  rw [show ((pickAt A i + 1 : Nat) : Int) = (pickAt A i : Int) + 1 by omega] at hd
  have HD := hid hd
  have HQ : Hid (∀ w2, w2.ownsRow 0 3 1 (.slice (some ⟨g, 0, none⟩) (A.q.eraseIdx (pickAt A i)).length c) (A.q.eraseIdx (pickAt A i)).length (ints (A.q.eraseIdx (pickAt A i))) → Mods (fun b => b = g) w w2 → w2.cell? ⟨p, 1, none⟩ = some vq ∧ w2.frozen? ⟨p, 1, none⟩ = false ∧ Calls Try.prog 46 #[.pointer (some ⟨p, 0, none⟩), .int .i64 (A.q.getD (pickAt A i) 0)] (w2.setCell ⟨p, 1, none⟩ (.slice (some ⟨g, 0, none⟩) (A.q.eraseIdx (pickAt A i)).length c)) fun e w3 => e = .returned undef ∧ Q w3) := hid (fun w2 h2 h3 => by
    obtain ⟨j1, j2, lab1, j3, j4⟩ := d.setQ h2 (h3.weak (fun b e => .inl (by rw [e, hvq]; rfl))) (.inl (by rw [hvq]; rfl))
    exact ⟨j1, j2, hst _ lab1 j3 j4⟩)
  subst hvq
  have hw1 : IntKind.i64.wrap ((pickAt A i : Int) + 1) = (pickAt A i : Int) + 1 := IntWalk.i64_in _ (by omega)
  have hk0 : ((A.q.length : Int) == 0) = false := by rw [beq_eq_false_iff_ne]; omega
  have hk1 : (pickAt A i : Int) < (A.q.length : Int) := by omega
  clear d hd hle k2 hst hs hq
  generalize (A.q.eraseIdx (pickAt A i)).length = ln2 at *
  generalize A.q.getD (pickAt A i) 0 = x at *
  generalize hln : A.q.length = ln at *
  generalize pickAt A i = k at *
  clear hln
  go_enter Try.func18, Try.ntmps18
  go_wp2_with (first | (go_at_call 44; refine HO.out.mono ?_; rintro e w1 ⟨rfl, hw1⟩; rw [hw1]; clear hw1) | (go_at_call 45; refine HD.out.mono ?_; rintro e w2 ⟨rfl, h2, h3⟩; obtain ⟨j1, j2, j3⟩ := HQ.out w2 h2 h3; have HJ3 := hid j3; clear h2 h3 j3) | (go_at_call 46; refine HJ3.out.mono ?_; rintro e w4 ⟨rfl, hQ⟩; have HQ4 := hid hQ; clear hQ))
  go_ret2
  exact ⟨rfl, HQ4.out⟩
end
end Go.Proofs.Ytacmdhlemolngaa
