/- SchedExits: workers that are ready, wait for a lock, or have ended. -/
import Derived.Test.YtacmdhlemolngaaScZ
import Derived.Test.YtacmdhlemolngaaScV
namespace Go.Proofs.Ytacmdhlemolngaa
open Go.RowKit Go.Maps

theorem setw_t (l : List Wk) (x st row : Int) (i : Nat) : ((setw l x st row).getD i default).t = (l.getD i default).t := by
  unfold setw
  by_cases e : x.toNat = i
  · subst e
    by_cases h : x.toNat < l.length
    · simp [List.getD, h]
    · simp [List.getD, h]
  · simp [List.getD, e]
theorem rdy_t (i : Nat) : ∀ (ids : List Int) (l : List Wk), ((rdy l ids).getD i default).t = (l.getD i default).t
  | [], _ => rfl
  | x :: r, l => by
    show ((rdy (setw l x 1 0) r).getD i default).t = _
    rw [rdy_t i r, setw_t]
theorem hand_t (A : Ab) (k y : Int) : ((A.hand k).wk y).t = (A.wk y).t := by
  unfold Ab.hand
  split
  · rfl
  · exact rdy_t _ _ _
theorem hand_stp (A : Ab) (k : Int) : (A.hand k).stp = A.stp := by
  unfold Ab.hand
  split <;> rfl
theorem hands_stp : ∀ (L : List Int) (A : Ab), (A.hands L).stp = A.stp
  | [], _ => rfl
  | k :: L, A => by show ((A.hand k).hands L).stp = _; rw [hands_stp, hand_stp]
theorem leave_stp (A : Ab) (x : Int) : (A.leave x).stp = A.stp := by unfold Ab.leave; split <;> (try split) <;> (try split) <;> (try split) <;> rfl
theorem fin_stp (A : Ab) (x : Int) : (A.fin x).stp = A.stp := leave_stp A x
/-- Ready, Locked for one of four locks, or ended; nobody that has ended holds a lock. -/
structure Ey (A : Ab) (N : Nat) : Prop where
  inv : Inv A none
  len : A.ws.length = N
  hd : Hd A
  stp : A.stp = false
  st : ∀ x, A.has x = true → (A.wk x).st = 1 ∨ (A.wk x).st = 3 ∨ (A.wk x).st = 5
  row : ∀ x, A.has x = true → (A.wk x).st = 3 → 0 ≤ (A.wk x).row ∧ (A.wk x).row < 4
  tk : ∀ x, A.has x = true → (A.wk x).st ≠ 5 → ∃ c, (A.wk x).t = some (106, c)
theorem Ey.has {A : Ab} {N : Nat} (h : Ey A N) {x : Int} (h0 : 0 ≤ x) (h1 : x < N) : A.has x = true := by unfold Ab.has; rw [h.len]; simp; exact ⟨h0, h1⟩
theorem Ey.start (cs : List Nat) : Ey (tS 106 cs 0) cs.length := by
  have hk : ∀ x, (tS 106 cs 0).has x = true → ∃ c, (tS 106 cs 0).wk x = ⟨some (106, c), 1, 0⟩ := fun x hx => by
    rw [tS_has] at hx
    simp at hx
    obtain ⟨i, rfl⟩ : ∃ i : Nat, x = i := ⟨x.toNat, by omega⟩
    exact ⟨_, tS_wk _ cs 0 i (by omega)⟩
  refine ⟨tS_inv _ _ _, tS_len _ _ _, fun k _ y hy => by simp [tS] at hy, rfl, fun x hx => ?_, fun x hx h => ?_, fun x hx _ => ?_⟩
  · obtain ⟨c, e⟩ := hk x hx; rw [e]; exact .inl rfl
  · obtain ⟨c, e⟩ := hk x hx; rw [e] at h; exact absurd h (by show ¬ (1 : Int) = 3; omega)
  · obtain ⟨c, e⟩ := hk x hx; rw [e]; exact ⟨c, rfl⟩
theorem lockS_wk {A : Ab} (x k y : Int) (hy : A.has y = true) : (lockS A x k).has y = true ∧ ((lockS A x k).wk y = A.wk y ∨ (y = x ∧ (A.wk x).st = 1 ∧ (lockS A x k).wk x = ⟨(A.wk x).t, 3, k⟩)) := by
  unfold lockS
  split
  · rename_i h
    obtain ⟨hx, h1⟩ := allow_ready h
    split
    · exact ⟨hy, .inl rfl⟩
    · split
      · exact ⟨hy, .inl rfl⟩
      · refine ⟨by rw [has_setw (A := A) (B := ({ A.send x 3 k with lk := upd A.lk k (A.lk k ++ [x]) } : Ab)) rfl]; exact hy, ?_⟩
        by_cases e : y = x
        · exact .inr ⟨e, h1, wk_setw_same (A := A) (B := ({ A.send x 3 k with lk := upd A.lk k (A.lk k ++ [x]) } : Ab)) hx rfl⟩
        · exact .inl (wk_setw_other (A := A) (B := ({ A.send x 3 k with lk := upd A.lk k (A.lk k ++ [x]) } : Ab)) hx (has_bd hy).1 e rfl)
  · exact ⟨hy, .inl rfl⟩
theorem lockS_len (A : Ab) (x k : Int) : (lockS A x k).ws.length = A.ws.length := by
  unfold lockS
  split
  · split
    · rfl
    · split
      · rfl
      · exact setw_len _ _ _ _
  · rfl
theorem lockS_stp (A : Ab) (x k : Int) : (lockS A x k).stp = A.stp := by
  unfold lockS
  split
  · split
    · rfl
    · split
      · rfl
      · exact leave_stp A x
  · rfl
theorem lockS_head {A : Ab} (x k j y : Int) (h : ((lockS A x k).lk j).head? = some y) : (A.lk j).head? = some y ∨ (y = x ∧ A.has x = true ∧ (A.wk x).st = 1) := by
  unfold lockS at h
  split at h
  · rename_i ha
    obtain ⟨hx, h1⟩ := allow_ready ha
    split at h
    · have h' : (upd A.lk k [x] j).head? = some y := h
      rw [upd_at] at h'
      split at h'
      · exact .inr ⟨by simpa using h'.symm, hx, h1⟩
      · exact .inl h'
    · rename_i hne
      split at h
      · exact .inl h
      · have h' : (upd A.lk k (A.lk k ++ [x]) j).head? = some y := h
        rw [upd_at] at h'
        split at h'
        · rename_i e
          rw [e]
          cases hl : A.lk k with
          | nil => exact absurd hl hne
          | cons a t => rw [hl] at h'; exact .inl h'
        · exact .inl h'
  · exact .inl h
theorem Hd.lockS {A : Ab} {r : Option Int} (I : Inv A r) (D : Hd A) (x k : Int) : Hd (Go.Proofs.Ytacmdhlemolngaa.lockS A x k) := fun j hj y hy h5 => by
  rcases lockS_head x k j y hy with h | ⟨e, hx, h1⟩
  · have hy2 : A.has y = true := I.l0 j y (List.mem_of_mem_head? h)
    rcases (lockS_wk x k y hy2).2 with e | ⟨e, _, e2⟩
    · rw [e] at h5; exact D j hj y h h5
    · rw [e, e2] at h5; exact absurd h5 (by show ¬ (3 : Int) = 5; omega)
  · subst e
    rcases (lockS_wk y k y hx).2 with e | ⟨_, _, e2⟩
    · rw [e] at h5; omega
    · rw [e2] at h5; exact absurd h5 (by show ¬ (3 : Int) = 5; omega)
theorem Ey.lock {A : Ab} {N : Nat} (h : Ey A N) (x k : Int) (hk : 0 ≤ k ∧ k < 4) : Ey (lockS A x k) N := by
  have hh : ∀ y, (lockS A x k).has y = A.has y := fun y => by unfold Ab.has; rw [lockS_len]
  refine ⟨h.inv.lockS x k (isI_of (by omega) (by omega)), by rw [lockS_len]; exact h.len, h.hd.lockS h.inv x k, by rw [lockS_stp]; exact h.stp, fun y hy => ?_, fun y hy h3 => ?_, fun y hy h5 => ?_⟩
  all_goals rw [hh] at hy
  · rcases (lockS_wk x k y hy).2 with e | ⟨e, _, e2⟩
    · rw [e]; exact h.st y hy
    · rw [e, e2]; exact .inr (.inl rfl)
  · rcases (lockS_wk x k y hy).2 with e | ⟨e, _, e2⟩
    · rw [e] at h3 ⊢; exact h.row y hy h3
    · rw [e, e2]; exact hk
  · rcases (lockS_wk x k y hy).2 with e | ⟨e, e1, e2⟩
    · rw [e] at h5 ⊢; exact h.tk y hy h5
    · rw [e] at hy
      rw [e, e2]
      exact h.tk x hy (by omega)
theorem hands_ey {N : Nat} : ∀ {L : List Int} {A : Ab}, Inv A none → ∀ y, A.has y = true → ((A.hands L).wk y).t = (A.wk y).t ∧ ((A.hands L).wk y = A.wk y ∨ ((A.hands L).wk y).st = 1)
  | [], _, _, y, hy => ⟨rfl, .inl rfl⟩
  | k :: L, A, I, y, hy => by
    obtain ⟨h1, h2⟩ := hand_wk I k hy
    obtain ⟨h3, h4⟩ := hands_ey (N := N) (L := L) (I.hand k) y h1
    refine ⟨h3.trans (hand_t A k y), ?_⟩
    rcases h4 with e | e
    · rcases h2 with f | f
      · exact .inl (e.trans f)
      · refine .inr ?_
        show (((A.hand k).hands L).wk y).st = 1
        rw [e]; exact f.2
    · exact .inr e
theorem Ey.exit {A : Ab} {N : Nat} (h : Ey A N) {x : Int} (hx : A.has x = true) {L : List Int} (hL : Holds (A.fin x) x L) : Ey ((A.fin x).hands L) N ∧ ∀ y, A.has y = true → ((((A.fin x).hands L).wk y).st = 5 ↔ y = x ∨ (A.wk y).st = 5) := by
  obtain ⟨h1, h2, h3, h4⟩ := exit_all h.inv h.hd hx hL
  obtain ⟨f1, f2, f3, f4⟩ := fin_wk hx
  have hh : ∀ y, ((A.fin x).hands L).has y = A.has y := fun y => by unfold Ab.has; rw [h3]
  have hw : ∀ y, A.has y = true → (((A.fin x).hands L).wk y).t = ((A.fin x).wk y).t ∧ (((A.fin x).hands L).wk y = (A.fin x).wk y ∨ (((A.fin x).hands L).wk y).st = 1) := fun y hy => hands_ey (N := N) (h.inv.fin hx) y (by rw [f2]; exact hy)
  refine ⟨⟨h1, by rw [h3]; exact h.len, h2, by rw [hands_stp, fin_stp]; exact h.stp, fun y hy => ?_, fun y hy e3 => ?_, fun y hy e5 => ?_⟩, h4⟩
  all_goals rw [hh] at hy
  · rcases (hw y hy).2 with e | e
    · rw [e]
      by_cases ex : y = x
      · rw [ex, f3]; exact .inr (.inr rfl)
      · rw [f4 y (has_bd hy).1 ex]; exact h.st y hy
    · exact .inl e
  · rcases (hw y hy).2 with e | e
    · rw [e] at e3 ⊢
      by_cases ex : y = x
      · rw [ex, f3] at e3; exact absurd e3 (by show ¬ (5 : Int) = 3; omega)
      · rw [f4 y (has_bd hy).1 ex] at e3 ⊢; exact h.row y hy e3
    · rw [e] at e3; exact absurd e3 (by omega)
  · rw [(hw y hy).1]
    by_cases ex : y = x
    · exact absurd ((h4 y hy).2 (.inl ex)) e5
    · rw [f4 y (has_bd hy).1 ex]
      exact h.tk y hy (fun e => e5 ((h4 y hy).2 (.inr e)))
/-- Each one's mark: whether it has ended. -/
def Mk (A : Ab) (N : Nat) (en : List Bool) : Prop := en.length = N ∧ ∀ i, i < N → (en.getD i false = true ↔ (A.wk (i : Int)).st = 5)
theorem Mk.start (cs : List Nat) : Mk (tS 106 cs 0) cs.length (List.replicate cs.length false) := ⟨by simp, fun i hi => by
  rw [tS_wk _ cs 0 i hi]
  simp [List.getD, hi]⟩
theorem Mk.lock {A : Ab} {N : Nat} {en : List Bool} (h : Mk A N en) (hl : A.ws.length = N) (x k : Int) : Mk (lockS A x k) N en := ⟨h.1, fun i hi => by
  rw [h.2 i hi]
  rcases (lockS_wk x k (i : Int) (by unfold Ab.has; rw [hl]; simpa using hi)).2 with e | ⟨e, e1, e2⟩
  · rw [e]
  · rw [e, e2]
    constructor
    · intro h5; omega
    · intro h5; exact absurd h5 (by show ¬ (3 : Int) = 5; omega)⟩
theorem Mk.exit {A B : Ab} {N : Nat} {en : List Bool} (h : Mk A N en) (hl : A.ws.length = N) {x : Nat} (hx : x < N) (hB : ∀ y, A.has y = true → ((B.wk y).st = 5 ↔ y = (x : Int) ∨ (A.wk y).st = 5)) : Mk B N (en.set x true) := ⟨by simpa using h.1, fun i hi => by
  rw [hB i (by unfold Ab.has; rw [hl]; simpa using hi)]
  by_cases e : x = i
  · subst e
    simp [List.getD, h.1, hx]
  · have e2 : ¬ ((i : Int) = (x : Int)) := by omega
    have := h.2 i hi
    simp only [List.getD] at this
    simp [List.getD, e, e2, this]⟩
theorem ended_eq {A : Ab} {x : Int} (h1 : (A.wk x).st = 1) (hn : x ∉ A.q) : A.ended x = { A with stp := false, q := A.q ++ [x] } := by unfold Ab.ended; rw [if_pos ⟨h1, hn⟩]
theorem methI (b : Nat) (w : World) : (method 272 106 (.pointer (some ⟨b, 0, none⟩)) "Step").run Try.prog w = .ok (124, .pointer (some ⟨b, 0, none⟩)) w := by kernel_rfl
theorem callI (args : Array Value) (w : World) : (callFunc 124 args).run Try.prog w = .ok (.enter 124 args) w := by kernel_rfl
theorem idle_any (w : World) (v a b : Value) : Calls Try.prog 124 #[v, a, b] w fun e w' => e = .returned undef ∧ w' = w := by
  go_enter Try.func124, Try.ntmps124
  go_wp2
  go_end0
  exact ⟨rfl, rfl⟩
/-- Pick, where all tasks are idle. -/
theorem pick_ey {w : World} {p n N : Nat} {lab : Nat → Own} {A : Ab} {en : List Bool} (h : Sc w p lab A n) (hE : Ey A N) (hM : Mk A N en) (hN : N ≤ 12) (i : Int) :
    Calls Try.prog 18 #[.pointer (some ⟨p, 0, none⟩), .int .i64 i] w fun e w' => ∃ (x : Nat) (er : Int), e = .returned (.tuple #[.int .i64 x, .int .i64 er]) ∧ (er = 2 ∨ er = 0 ∧ x < N ∧ en.getD x false = false) ∧ ∃ lab' A', Sc w' p lab' A' n ∧ Keep lab w lab' w' ∧ Ey A' N ∧ Mk A' N en := by
  by_cases hq : A.q = []
  · refine (Pick_none h hE.stp hq i).mono ?_
    rintro e w' ⟨rfl, rfl⟩
    exact ⟨0, 2, rfl, .inl rfl, lab, A, h, Keep.refl _ _, hE, hM⟩
  · obtain ⟨h1, h2⟩ := pickAt_lt A i hq
    have hmem : A.q.getD (pickAt A i) 0 ∈ A.q := by simp [List.getD, h1]
    have hql : A.q.length ≤ 549755813888 := (hE.inv.fit (by rw [hE.len]; omega)).q
    have hP := Pick_some h hE.stp hq hql i (fun w' => ∃ lab' A', Sc w' p lab' A' n ∧ Keep lab w lab' w' ∧ Ey A' N ∧ Mk A' N en)
    obtain ⟨hpi, hhas⟩ := hE.inv.pick i hq
    rw [eraseIdx_nd hE.inv.ndq h1] at hP hpi
    obtain ⟨x, hx⟩ : ∃ x, x = A.q.getD (pickAt A i) 0 := ⟨_, rfl⟩
    rw [← hx] at hP hpi hhas hmem
    clear hx
    have hst := (hE.inv.q1 x hmem).2.1
    have hxb := has_bd hhas
    rw [hE.len] at hxb
    obtain ⟨c, hc⟩ := hE.tk x hhas (by omega)
    have hnm : x ∉ A.q.erase x := List.Nodup.not_mem_erase hE.inv.ndq
    have hend : ({ A with q := A.q.erase x, stp := true } : Ab).ended x = { A with q := A.q.erase x ++ [x], stp := false } := ended_eq (A := { A with q := A.q.erase x, stp := true }) hst hnm
    have hI := hpi.ended (x := x) hhas
    rw [hend] at hI
    have hE' : Ey { A with q := A.q.erase x ++ [x], stp := false } N := ⟨hI, hE.len, hE.hd, rfl, hE.st, hE.row, hE.tk⟩
    refine (hP (fun w1 lab1 hS1 hK1 => ?_)).mono ?_
    · refine (step_any hS1 x hhas 106 c hc 124 (methI _) callI (fun w2 lab2 A2 n2 => A2 = { A with q := A.q.erase x, stp := true } ∧ n2 = n ∧ Keep lab w lab2 w2) (fun w2 hS2 hK2 => ?_)).mono ?_
      · refine (idle_any w2 _ _ _).mono ?_
        rintro e w3 ⟨rfl, rfl⟩
        refine ⟨rfl, lab1, _, n, ⟨rfl, rfl, hK1.trans hK2⟩, hS2, ?_, hhas⟩
        show (A.q.erase x).length ≤ _
        exact Nat.le_trans (List.length_erase_le) hql
      · rintro e w3 ⟨rfl, w2, lab2, A2, n2, ⟨rfl, rfl, hk⟩, lab3, hS3, hK3⟩
        rw [hend] at hS3
        exact ⟨rfl, lab3, _, hS3, hk.trans hK3, hE', hM⟩
    · rintro e w' ⟨rfl, hR⟩
      refine ⟨x.toNat, 0, by rw [show ((x.toNat : Nat) : Int) = x by omega], .inr ⟨rfl, by omega, ?_⟩, hR⟩
      have := hM.2 x.toNat (by omega)
      rw [show ((x.toNat : Nat) : Int) = x by omega] at this
      cases hb : en.getD x.toNat false with
      | false => rfl
      | true => have := this.1 hb; omega
end Go.Proofs.Ytacmdhlemolngaa
