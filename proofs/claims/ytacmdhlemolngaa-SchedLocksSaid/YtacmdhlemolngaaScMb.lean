/- SchedLocks: a worker comes in, works, and lets the lock go. -/
import Derived.Test.YtacmdhlemolngaaScMa
namespace Go.Proofs.Ytacmdhlemolngaa

theorem head_cons {l : List Int} {x : Int} (h : l.head? = some x) : ∃ t, l = x :: t := by
  cases l with
  | nil => simp at h
  | cons a t => simp at h; exact ⟨t, by rw [h]⟩
theorem Lk.enter {A : Ab} {r : Option Int} {N T : Nat} {sh : Nat → Sh} {ins ord : List Int} {x : Nat} (hx : x < N) (h : Lk A r N T sh ins ord) (h1 : (sh x).s = 1) (hst : (A.wk (x : Int)).st = 1) :
    Lk A r N T (updN sh x { sh x with n := (sh x).w, s := 2 }) [(x : Int)] (ord ++ [(x : Int)]) := by
  have hf := h.first hx hst (.inl h1)
  obtain ⟨t, hl⟩ := head_cons hf
  have hnd := h.inv.ndl 3
  rw [hl] at hnd
  have hnt := (List.nodup_cons.1 hnd).1
  have hq := h.st x hx
  have hnm := h.nm x hx
  refine ⟨h.inv, h.len, h.oth, fun i hi => ?_, fun i hi => ?_, fun i hi e => ?_, h.hd, fun i hi => ?_, .inr ⟨x, hx, by rw [updN_same]⟩, ?_, ?_, fun y hy => (List.mem_append.1 hy).elim (h.bd y) (fun e => by simp at e; omega)⟩
  · by_cases e : i = x
    · subst e; rw [updN_same]; dsimp only; exact ⟨by omega, ⟨fun e => by omega, fun e => by omega⟩, hq.2.2⟩
    · rw [updN_other sh _ e]; exact h.st i hi
  · by_cases e : i = x
    · subst e; rw [updN_same]; dsimp only; rw [h.mem i hi]; simp [h1]
    · rw [updN_other sh _ e]; exact h.mem i hi
  · by_cases e2 : i = x
    · subst e2; exact hf
    · rw [updN_other sh _ e2] at e; exact h.s2 i hi e
  · by_cases e : i = x
    · subst e; rw [updN_same]; exact ⟨fun e => by simp at e, fun _ => hnm.2.1 (.inl h1), hnm.2.2.1, hnm.2.2.2.1, hnm.2.2.2.1⟩
    · rw [updN_other sh _ e]; exact h.nm i hi
  · have e1 : came (ord ++ [(x : Int)]) = came ord := by rw [came_app, came, if_neg (by omega), came, List.append_nil]
    have e2 : got (ord ++ [(x : Int)]) = got ord ++ [(x : Int)] := by rw [got_app, got, if_neg (by omega), got]
    have e3 : waits (updN sh x { sh x with n := (sh x).w, s := 2 }) t = waits sh t := waits_upd_not sh x _ _ (fun y hy e => by
      have := has_bd (h.inv.l0 3 y (by rw [hl]; exact List.mem_cons_of_mem _ hy))
      exact hnt (by rw [show (x : Int) = y by omega]; exact hy))
    have e4 : waits (updN sh x { sh x with n := (sh x).w, s := 2 }) ((x : Int) :: t) = waits (updN sh x { sh x with n := (sh x).w, s := 2 }) t := by
      unfold waits
      rw [List.filter_cons_of_neg (by simp [updN_same])]
    have e5 : waits sh ((x : Int) :: t) = (x : Int) :: waits sh t := by
      unfold waits
      rw [List.filter_cons_of_pos (by simp [h1])]
    have e6 := h.eq
    rw [hl, e5] at e6
    rw [e1, e2, hl, e4, e3, e6, List.append_assoc]
    rfl
  · have g1 := sm_upd (fun z => z.t) sh x { sh x with n := (sh x).w, s := 2 } N hx
    have g2 := sm_upd (fun z => if z.s = 2 then 1 else 0) sh x { sh x with n := (sh x).w, s := 2 } N hx
    have g3 := h.cnt
    have e2 : (got (ord ++ [(x : Int)])).length = (got ord).length + 1 := by rw [got_app, got, if_neg (by omega), got, List.length_append]; rfl
    rw [e2]
    dsimp only at g1 g2 g3 ⊢
    rw [if_neg (show ¬ (sh x).s = 2 by omega), if_pos rfl] at g2
    omega
theorem phi_enter (x : Sh) (h1 : x.s = 1) (ht : 1 ≤ x.t) : phi { x with n := x.w, s := 2 } + 1 = phi x := by
  obtain ⟨t, w, n, s⟩ := x
  dsimp only at h1 ht
  subst h1
  obtain ⟨k, rfl⟩ : ∃ k, t = k + 1 := ⟨t - 1, by omega⟩
  simp [phi, Nat.succ_mul]
  omega
theorem Lk.work {A : Ab} {r : Option Int} {N T : Nat} {sh : Nat → Sh} {ins ord : List Int} {x : Nat} (hx : x < N) (h : Lk A r N T sh ins ord) :
    Lk A r N T (updN sh x { sh x with n := (sh x).n - 1 }) ins ord := by
  have hs : ∀ i, (updN sh x { sh x with n := (sh x).n - 1 } i).s = (sh i).s := fun i => by
    by_cases e : i = x
    · subst e; rw [updN_same]
    · rw [updN_other sh _ e]
  have ht : ∀ i, (updN sh x { sh x with n := (sh x).n - 1 } i).t = (sh i).t := fun i => by
    by_cases e : i = x
    · subst e; rw [updN_same]
    · rw [updN_other sh _ e]
  refine ⟨h.inv, h.len, h.oth, fun i hi => by rw [hs]; exact h.st i hi, fun i hi => by rw [hs]; exact h.mem i hi, fun i hi => by rw [hs]; exact h.s2 i hi, h.hd, fun i hi => ?_, ?_, ?_, ?_, h.bd⟩
  · have := h.nm i hi
    rw [hs, ht]
    by_cases e : i = x
    · subst e; rw [updN_same]; dsimp only; exact ⟨this.1, this.2.1, this.2.2.1, this.2.2.2.1, by omega⟩
    · rw [updN_other sh _ e]; exact this
  · rcases h.ins with e | ⟨j, hj, e⟩
    · exact .inl e
    · exact .inr ⟨j, hj, by rw [hs]; exact e⟩
  · have e1 : waits (updN sh x { sh x with n := (sh x).n - 1 }) (A.lk 3) = waits sh (A.lk 3) := by
      unfold waits
      apply List.filter_congr
      intro y _
      rw [hs]
    rw [e1]; exact h.eq
  · have := h.cnt
    have e1 := sm_congr (f := fun i => (updN sh x { sh x with n := (sh x).n - 1 } i).t) (g := fun i => (sh i).t) N (fun i _ => ht i)
    have e2 := sm_congr (f := fun i => if (updN sh x { sh x with n := (sh x).n - 1 } i).s = 2 then 1 else 0) (g := fun i => if (sh i).s = 2 then 1 else 0) N (fun i _ => by have := hs i; dsimp only at this ⊢; rw [this])
    rw [e1, e2]; exact this
theorem phi_work (x : Sh) (h2 : x.s = 2) (hn : 1 ≤ x.n) : phi { x with n := x.n - 1 } + 1 = phi x := by
  obtain ⟨t, w, n, s⟩ := x
  dsimp only at h2 hn
  subst h2
  simp [phi]
  omega
theorem hand_first {A : Ab} {r : Option Int} (I : Inv A r) (k y : Int) (h : (A.lk k).tail.head? = some y) : ((A.hand k).wk y).st = 1 := by
  obtain ⟨t, ht⟩ := head_cons h
  have hz := I.l0 k y (List.mem_of_mem_tail (by rw [ht]; simp))
  unfold Ab.hand
  rw [ht]
  show ((({ A with lk := upd A.lk k (y :: t) } : Ab).ready [y]).wk y).st = 1
  rw [wk_setw_same (A := A) (B := ({ A with lk := upd A.lk k (y :: t) } : Ab).ready [y]) hz rfl]
theorem Lk.leave {A : Ab} {r : Option Int} {N T : Nat} {sh : Nat → Sh} {ins ord : List Int} {x : Nat} (hx : x < N) (h : Lk A r N T sh ins ord) (h2 : (sh x).s = 2) :
    Lk (A.hand 3) r N T (updN sh x { sh x with t := (sh x).t - 1, s := 0 }) [] ord := by
  have hf := h.s2 x hx h2
  obtain ⟨t, hl⟩ := head_cons hf
  have hnd := h.inv.ndl 3
  rw [hl] at hnd
  have hnt := (List.nodup_cons.1 hnd).1
  have hnm := h.nm x hx
  have hlk : (A.hand 3).lk 3 = t := by rw [hand_same, hl]; rfl
  have hw : ∀ i, i < N → (A.hand 3).wk (i : Int) = A.wk (i : Int) ∨ ((A.wk (i : Int)).st = 3 ∧ ((A.hand 3).wk (i : Int)).st = 1) := fun i hi => (hand_wk h.inv 3 (h.has hi)).2
  have hxs : (A.wk (x : Int)).st = 1 := h.hd x hx hf
  refine ⟨h.inv.hand 3, by rw [hand_len]; exact h.len, fun k hk => by rw [hand_other _ _ _ hk]; exact h.oth k hk, fun i hi => ?_, fun i hi => ?_, fun i hi e => ?_, fun i hi e => ?_, fun i hi => ?_, .inl rfl, ?_, ?_, h.bd⟩
  · have hq := h.st i hi
    by_cases e : i = x
    · subst e
      rw [updN_same]
      dsimp only
      rcases hw i hi with e | e
      · rw [e]; exact ⟨by omega, ⟨fun e => by omega, fun e => by omega⟩, hq.2.2⟩
      · omega
    · rw [updN_other sh _ e]
      rcases hw i hi with e | e
      · rw [e]; exact hq
      · refine ⟨hq.1, ⟨fun e3 => by omega, fun e3 => ?_⟩, .inl e.2⟩
        have := hq.2.1.2 e3
        omega
  · rw [hlk]
    by_cases e : i = x
    · subst e; rw [updN_same]; simp [hnt]
    · rw [updN_other sh _ e, ← h.mem i hi, hl]
      constructor
      · exact List.mem_cons_of_mem _
      · intro e2
        rcases List.mem_cons.1 e2 with e3 | e3
        · omega
        · exact e3
  · by_cases e2 : i = x
    · subst e2; rw [updN_same] at e; simp at e
    · rw [updN_other sh _ e2] at e
      have := h.s2 i hi e
      rw [hf] at this
      simp at this
      omega
  · rw [hlk] at e
    exact hand_first h.inv 3 (i : Int) (by rw [hl]; exact e)
  · by_cases e : i = x
    · subst e; rw [updN_same]; exact ⟨fun e => by simp at e, fun e => by simp at e, by dsimp only; omega, hnm.2.2.2⟩
    · rw [updN_other sh _ e]; exact h.nm i hi
  · have e3 : waits (updN sh x { sh x with t := (sh x).t - 1, s := 0 }) t = waits sh t := waits_upd_not sh x _ _ (fun y hy e => by
      have := has_bd (h.inv.l0 3 y (by rw [hl]; exact List.mem_cons_of_mem _ hy))
      exact hnt (by rw [show (x : Int) = y by omega]; exact hy))
    have e5 : waits sh ((x : Int) :: t) = waits sh t := by
      unfold waits
      rw [List.filter_cons_of_neg (by simp [h2])]
    have e6 := h.eq
    rw [hl, e5] at e6
    rw [hlk, e3]; exact e6
  · have g1 := sm_upd (fun z => z.t) sh x { sh x with t := (sh x).t - 1, s := 0 } N hx
    have g2 := sm_upd (fun z => if z.s = 2 then 1 else 0) sh x { sh x with t := (sh x).t - 1, s := 0 } N hx
    have g3 := h.cnt
    have g4 := hnm.2.1 (.inr h2)
    dsimp only at g1 g2 g3 ⊢
    rw [if_pos h2, if_neg (show ¬ (0 : Nat) = 2 by omega)] at g2
    omega
theorem phi_leave (x : Sh) (h2 : x.s = 2) (hn : x.n = 0) : phi { x with t := x.t - 1, s := 0 } + 1 = phi x := by
  obtain ⟨t, w, n, s⟩ := x
  dsimp only at h2 hn
  subst h2 hn
  simp [phi]
/-- Where nobody is ready, all have ended. -/
theorem Lk.over {A : Ab} {N T : Nat} {sh : Nat → Sh} {ins ord : List Int} (h : Lk A none N T sh ins ord) (hq : A.q = []) : (∀ i, i < N → (A.wk (i : Int)).st = 5) ∧ came ord = got ord ∧ (got ord).length = N * T := by
  have hn1 : ∀ i, i < N → (A.wk (i : Int)).st ≠ 1 := fun i hi e => by
    have := h.inv.q2 i (h.has hi) e (by simp) (by simp)
    rw [hq] at this; simp at this
  have hl : A.lk 3 = [] := by
    cases hl : A.lk 3 with
    | nil => rfl
    | cons a t =>
      obtain ⟨i, hi, hi2⟩ := h.idx (h.inv.l0 3 a (by rw [hl]; simp))
      exact absurd (h.hd i hi2 (by rw [hl, ← hi]; rfl)) (hn1 i hi2)
  have h5 : ∀ i, i < N → (A.wk (i : Int)).st = 5 := fun i hi => by
    rcases (h.st i hi).2.2 with e | e | e
    · exact absurd e (hn1 i hi)
    · have := h.inv.l2 i (h.has hi) e (by simp)
      by_cases e3 : (A.wk (i : Int)).row = 3
      · rw [e3, hl] at this; simp at this
      · rw [h.oth _ e3] at this; simp at this
    · exact e
  have h3 : ∀ i, i < N → (sh i).s = 3 := fun i hi => (h.st i hi).2.1.1 (h5 i hi)
  refine ⟨h5, ?_, ?_⟩
  · have := h.eq
    rw [hl] at this
    simpa [waits] using this
  · have := h.cnt
    rw [sm_zero N (fun i hi => (h.nm i hi).1 (h3 i hi)), sm_zero N (fun i hi => by rw [h3 i hi]; rfl)] at this
    omega
end Go.Proofs.Ytacmdhlemolngaa
