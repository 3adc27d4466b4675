/- Where each worker stands: what every call keeps. -/
import Derived.Test.YtacmdhlemolngaaScK
namespace Go.Proofs.Ytacmdhlemolngaa

/-- Numbers below n, each once: n at most. -/
theorem few : ∀ (n : Nat) (l : List Int), l.Nodup → (∀ x ∈ l, 0 ≤ x ∧ x < n) → l.length ≤ n
  | 0, l, _, h => by
    cases l with
    | nil => simp
    | cons x r => have := h x (by simp); omega
  | n + 1, l, hn, h => by
    have h1 := few n (l.erase (n : Int)) (hn.erase _) (fun x hx => by
      have h2 := h x (List.mem_of_mem_erase hx)
      have h3 : x ≠ (n : Int) := fun e => by rw [e] at hx; exact (List.Nodup.not_mem_erase hn) hx
      omega)
    have h2 := List.length_erase (a := (n : Int)) (l := l)
    split at h2 <;> omega
structure InvH (A : Ab) (r h : Option Int) : Prop where
  wf : ∀ x, A.has x = true → h ≠ some x → 1 ≤ (A.wk x).st ∧ (A.wk x).st ≤ 5
  row : ∀ x, A.has x = true → IsI (A.wk x).row
  q1 : ∀ x ∈ A.q, A.has x = true ∧ (A.wk x).st = 1 ∧ h ≠ some x
  q2 : ∀ x, A.has x = true → (A.wk x).st = 1 → h ≠ some x → r ≠ some x → x ∈ A.q
  ndq : A.q.Nodup
  s1 : ∀ k, ∀ x ∈ A.sl k, A.has x = true ∧ (A.wk x).st = 2 ∧ (A.wk x).row = k ∧ h ≠ some x
  s2 : ∀ x, A.has x = true → (A.wk x).st = 2 → h ≠ some x → x ∈ A.sl (A.wk x).row
  nds : ∀ k, (A.sl k).Nodup
  l0 : ∀ k, ∀ x ∈ A.lk k, A.has x = true
  l1 : ∀ k, ∀ x ∈ (A.lk k).tail, (A.wk x).st = 3 ∧ (A.wk x).row = k ∧ h ≠ some x
  l2 : ∀ x, A.has x = true → (A.wk x).st = 3 → h ≠ some x → x ∈ (A.lk (A.wk x).row).tail
  ndl : ∀ k, (A.lk k).Nodup
  a1 : ∀ a ∈ A.al, A.has a.1 = true ∧ (A.wk a.1).st = 4 ∧ h ≠ some a.1
  a2 : ∀ x, A.has x = true → (A.wk x).st = 4 → h ≠ some x → x ∈ A.al.map (·.1)
  nda : (A.al.map (·.1)).Nodup
abbrev Inv (A : Ab) (r : Option Int) : Prop := InvH A r none
theorem has_bd {A : Ab} {x : Int} (h : A.has x = true) : 0 ≤ x ∧ x < A.ws.length := by unfold Ab.has at h; simpa using h
theorem InvH.fit {A : Ab} {r h : Option Int} (I : InvH A r h) (hw : A.ws.length ≤ 549755813888) : Fit A :=
  ⟨Nat.le_trans (few A.ws.length A.q I.ndq (fun x hx => has_bd (I.q1 x hx).1)) hw, fun k => Nat.le_trans (few A.ws.length _ (I.nds k) (fun x hx => has_bd (I.s1 k x hx).1)) hw, fun k => Nat.le_trans (few A.ws.length _ (I.ndl k) (fun x hx => has_bd (I.l0 k x hx))) hw, hw, fun k x hx => (I.s1 k x hx).1, I.l0, I.row⟩
theorem InvH.al_len {A : Ab} {r h : Option Int} (I : InvH A r h) : A.al.length ≤ A.ws.length := by
  have := few A.ws.length _ I.nda (fun x hx => by
    simp only [List.mem_map] at hx
    obtain ⟨a, ha, rfl⟩ := hx
    exact has_bd (I.a1 a ha).1)
  simpa using this
theorem inv_zero (r : Option Int) : Inv Ab.zero r := by
  have hh : ∀ x, Ab.zero.has x = false := fun x => by unfold Ab.has Ab.zero; simp
  have e1 : Ab.zero.q = [] := rfl
  have e2 : ∀ k, Ab.zero.sl k = [] := fun _ => rfl
  have e3 : ∀ k, Ab.zero.lk k = [] := fun _ => rfl
  have e4 : Ab.zero.al = [] := rfl
  refine ⟨?_, ?_, ?_, ?_, ?_, ?_, ?_, ?_, ?_, ?_, ?_, ?_, ?_, ?_, ?_⟩ <;> simp [hh, e1, e2, e3, e4]
/-! ### one worker is set -/
theorem wk_setw_same {A : Ab} {x st row : Int} (hx : A.has x = true) {B : Ab} (hB : B.ws = setw A.ws x st row) : B.wk x = ⟨(A.wk x).t, st, row⟩ := by
  obtain ⟨h0, h1, h2⟩ := Ab.has_lt hx
  unfold Ab.wk
  rw [hB]
  simp [setw, List.getD, h1]
theorem wk_setw_other {A : Ab} {x y st row : Int} (hx : A.has x = true) (hy : 0 ≤ y) (hne : y ≠ x) {B : Ab} (hB : B.ws = setw A.ws x st row) : B.wk y = A.wk y := by
  obtain ⟨h0, h1, h2⟩ := Ab.has_lt hx
  unfold Ab.wk
  rw [hB]
  have : x.toNat ≠ y.toNat := by omega
  simp [setw, List.getD, this]
theorem has_setw {A B : Ab} {x st row : Int} (hB : B.ws = setw A.ws x st row) (y : Int) : B.has y = A.has y := by unfold Ab.has; rw [hB, setw_len]
/-- One that stands nowhere is set as one likes. -/
theorem InvH.set {A : Ab} {r : Option Int} {x : Int} (I : InvH A r (some x)) (hx : A.has x = true) (st row : Int) (hI : IsI row) : InvH { A with ws := setw A.ws x st row } r (some x) := by
  have hh : ∀ y, ({ A with ws := setw A.ws x st row } : Ab).has y = A.has y := has_setw rfl
  have hs : ({ A with ws := setw A.ws x st row } : Ab).wk x = ⟨(A.wk x).t, st, row⟩ := wk_setw_same hx rfl
  have ho : ∀ y, A.has y = true → some x ≠ some y → ({ A with ws := setw A.ws x st row } : Ab).wk y = A.wk y := fun y hy hne => wk_setw_other hx (has_bd hy).1 (fun e => hne (by rw [e])) rfl
  refine ⟨fun y hy hne => ?_, fun y hy => ?_, fun y hy => ?_, fun y hy h1 h2 h3 => ?_, I.ndq, fun k y hy => ?_, fun y hy h1 h2 => ?_, I.nds, fun k y hy => ?_, fun k y hy => ?_, fun y hy h1 h2 => ?_, I.ndl, fun a ha => ?_, fun y hy h1 h2 => ?_, I.nda⟩
  · rw [hh] at hy; rw [ho y hy hne]; exact I.wf y hy hne
  · rw [hh] at hy
    by_cases e : y = x
    · rw [e, hs]; exact hI
    · rw [ho y hy (fun h => e (by simpa using h.symm))]; exact I.row y hy
  · have := I.q1 y hy; rw [hh, ho y this.1 this.2.2]; exact this
  · rw [hh] at hy; rw [ho y hy h2] at h1; exact I.q2 y hy h1 h2 h3
  · have := I.s1 k y hy; rw [hh, ho y this.1 this.2.2.2]; exact this
  · rw [hh] at hy; rw [ho y hy h2] at h1 ⊢; exact I.s2 y hy h1 h2
  · rw [hh]; exact I.l0 k y hy
  · have := I.l1 k y hy; rw [ho y (I.l0 k y (List.mem_of_mem_tail hy)) this.2.2]; exact this
  · rw [hh] at hy; rw [ho y hy h2] at h1 ⊢; exact I.l2 y hy h1 h2
  · have := I.a1 a ha; rw [hh, ho a.1 this.1 this.2.2]; exact this
  · rw [hh] at hy; rw [ho y hy h2] at h1; exact I.a2 y hy h1 h2
/-- It goes to the queue's end. -/
theorem InvH.toQ {A : Ab} {r : Option Int} {x : Int} (I : InvH A r (some x)) (hx : A.has x = true) (h1 : (A.wk x).st = 1) : Inv { A with q := A.q ++ [x] } r := by
  refine ⟨fun y hy _ => ?_, I.row, fun y hy => ?_, fun y hy e1 _ e3 => ?_, ?_, fun k y hy => ?_, fun y hy e1 _ => ?_, I.nds, I.l0, fun k y hy => ?_, fun y hy e1 _ => ?_, I.ndl, fun a ha => ?_, fun y hy e1 _ => ?_, I.nda⟩
  · by_cases e : y = x
    · rw [e]; show 1 ≤ (A.wk x).st ∧ (A.wk x).st ≤ 5; rw [h1]; omega
    · exact I.wf y hy (fun h => e (by simpa using h.symm))
  · simp only [List.mem_append, List.mem_singleton] at hy
    rcases hy with hy | rfl
    · exact ⟨(I.q1 y hy).1, (I.q1 y hy).2.1, by simp⟩
    · exact ⟨hx, h1, by simp⟩
  · simp only [List.mem_append, List.mem_singleton]
    by_cases e : y = x
    · exact .inr e
    · exact .inl (I.q2 y hy e1 (fun h => e (by simpa using h.symm)) e3)
  · rw [List.nodup_append]
    refine ⟨I.ndq, by simp, fun a ha b hb e => ?_⟩
    simp at hb
    exact (I.q1 a ha).2.2 (by rw [e, hb])
  · have := I.s1 k y hy; exact ⟨this.1, this.2.1, this.2.2.1, by simp⟩
  · refine I.s2 y hy e1 (fun h => ?_)
    have : y = x := by simpa using h.symm
    rw [this] at e1
    have e1' : (A.wk x).st = 2 := e1
    omega
  · have := I.l1 k y hy; exact ⟨this.1, this.2.1, by simp⟩
  · refine I.l2 y hy e1 (fun h => ?_)
    have : y = x := by simpa using h.symm
    rw [this] at e1
    have e1' : (A.wk x).st = 3 := e1
    omega
  · have := I.a1 a ha; exact ⟨this.1, this.2.1, by simp⟩
  · refine I.a2 y hy e1 (fun h => ?_)
    have : y = x := by simpa using h.symm
    rw [this] at e1
    have e1' : (A.wk x).st = 4 := e1
    omega
/-- It sleeps. -/
theorem InvH.toS {A : Ab} {r : Option Int} {x k : Int} (I : InvH A r (some x)) (hx : A.has x = true) (h1 : (A.wk x).st = 2) (h2 : (A.wk x).row = k) : Inv { A with sl := upd A.sl k (A.sl k ++ [x]) } r := by
  refine ⟨fun y hy _ => ?_, I.row, fun y hy => ?_, fun y hy e1 _ e3 => ?_, I.ndq, fun j y hy => ?_, fun y hy e1 _ => ?_, fun j => ?_, I.l0, fun k y hy => ?_, fun y hy e1 _ => ?_, I.ndl, fun a ha => ?_, fun y hy e1 _ => ?_, I.nda⟩
  · by_cases e : y = x
    · rw [e]; show 1 ≤ (A.wk x).st ∧ (A.wk x).st ≤ 5; rw [h1]; omega
    · exact I.wf y hy (fun h => e (by simpa using h.symm))
  · have := I.q1 y hy; exact ⟨this.1, this.2.1, by simp⟩
  · refine I.q2 y hy e1 (fun h => ?_) e3
    have : y = x := by simpa using h.symm
    rw [this] at e1
    have e1' : (A.wk x).st = 1 := e1
    omega
  · have hy' : y ∈ upd A.sl k (A.sl k ++ [x]) j := hy
    by_cases e : j = k
    · subst e
      rw [upd_same, List.mem_append, List.mem_singleton] at hy'
      rcases hy' with hy' | rfl
      · have := I.s1 j y hy'; exact ⟨this.1, this.2.1, this.2.2.1, by simp⟩
      · exact ⟨hx, h1, h2, by simp⟩
    · rw [upd_other _ _ e] at hy'
      have := I.s1 j y hy'; exact ⟨this.1, this.2.1, this.2.2.1, by simp⟩
  · show y ∈ upd A.sl k (A.sl k ++ [x]) (A.wk y).row
    by_cases e : y = x
    · rw [e, h2, upd_same]; simp
    · have := I.s2 y hy e1 (fun h => e (by simpa using h.symm))
      by_cases e2 : (A.wk y).row = k
      · rw [e2, upd_same, List.mem_append]; rw [e2] at this; exact .inl this
      · rw [upd_other _ _ e2]; exact this
  · show (upd A.sl k (A.sl k ++ [x]) j).Nodup
    by_cases e : j = k
    · subst e
      rw [upd_same, List.nodup_append]
      refine ⟨I.nds j, by simp, fun a ha b hb e => ?_⟩
      simp at hb
      exact (I.s1 j a ha).2.2.2 (by rw [e, hb])
    · rw [upd_other _ _ e]; exact I.nds j
  · have := I.l1 k y hy; exact ⟨this.1, this.2.1, by simp⟩
  · refine I.l2 y hy e1 (fun h => ?_)
    have : y = x := by simpa using h.symm
    rw [this] at e1
    have e1' : (A.wk x).st = 3 := e1
    omega
  · have := I.a1 a ha; exact ⟨this.1, this.2.1, by simp⟩
  · refine I.a2 y hy e1 (fun h => ?_)
    have : y = x := by simpa using h.symm
    rw [this] at e1
    have e1' : (A.wk x).st = 4 := e1
    omega
/-- It waits for a lock that somebody else holds. -/
theorem InvH.toL {A : Ab} {r : Option Int} {x k : Int} (I : InvH A r (some x)) (hx : A.has x = true) (h1 : (A.wk x).st = 3) (h2 : (A.wk x).row = k) (hne : A.lk k ≠ []) (hhd : (A.lk k).headD 0 ≠ x) : Inv { A with lk := upd A.lk k (A.lk k ++ [x]) } r := by
  have hxk : x ∉ A.lk k := fun hm => by
    cases hl : A.lk k with
    | nil => exact hne hl
    | cons y t =>
      rw [hl] at hm hhd
      simp only [List.headD_cons] at hhd
      rcases List.mem_cons.1 hm with e | e
      · exact hhd e.symm
      · exact (I.l1 k x (by rw [hl]; exact e)).2.2 rfl
  have ht : (A.lk k ++ [x]).tail = (A.lk k).tail ++ [x] := by
    cases hl : A.lk k with
    | nil => exact absurd hl hne
    | cons y t => rfl
  refine ⟨fun y hy _ => ?_, I.row, fun y hy => ?_, fun y hy e1 _ e3 => ?_, I.ndq, fun j y hy => ?_, fun y hy e1 _ => ?_, I.nds, fun j y hy => ?_, fun j y hy => ?_, fun y hy e1 _ => ?_, fun j => ?_, fun a ha => ?_, fun y hy e1 _ => ?_, I.nda⟩
  · by_cases e : y = x
    · rw [e]; show 1 ≤ (A.wk x).st ∧ (A.wk x).st ≤ 5; rw [h1]; omega
    · exact I.wf y hy (fun h => e (by simpa using h.symm))
  · have := I.q1 y hy; exact ⟨this.1, this.2.1, by simp⟩
  · refine I.q2 y hy e1 (fun h => ?_) e3
    have : y = x := by simpa using h.symm
    rw [this] at e1
    have e1' : (A.wk x).st = 1 := e1
    omega
  · have := I.s1 j y hy; exact ⟨this.1, this.2.1, this.2.2.1, by simp⟩
  · refine I.s2 y hy e1 (fun h => ?_)
    have : y = x := by simpa using h.symm
    rw [this] at e1
    have e1' : (A.wk x).st = 2 := e1
    omega
  · have hy' : y ∈ upd A.lk k (A.lk k ++ [x]) j := hy
    by_cases e : j = k
    · subst e
      rw [upd_same, List.mem_append, List.mem_singleton] at hy'
      rcases hy' with hy' | rfl
      · exact I.l0 j y hy'
      · exact hx
    · rw [upd_other _ _ e] at hy'
      exact I.l0 j y hy'
  · have hy' : y ∈ (upd A.lk k (A.lk k ++ [x]) j).tail := hy
    by_cases e : j = k
    · subst e
      rw [upd_same, ht, List.mem_append, List.mem_singleton] at hy'
      rcases hy' with hy' | rfl
      · have := I.l1 j y hy'; exact ⟨this.1, this.2.1, by simp⟩
      · exact ⟨h1, h2, by simp⟩
    · rw [upd_other _ _ e] at hy'
      have := I.l1 j y hy'; exact ⟨this.1, this.2.1, by simp⟩
  · show y ∈ (upd A.lk k (A.lk k ++ [x]) (A.wk y).row).tail
    by_cases e : y = x
    · rw [e, h2, upd_same, ht]; simp
    · have := I.l2 y hy e1 (fun h => e (by simpa using h.symm))
      by_cases e2 : (A.wk y).row = k
      · rw [e2, upd_same, ht, List.mem_append]; rw [e2] at this; exact .inl this
      · rw [upd_other _ _ e2]; exact this
  · show (upd A.lk k (A.lk k ++ [x]) j).Nodup
    by_cases e : j = k
    · subst e
      rw [upd_same, List.nodup_append]
      refine ⟨I.ndl j, by simp, fun a ha b hb e => ?_⟩
      simp at hb
      rw [e, hb] at ha
      exact hxk ha
    · rw [upd_other _ _ e]; exact I.ndl j
  · have := I.a1 a ha; exact ⟨this.1, this.2.1, by simp⟩
  · refine I.a2 y hy e1 (fun h => ?_)
    have : y = x := by simpa using h.symm
    rw [this] at e1
    have e1' : (A.wk x).st = 4 := e1
    omega
theorem mem_erase_nd {l : List Int} (hn : l.Nodup) {x y : Int} : y ∈ l.erase x ↔ y ≠ x ∧ y ∈ l := by rw [hn.mem_erase_iff]
theorem upd_at {α : Type} (f : Int → α) (k : Int) (v : α) (j : Int) : upd f k v j = if j = k then v else f j := rfl
/-- It leaves its place. -/
theorem InvH.leave {A : Ab} {r : Option Int} {x : Int} (I : Inv A r) (hx : A.has x = true) : InvH (A.leave x) r (some x) := by
  have hw := I.wf x hx (by simp)
  rw [Ab.leave_eq]
  have nn : ∀ {y : Int}, y ≠ x → some x ≠ some y := fun {y} e h => e (by simpa using h.symm)
  have ne : ∀ {y : Int}, some x ≠ some y → y ≠ x := fun {y} h e => h (by rw [e])
  -- where it does not stand
  have nq : (A.wk x).st ≠ 1 → ∀ y ∈ A.q, y ≠ x := fun h y hy e => h (by rw [← e]; exact (I.q1 y hy).2.1)
  have ns : (A.wk x).st ≠ 2 → ∀ k, ∀ y ∈ A.sl k, y ≠ x := fun h k y hy e => h (by rw [← e]; exact (I.s1 k y hy).2.1)
  have nl : (A.wk x).st ≠ 3 → ∀ k, ∀ y ∈ (A.lk k).tail, y ≠ x := fun h k y hy e => h (by rw [← e]; exact (I.l1 k y hy).1)
  have na : (A.wk x).st ≠ 4 → ∀ a ∈ A.al, a.1 ≠ x := fun h a ha e => h (by rw [← e]; exact (I.a1 a ha).2.1)
  have Q1 : (A.wk x).st ≠ 1 → ∀ y ∈ A.q, A.has y = true ∧ (A.wk y).st = 1 ∧ some x ≠ some y := fun h y hy => ⟨(I.q1 y hy).1, (I.q1 y hy).2.1, nn (nq h y hy)⟩
  have S1 : (A.wk x).st ≠ 2 → ∀ k, ∀ y ∈ A.sl k, A.has y = true ∧ (A.wk y).st = 2 ∧ (A.wk y).row = k ∧ some x ≠ some y := fun h k y hy => ⟨(I.s1 k y hy).1, (I.s1 k y hy).2.1, (I.s1 k y hy).2.2.1, nn (ns h k y hy)⟩
  have L1 : (A.wk x).st ≠ 3 → ∀ k, ∀ y ∈ (A.lk k).tail, (A.wk y).st = 3 ∧ (A.wk y).row = k ∧ some x ≠ some y := fun h k y hy => ⟨(I.l1 k y hy).1, (I.l1 k y hy).2.1, nn (nl h k y hy)⟩
  have A1 : (A.wk x).st ≠ 4 → ∀ a ∈ A.al, A.has a.1 = true ∧ (A.wk a.1).st = 4 ∧ some x ≠ some a.1 := fun h a ha => ⟨(I.a1 a ha).1, (I.a1 a ha).2.1, nn (na h a ha)⟩
  have Wf : ∀ y, A.has y = true → some x ≠ some y → 1 ≤ (A.wk y).st ∧ (A.wk y).st ≤ 5 := fun y hy _ => I.wf y hy (by simp)
  have Q2 : ∀ y, A.has y = true → (A.wk y).st = 1 → some x ≠ some y → r ≠ some y → y ∈ A.q := fun y hy e1 _ e3 => I.q2 y hy e1 (by simp) e3
  have S2 : ∀ y, A.has y = true → (A.wk y).st = 2 → some x ≠ some y → y ∈ A.sl (A.wk y).row := fun y hy e1 _ => I.s2 y hy e1 (by simp)
  have L2 : ∀ y, A.has y = true → (A.wk y).st = 3 → some x ≠ some y → y ∈ (A.lk (A.wk y).row).tail := fun y hy e1 _ => I.l2 y hy e1 (by simp)
  have A2 : ∀ y, A.has y = true → (A.wk y).st = 4 → some x ≠ some y → y ∈ A.al.map (·.1) := fun y hy e1 _ => I.a2 y hy e1 (by simp)
  by_cases c1 : (A.wk x).st = 1
  · rw [if_pos c1]
    refine ⟨Wf, I.row, fun y hy => ?_, fun y hy e1 e2 e3 => ?_, I.ndq.erase _, S1 (by omega), S2, I.nds, I.l0, L1 (by omega), L2, I.ndl, A1 (by omega), A2, I.nda⟩
    · have hy' := (mem_erase_nd I.ndq).1 hy
      exact ⟨(I.q1 y hy'.2).1, (I.q1 y hy'.2).2.1, nn hy'.1⟩
    · exact (mem_erase_nd I.ndq).2 ⟨ne e2, Q2 y hy e1 e2 e3⟩
  · rw [if_neg c1]
    by_cases c2 : (A.wk x).st = 2
    · rw [if_pos c2]
      refine ⟨Wf, I.row, Q1 c1, Q2, I.ndq, fun k y hy => ?_, fun y hy e1 e2 => ?_, fun k => ?_, I.l0, L1 (by omega), L2, I.ndl, A1 (by omega), A2, I.nda⟩
      · have hy' : y ∈ upd A.sl (A.wk x).row ((A.sl (A.wk x).row).erase x) k := hy
        rw [upd_at] at hy'
        split at hy'
        · rename_i e
          have h2 := (mem_erase_nd (I.nds _)).1 hy'
          have := I.s1 _ y h2.2
          exact ⟨this.1, this.2.1, by rw [e]; exact this.2.2.1, nn h2.1⟩
        · rename_i e
          have := I.s1 k y hy'
          refine ⟨this.1, this.2.1, this.2.2.1, nn (fun e2 => e ?_)⟩
          rw [← this.2.2.1, e2]
      · show y ∈ upd A.sl (A.wk x).row ((A.sl (A.wk x).row).erase x) (A.wk y).row
        have := S2 y hy e1 e2
        rw [upd_at]
        split
        · rename_i e
          rw [e] at this
          exact (mem_erase_nd (I.nds _)).2 ⟨ne e2, this⟩
        · exact this
      · show (upd A.sl (A.wk x).row ((A.sl (A.wk x).row).erase x) k).Nodup
        rw [upd_at]
        split
        · exact (I.nds _).erase _
        · exact I.nds k
    · rw [if_neg c2]
      by_cases c3 : (A.wk x).st = 3
      · rw [if_pos c3]
        have hxt := I.l2 x hx c3 (by simp)
        have ht : ((A.lk (A.wk x).row).erase x).tail = (A.lk (A.wk x).row).tail.erase x := by
          have hnd := I.ndl (A.wk x).row
          cases hl : A.lk (A.wk x).row with
          | nil => rw [hl] at hxt; simp at hxt
          | cons y t =>
            rw [hl] at hxt hnd
            have hyx : y ≠ x := fun e => by rw [e] at hnd; exact (List.nodup_cons.1 hnd).1 hxt
            rw [List.erase_cons_tail (by simpa using hyx)]
            rfl
        have hndt : ∀ k, (A.lk k).tail.Nodup := fun k => by
          have := I.ndl k
          cases hl : A.lk k with
          | nil => simp
          | cons y t => rw [hl] at this; exact (List.nodup_cons.1 this).2
        refine ⟨Wf, I.row, Q1 c1, Q2, I.ndq, S1 c2, S2, I.nds, fun k y hy => ?_, fun k y hy => ?_, fun y hy e1 e2 => ?_, fun k => ?_, A1 (by omega), A2, I.nda⟩
        · have hy' : y ∈ upd A.lk (A.wk x).row ((A.lk (A.wk x).row).erase x) k := hy
          rw [upd_at] at hy'
          split at hy'
          · exact I.l0 _ y (List.mem_of_mem_erase hy')
          · exact I.l0 k y hy'
        · have hy' : y ∈ (upd A.lk (A.wk x).row ((A.lk (A.wk x).row).erase x) k).tail := hy
          rw [upd_at] at hy'
          split at hy'
          · rename_i e
            rw [ht] at hy'
            have h2 := (mem_erase_nd (hndt _)).1 hy'
            have := I.l1 _ y h2.2
            exact ⟨this.1, by rw [e]; exact this.2.1, nn h2.1⟩
          · rename_i e
            have := I.l1 k y hy'
            refine ⟨this.1, this.2.1, nn (fun e2 => e ?_)⟩
            rw [← this.2.1, e2]
        · show y ∈ (upd A.lk (A.wk x).row ((A.lk (A.wk x).row).erase x) (A.wk y).row).tail
          have := L2 y hy e1 e2
          rw [upd_at]
          split
          · rename_i e
            rw [e] at this
            rw [ht]
            exact (mem_erase_nd (hndt _)).2 ⟨ne e2, this⟩
          · exact this
        · show (upd A.lk (A.wk x).row ((A.lk (A.wk x).row).erase x) k).Nodup
          rw [upd_at]
          split
          · exact (I.ndl _).erase _
          · exact I.ndl k
      · rw [if_neg c3]
        by_cases c4 : (A.wk x).st = 4
        · rw [if_pos c4]
          refine ⟨Wf, I.row, Q1 c1, Q2, I.ndq, S1 c2, S2, I.nds, I.l0, L1 c3, L2, I.ndl, fun a ha => ?_, fun y hy e1 e2 => ?_, ?_⟩
          · have ha' : a ∈ A.al.filter (fun a => a.1 != x) := ha
            rw [List.mem_filter] at ha'
            exact ⟨(I.a1 a ha'.1).1, (I.a1 a ha'.1).2.1, nn (by simpa using ha'.2)⟩
          · show y ∈ (A.al.filter (fun a => a.1 != x)).map (·.1)
            have := A2 y hy e1 e2
            rw [List.mem_map] at this ⊢
            obtain ⟨a, ha, rfl⟩ := this
            exact ⟨a, List.mem_filter.2 ⟨ha, by simpa using ne e2⟩, rfl⟩
          · exact I.nda.sublist ((List.filter_sublist).map _)
        · rw [if_neg c4]
          exact ⟨Wf, I.row, Q1 c1, Q2, I.ndq, S1 c2, S2, I.nds, I.l0, L1 c3, L2, I.ndl, A1 c4, A2, I.nda⟩
end Go.Proofs.Ytacmdhlemolngaa
