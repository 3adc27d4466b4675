/- What each call keeps. -/
import Derived.Test.YtacmdhlemolngaaScP
namespace Go.Proofs.Ytacmdhlemolngaa

theorem Ab.has_ws {A B : Ab} (h : A.ws = B.ws) (x : Int) : A.has x = B.has x := by unfold Ab.has; rw [h]
theorem Ab.wk_ws {A B : Ab} (h : A.ws = B.ws) (x : Int) : A.wk x = B.wk x := by unfold Ab.wk; rw [h]
theorem InvH.stp {A : Ab} {r h : Option Int} (I : InvH A r h) (s : Bool) : InvH { A with stp := s } r h := ⟨I.wf, I.row, I.q1, I.q2, I.ndq, I.s1, I.s2, I.nds, I.l0, I.l1, I.l2, I.ndl, I.a1, I.a2, I.nda⟩
theorem Ab.eta (A : Ab) : ({ ws := A.ws, q := A.q, sl := A.sl, lk := A.lk, now := A.now, al := A.al, stp := A.stp } : Ab) = A := rfl
/-- It is sent to nowhere yet. -/
theorem InvH.send {A : Ab} {r : Option Int} {x : Int} (I : Inv A r) (hx : A.has x = true) (st row : Int) (hI : IsI row) : InvH (A.send x st row) r (some x) ∧ (A.send x st row).has x = true ∧ (A.send x st row).wk x = ⟨(A.wk x).t, st, row⟩ := by
  have h1 := (InvH.leave I hx).set (by rw [Ab.has_ws (Ab.leave_ws A x)]; exact hx) st row hI
  have e : ({ A.leave x with ws := setw (A.leave x).ws x st row } : Ab) = A.send x st row := by unfold Ab.send; rw [Ab.leave_ws]
  rw [e] at h1
  exact ⟨h1, by rw [has_setw (A := A) (B := A.send x st row) rfl]; exact hx, wk_setw_same hx rfl⟩
theorem Inv.sleep {A : Ab} {r : Option Int} {x k : Int} (I : Inv A r) (hx : A.has x = true) (h1 : (A.wk x).st = 1) (hI : IsI k) : Inv (A.sleep x k) r := by
  obtain ⟨i1, i2, i3⟩ := InvH.send I hx 2 k hI
  have h2 := i1.toS (k := k) i2 (by rw [i3]) (by rw [i3])
  have e : (A.send x 2 k).sl = A.sl := (Ab.leave_sl h1).1
  rw [e] at h2
  exact h2
theorem Inv.sleepS {A : Ab} {r : Option Int} (I : Inv A r) (x k : Int) (hI : IsI k) : Inv (Go.Proofs.Ytacmdhlemolngaa.sleepS A x k) r := by
  unfold Go.Proofs.Ytacmdhlemolngaa.sleepS
  split
  · rename_i h; obtain ⟨a, b⟩ := allow_ready h; exact I.sleep a b hI
  · exact I
theorem Inv.lockS {A : Ab} {r : Option Int} (I : Inv A r) (x k : Int) (hI : IsI k) : Inv (Go.Proofs.Ytacmdhlemolngaa.lockS A x k) r := by
  unfold Go.Proofs.Ytacmdhlemolngaa.lockS
  split
  · rename_i h
    obtain ⟨hx, h1⟩ := allow_ready h
    split
    · rename_i hl
      refine ⟨I.wf, I.row, I.q1, I.q2, I.ndq, I.s1, I.s2, I.nds, fun j y hy => ?_, fun j y hy => ?_, fun y hy e1 e2 => ?_, fun j => ?_, I.a1, I.a2, I.nda⟩
      · have hy' : y ∈ upd A.lk k [x] j := hy
        rw [upd_at] at hy'
        split at hy'
        · simp at hy'; rw [hy']; exact hx
        · exact I.l0 j y hy'
      · have hy' : y ∈ (upd A.lk k [x] j).tail := hy
        rw [upd_at] at hy'
        split at hy'
        · simp at hy'
        · exact I.l1 j y hy'
      · show y ∈ (upd A.lk k [x] (A.wk y).row).tail
        have := I.l2 y hy e1 e2
        rw [upd_at]
        split
        · rename_i e; rw [e, hl] at this; simp at this
        · exact this
      · show (upd A.lk k [x] j).Nodup
        rw [upd_at]
        split
        · simp
        · exact I.ndl j
    · rename_i hne
      split
      · exact I
      · rename_i hhd
        obtain ⟨i1, i2, i3⟩ := InvH.send I hx 3 k hI
        have e : (A.send x 3 k).lk = A.lk := (Ab.leave_sl h1).2.1
        have h2 := i1.toL (k := k) i2 (by rw [i3]) (by rw [i3]) (by rw [e]; exact hne) (by rw [e]; exact hhd)
        rw [e] at h2
        exact h2
  · exact I
theorem ready_one (A : Ab) (x : Int) : A.ready [x] = { A with ws := setw A.ws x 1 0, q := A.q ++ [x] } := rfl
theorem InvH.ready1 {A : Ab} {r : Option Int} {x : Int} (I : InvH A r (some x)) (hx : A.has x = true) : Inv (A.ready [x]) r := by
  have h1 := I.set hx 1 0 (isI_of (by omega) (by omega))
  exact h1.toQ (by rw [has_setw (A := A) rfl]; exact hx) (by rw [wk_setw_same (A := A) hx rfl])
/-- A lock is handed on. -/
theorem Inv.hand {A : Ab} {r : Option Int} (I : Inv A r) (k : Int) : Inv (A.hand k) r := by
  unfold Ab.hand
  cases ht : (A.lk k).tail with
  | nil =>
    simp only
    refine ⟨I.wf, I.row, I.q1, I.q2, I.ndq, I.s1, I.s2, I.nds, fun j y hy => ?_, fun j y hy => ?_, fun y hy e1 e2 => ?_, fun j => ?_, I.a1, I.a2, I.nda⟩
    · have hy' : y ∈ upd A.lk k [] j := hy
      rw [upd_at] at hy'
      split at hy'
      · simp at hy'
      · exact I.l0 j y hy'
    · have hy' : y ∈ (upd A.lk k [] j).tail := hy
      rw [upd_at] at hy'
      split at hy'
      · simp at hy'
      · exact I.l1 j y hy'
    · show y ∈ (upd A.lk k [] (A.wk y).row).tail
      have := I.l2 y hy e1 e2
      rw [upd_at]
      split
      · rename_i e; rw [e, ht] at this; simp at this
      · exact this
    · show (upd A.lk k [] j).Nodup
      rw [upd_at]
      split
      · simp
      · exact I.ndl j
  | cons y t =>
    simp only
    have hy := I.l1 k y (by rw [ht]; simp)
    have hyh := I.l0 k y (List.mem_of_mem_tail (by rw [ht]; simp))
    have hnd : (y :: t).Nodup := by
      have := I.ndl k
      rw [← ht]
      cases hl : A.lk k with
      | nil => simp
      | cons a b => rw [hl] at this; exact (List.nodup_cons.1 this).2
    have nn : ∀ {z : Int}, z ≠ y → some y ≠ some z := fun {z} e h => e (by simpa using h.symm)
    refine InvH.ready1 ⟨fun z hz _ => I.wf z hz (by simp), I.row, fun z hz => ⟨(I.q1 z hz).1, (I.q1 z hz).2.1, nn (fun e => ?_)⟩, fun z hz e1 _ e3 => I.q2 z hz e1 (by simp) e3, I.ndq, fun j z hz => ⟨(I.s1 j z hz).1, (I.s1 j z hz).2.1, (I.s1 j z hz).2.2.1, nn (fun e => ?_)⟩, fun z hz e1 _ => I.s2 z hz e1 (by simp), I.nds, fun j z hz => ?_, fun j z hz => ?_, fun z hz e1 e2 => ?_, fun j => ?_, fun a ha => ⟨(I.a1 a ha).1, (I.a1 a ha).2.1, nn (fun e => ?_)⟩, fun z hz e1 _ => I.a2 z hz e1 (by simp), I.nda⟩ hyh
    · have := (I.q1 z hz).2.1; rw [e] at this; omega
    · have := (I.s1 j z hz).2.1; rw [e] at this; omega
    · have hz' : z ∈ upd A.lk k (y :: t) j := hz
      rw [upd_at] at hz'
      split at hz'
      · exact I.l0 k z (List.mem_of_mem_tail (by rw [ht]; exact hz'))
      · exact I.l0 j z hz'
    · have hz' : z ∈ (upd A.lk k (y :: t) j).tail := hz
      rw [upd_at] at hz'
      split at hz'
      · rename_i e
        have hz2 : z ∈ t := hz'
        have := I.l1 k z (by rw [ht]; exact List.mem_cons_of_mem _ hz2)
        exact ⟨this.1, by rw [e]; exact this.2.1, nn (fun e2 => (List.nodup_cons.1 hnd).1 (by rw [← e2]; exact hz2))⟩
      · rename_i e
        have := I.l1 j z hz'
        refine ⟨this.1, this.2.1, nn (fun e2 => e ?_)⟩
        rw [← this.2.1, e2]; exact hy.2.1
    · show z ∈ (upd A.lk k (y :: t) (A.wk z).row).tail
      have := I.l2 z hz e1 (by simp)
      rw [upd_at]
      split
      · rename_i e
        rw [e, ht] at this
        rcases List.mem_cons.1 this with e3 | e3
        · exact absurd (by rw [e3]) e2
        · exact e3
      · exact this
    · show (upd A.lk k (y :: t) j).Nodup
      rw [upd_at]
      split
      · exact hnd
      · exact I.ndl j
    · have := (I.a1 a ha).2.1; rw [e] at this; omega
theorem Inv.unlockS {A : Ab} {r : Option Int} (I : Inv A r) (x k : Int) : Inv (Go.Proofs.Ytacmdhlemolngaa.unlockS A x k) r := by
  unfold Go.Proofs.Ytacmdhlemolngaa.unlockS
  split
  · exact I.hand k
  · exact I
theorem upd_upd {α : Type} (f : Int → α) (k : Int) (a b : α) : upd (upd f k a) k b = upd f k b := by
  funext j
  rw [upd_at, upd_at, upd_at]
  split <;> rfl
theorem upd_self {α : Type} (f : Int → α) (k : Int) : upd f k (f k) = f := by
  funext j
  rw [upd_at]
  split
  · rename_i e; rw [e]
  · rfl
theorem Inv.wake {A : Ab} {r : Option Int} (I : Inv A r) (k : Int) : Inv (A.wake k) r := by
  unfold Ab.wake
  generalize hl : A.sl k = l
  induction l generalizing A with
  | nil =>
    rw [← hl, upd_self]
    unfold Ab.ready
    rw [hl]
    simpa [rdy] using I
  | cons x t ih =>
    have hx := I.s1 k x (by rw [hl]; simp)
    have h1 := InvH.leave I hx.1
    have e : A.leave x = { A with sl := upd A.sl k t } := by
      rw [Ab.leave_eq, if_neg (by omega), if_pos hx.2.1, hx.2.2.1, hl]
      simp
    rw [e] at h1
    have h2 := h1.ready1 hx.1
    have := ih h2 (by show upd A.sl k t k = t; rw [upd_same])
    have e2 : ({ (({ A with sl := upd A.sl k t } : Ab).ready [x]) with sl := upd (({ A with sl := upd A.sl k t } : Ab).ready [x]).sl k [] } : Ab).ready t = ({ A with sl := upd A.sl k [] } : Ab).ready (x :: t) := by
      unfold Ab.ready
      simp only [upd_upd, List.append_assoc, List.singleton_append]
      rfl
    rw [e2] at this
    exact this
theorem Inv.spawn {A : Ab} {r : Option Int} (I : Inv A r) (t : Option (TypeId × Nat)) : Inv (A.spawn t) r := by
  unfold Ab.spawn
  obtain ⟨B, hB⟩ : ∃ B : Ab, B = { A with ws := A.ws ++ [⟨t, 0, 0⟩] } := ⟨_, rfl⟩
  rw [← hB]
  have hh : ∀ y, A.has y = true → B.has y = true := fun y hy => by
    have := has_bd hy
    unfold Ab.has
    rw [hB]
    simp
    omega
  have hx : B.has (A.ws.length : Int) = true := by
    unfold Ab.has
    rw [hB]
    simp
    omega
  have ho : ∀ y, B.has y = true → some (A.ws.length : Int) ≠ some y → A.has y = true := fun y hy hne => by
    have := has_bd hy
    rw [hB] at this
    simp at this hne
    unfold Ab.has
    simp
    omega
  have hk : ∀ y, A.has y = true → B.wk y = A.wk y := fun y hy => by
    obtain ⟨h0, h1, h2⟩ := Ab.has_lt hy
    unfold Ab.wk
    rw [hB]
    simp [List.getD, List.getElem?_append_left h1]
  have hn : B.wk (A.ws.length : Int) = ⟨t, 0, 0⟩ := by
    unfold Ab.wk
    rw [hB]
    simp [List.getD]
  have nn : ∀ y, A.has y = true → some (A.ws.length : Int) ≠ some y := fun y hy e => by
    have := has_bd hy
    simp at e
    omega
  have bq : B.q = A.q := by rw [hB]
  have bs : B.sl = A.sl := by rw [hB]
  have bl : B.lk = A.lk := by rw [hB]
  have ba : B.al = A.al := by rw [hB]
  refine InvH.ready1 ⟨fun y hy hne => ?_, fun y hy => ?_, fun y hy => ?_, fun y hy e1 e2 e3 => ?_, by rw [bq]; exact I.ndq, fun k y hy => ?_, fun y hy e1 e2 => ?_, fun k => by rw [bs]; exact I.nds k, fun k y hy => ?_, fun k y hy => ?_, fun y hy e1 e2 => ?_, fun k => by rw [bl]; exact I.ndl k, fun a ha => ?_, fun y hy e1 e2 => ?_, by rw [ba]; exact I.nda⟩ hx
  · rw [hk y (ho y hy hne)]; exact I.wf y (ho y hy hne) (by simp)
  · by_cases e : y = (A.ws.length : Int)
    · rw [e, hn]; exact isI_of (by simp) (by simp)
    · rw [hk y (ho y hy (fun h => e (by simpa using h.symm)))]; exact I.row y (ho y hy (fun h => e (by simpa using h.symm)))
  · rw [bq] at hy
    have := I.q1 y hy
    rw [hk y this.1]
    exact ⟨hh y this.1, this.2.1, nn y this.1⟩
  · rw [hk y (ho y hy e2)] at e1; rw [bq]; exact I.q2 y (ho y hy e2) e1 (by simp) e3
  · rw [bs] at hy
    have := I.s1 k y hy
    rw [hk y this.1]
    exact ⟨hh y this.1, this.2.1, this.2.2.1, nn y this.1⟩
  · rw [hk y (ho y hy e2)] at e1 ⊢; rw [bs]; exact I.s2 y (ho y hy e2) e1 (by simp)
  · rw [bl] at hy; exact hh y (I.l0 k y hy)
  · rw [bl] at hy
    have := I.l1 k y hy
    have hy2 := I.l0 k y (List.mem_of_mem_tail hy)
    rw [hk y hy2]
    exact ⟨this.1, this.2.1, nn y hy2⟩
  · rw [hk y (ho y hy e2)] at e1 ⊢; rw [bl]; exact I.l2 y (ho y hy e2) e1 (by simp)
  · rw [ba] at ha
    have := I.a1 a ha
    rw [hk a.1 this.1]
    exact ⟨hh a.1 this.1, this.2.1, nn a.1 this.1⟩
  · rw [hk y (ho y hy e2)] at e1; rw [ba]; exact I.a2 y (ho y hy e2) e1 (by simp)
theorem eraseIdx_nd {l : List Int} (hn : l.Nodup) {k : Nat} (hk : k < l.length) : l.eraseIdx k = l.erase (l.getD k 0) := by
  have h1 : l.idxOf (l.getD k 0) = k := by
    simp only [List.getD, List.getElem?_eq_getElem hk, Option.getD_some]
    exact hn.idxOf_getElem k hk
  rw [List.erase_eq_eraseIdx_of_idxOf h1]
/-- One is picked. -/
theorem Inv.pick {A : Ab} (I : Inv A none) (i : Int) (hq : A.q ≠ []) : Inv { A with q := A.q.eraseIdx (pickAt A i), stp := true } (some (A.q.getD (pickAt A i) 0)) ∧ A.has (A.q.getD (pickAt A i) 0) = true := by
  obtain ⟨h1, h2⟩ := pickAt_lt A i hq
  have hx : A.q.getD (pickAt A i) 0 ∈ A.q := by simp [List.getD, h1]
  rw [eraseIdx_nd I.ndq h1]
  generalize A.q.getD (pickAt A i) 0 = x at *
  refine ⟨⟨I.wf, I.row, fun y hy => ?_, fun y hy e1 e2 e3 => ?_, I.ndq.erase _, I.s1, I.s2, I.nds, I.l0, I.l1, I.l2, I.ndl, I.a1, I.a2, I.nda⟩, (I.q1 x hx).1⟩
  · exact I.q1 y ((mem_erase_nd I.ndq).1 hy).2
  · exact (mem_erase_nd I.ndq).2 ⟨fun e => e3 (by rw [e]), I.q2 y hy e1 e2 (by simp)⟩
theorem Inv.ended {A : Ab} {x : Int} (I : Inv A (some x)) (hx : A.has x = true) : Inv (A.ended x) none := by
  unfold Ab.ended
  split
  · rename_i h
    obtain ⟨h1, h2⟩ := h
    have nn : ∀ {z : Int}, z ≠ x → some x ≠ some z := fun {z} e h => e (by simpa using h.symm)
    have J : InvH A none (some x) := by
      refine ⟨fun z hz _ => I.wf z hz (by simp), I.row, fun z hz => ⟨(I.q1 z hz).1, (I.q1 z hz).2.1, nn (fun e => h2 (by rw [← e]; exact hz))⟩, fun z hz e1 e2 _ => I.q2 z hz e1 (by simp) e2, I.ndq, fun j z hz => ⟨(I.s1 j z hz).1, (I.s1 j z hz).2.1, (I.s1 j z hz).2.2.1, nn (fun e => ?_)⟩, fun z hz e1 _ => I.s2 z hz e1 (by simp), I.nds, I.l0, fun j z hz => ⟨(I.l1 j z hz).1, (I.l1 j z hz).2.1, nn (fun e => ?_)⟩, fun z hz e1 _ => I.l2 z hz e1 (by simp), I.ndl, fun a ha => ⟨(I.a1 a ha).1, (I.a1 a ha).2.1, nn (fun e => ?_)⟩, fun z hz e1 _ => I.a2 z hz e1 (by simp), I.nda⟩
      · have := (I.s1 j z hz).2.1; rw [e] at this; omega
      · have := (I.l1 j z hz).1; rw [e] at this; omega
      · have := (I.a1 a ha).2.1; rw [e] at this; omega
    exact (J.stp false).toQ hx h1
  · rename_i h
    refine InvH.stp ⟨I.wf, I.row, I.q1, fun y hy e1 e2 _ => ?_, I.ndq, I.s1, I.s2, I.nds, I.l0, I.l1, I.l2, I.ndl, I.a1, I.a2, I.nda⟩ false
    by_cases e : y = x
    · by_cases hm : x ∈ A.q
      · rw [e]; exact hm
      · exact absurd ⟨by rw [← e]; exact e1, hm⟩ h
    · exact I.q2 y hy e1 e2 (fun h => e (by simpa using h.symm))
end Go.Proofs.Ytacmdhlemolngaa
