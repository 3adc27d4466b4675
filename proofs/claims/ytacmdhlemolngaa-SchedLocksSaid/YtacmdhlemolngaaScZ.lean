/- Exit: where each worker stands behind it. -/
import Derived.Test.YtacmdhlemolngaaScY
namespace Go.Proofs.Ytacmdhlemolngaa

theorem wk_set_same {A B : Ab} {x : Int} (hx : A.has x = true) {k : Wk} (hB : B.ws = A.ws.set x.toNat k) : B.wk x = k := by
  obtain ⟨h0, h1, h2⟩ := Ab.has_lt hx
  unfold Ab.wk
  rw [hB]
  simp [List.getD, h1]
theorem wk_set_other {A B : Ab} {x y : Int} (hx : A.has x = true) (hy : 0 ≤ y) (hne : y ≠ x) {k : Wk} (hB : B.ws = A.ws.set x.toNat k) : B.wk y = A.wk y := by
  obtain ⟨h0, h1, h2⟩ := Ab.has_lt hx
  unfold Ab.wk
  rw [hB]
  have : x.toNat ≠ y.toNat := by omega
  simp [List.getD, this]
theorem has_set {A B : Ab} {x : Int} {k : Wk} (hB : B.ws = A.ws.set x.toNat k) (y : Int) : B.has y = A.has y := by unfold Ab.has; rw [hB, List.length_set]
/-- One that stands nowhere has ended. -/
theorem InvH.fin5 {A : Ab} {r : Option Int} {x : Int} (I : InvH A r (some x)) (hx : A.has x = true) : Inv { A with ws := A.ws.set x.toNat ⟨none, 5, 0⟩ } r := by
  have hh : ∀ y, ({ A with ws := A.ws.set x.toNat ⟨none, 5, 0⟩ } : Ab).has y = A.has y := has_set rfl
  have hs : ({ A with ws := A.ws.set x.toNat ⟨none, 5, 0⟩ } : Ab).wk x = ⟨none, 5, 0⟩ := wk_set_same hx rfl
  have ho : ∀ y, A.has y = true → y ≠ x → ({ A with ws := A.ws.set x.toNat ⟨none, 5, 0⟩ } : Ab).wk y = A.wk y := fun y hy hne => wk_set_other hx (has_bd hy).1 hne rfl
  have ne : ∀ {y : Int}, some x ≠ some y → y ≠ x := fun {y} h e => h (by rw [e])
  have nn : ∀ {y : Int}, y ≠ x → some x ≠ some y := fun {y} e h => e (by simpa using h.symm)
  refine ⟨fun y hy _ => ?_, fun y hy => ?_, fun y hy => ?_, fun y hy h1 _ h3 => ?_, I.ndq, fun k y hy => ?_, fun y hy h1 _ => ?_, I.nds, fun k y hy => ?_, fun k y hy => ?_, fun y hy h1 _ => ?_, I.ndl, fun a ha => ?_, fun y hy h1 _ => ?_, I.nda⟩
  · rw [hh] at hy
    by_cases e : y = x
    · rw [e, hs]; show (1 : Int) ≤ 5 ∧ (5 : Int) ≤ 5; omega
    · rw [ho y hy e]; exact I.wf y hy (nn e)
  · rw [hh] at hy
    by_cases e : y = x
    · rw [e, hs]; exact isI_of (by show (_ : Int) ≤ 0; omega) (by show (0 : Int) < _; omega)
    · rw [ho y hy e]; exact I.row y hy
  · have := I.q1 y hy; rw [hh, ho y this.1 (ne this.2.2)]; exact ⟨this.1, this.2.1, by simp⟩
  · rw [hh] at hy
    by_cases e : y = x
    · rw [e, hs] at h1; exact absurd h1 (by show ¬ (5 : Int) = 1; omega)
    · rw [ho y hy e] at h1; exact I.q2 y hy h1 (nn e) h3
  · have := I.s1 k y hy; rw [hh, ho y this.1 (ne this.2.2.2)]; exact ⟨this.1, this.2.1, this.2.2.1, by simp⟩
  · rw [hh] at hy
    by_cases e : y = x
    · rw [e, hs] at h1; exact absurd h1 (by show ¬ (5 : Int) = 2; omega)
    · rw [ho y hy e] at h1 ⊢; exact I.s2 y hy h1 (nn e)
  · rw [hh]; exact I.l0 k y hy
  · have := I.l1 k y hy; rw [ho y (I.l0 k y (List.mem_of_mem_tail hy)) (ne this.2.2)]; exact ⟨this.1, this.2.1, by simp⟩
  · rw [hh] at hy
    by_cases e : y = x
    · rw [e, hs] at h1; exact absurd h1 (by show ¬ (5 : Int) = 3; omega)
    · rw [ho y hy e] at h1 ⊢; exact I.l2 y hy h1 (nn e)
  · have := I.a1 a ha; rw [hh, ho a.1 this.1 (ne this.2.2)]; exact ⟨this.1, this.2.1, by simp⟩
  · rw [hh] at hy
    by_cases e : y = x
    · rw [e, hs] at h1; exact absurd h1 (by show ¬ (5 : Int) = 4; omega)
    · rw [ho y hy e] at h1; exact I.a2 y hy h1 (nn e)
theorem Inv.fin {A : Ab} {r : Option Int} {x : Int} (I : Inv A r) (hx : A.has x = true) : Inv (A.fin x) r := by
  have h1 := (InvH.leave I hx).fin5 (by rw [Ab.has_ws (Ab.leave_ws A x)]; exact hx)
  rw [Ab.leave_ws] at h1
  exact h1
theorem Inv.hands {r : Option Int} : ∀ {L : List Int} {A : Ab}, Inv A r → Inv (A.hands L) r
  | [], _, I => I
  | k :: L, _, I => Inv.hands (L := L) (I.hand k)
theorem hands_len : ∀ (L : List Int) (A : Ab), (A.hands L).ws.length = A.ws.length
  | [], _ => rfl
  | k :: L, A => by show ((A.hand k).hands L).ws.length = _; rw [hands_len, hand_len]
/-- Who is ready, and who stands where, behind a lock that was handed on. -/
theorem hand_wk {A : Ab} {r : Option Int} (I : Inv A r) (k : Int) {y : Int} (hy : A.has y = true) : (A.hand k).has y = true ∧ ((A.hand k).wk y = A.wk y ∨ ((A.wk y).st = 3 ∧ ((A.hand k).wk y).st = 1)) := by
  refine ⟨by unfold Ab.has at *; rw [hand_len]; exact hy, ?_⟩
  unfold Ab.hand
  cases ht : (A.lk k).tail with
  | nil => exact .inl rfl
  | cons z t =>
    have hz := I.l0 k z (List.mem_of_mem_tail (by rw [ht]; simp))
    have hz3 := (I.l1 k z (by rw [ht]; simp)).1
    by_cases e : y = z
    · subst e
      refine .inr ⟨hz3, ?_⟩
      show ((({ A with lk := upd A.lk k (y :: t) } : Ab).ready [y]).wk y).st = 1
      rw [wk_setw_same (A := A) (B := ({ A with lk := upd A.lk k (y :: t) } : Ab).ready [y]) hz rfl]
    · exact .inl (wk_setw_other (A := A) (B := ({ A with lk := upd A.lk k (z :: t) } : Ab).ready [z]) hz (has_bd hy).1 e rfl)
theorem hands_st5 {r : Option Int} : ∀ {L : List Int} {A : Ab}, Inv A r → ∀ y, A.has y = true → (A.hands L).has y = true ∧ (((A.hands L).wk y).st = 5 ↔ (A.wk y).st = 5)
  | [], _, _, y, hy => ⟨hy, Iff.rfl⟩
  | k :: L, A, I, y, hy => by
    obtain ⟨h1, h2⟩ := hand_wk I k hy
    obtain ⟨h3, h4⟩ := hands_st5 (L := L) (I.hand k) y h1
    refine ⟨h3, h4.trans ?_⟩
    rcases h2 with e | ⟨e1, e2⟩
    · rw [e]
    · constructor <;> intro e <;> omega
theorem hands_lk : ∀ (L : List Int) (A : Ab), L.Pairwise (· < ·) → ∀ j, (A.hands L).lk j = if j ∈ L then (A.lk j).tail else A.lk j
  | [], _, _, j => by simp [Ab.hands]
  | k :: L, A, hp, j => by
    have hp2 := List.pairwise_cons.1 hp
    show ((A.hand k).hands L).lk j = _
    rw [hands_lk L _ hp2.2]
    by_cases e : j = k
    · subst e
      have hn : j ∉ L := fun h => by have := hp2.1 j h; omega
      rw [if_neg hn, if_pos (by simp), hand_same]
    · rw [hand_other _ _ _ e]
      by_cases h : j ∈ L
      · rw [if_pos h, if_pos (List.mem_cons_of_mem _ h)]
      · rw [if_neg h, if_neg (by simp [e, h])]
theorem fin_wk {A : Ab} {x : Int} (hx : A.has x = true) : (A.fin x).ws.length = A.ws.length ∧ (∀ y, (A.fin x).has y = A.has y) ∧ (A.fin x).wk x = ⟨none, 5, 0⟩ ∧ ∀ y, 0 ≤ y → y ≠ x → (A.fin x).wk y = A.wk y :=
  ⟨by show (A.ws.set _ _).length = _; simp, has_set (A := A) rfl, wk_set_same hx rfl, fun _ h0 h => wk_set_other hx h0 h rfl⟩
/-- Nobody that has ended holds a lock. -/
def Hd (A : Ab) : Prop := ∀ k, IsI k → ∀ y, (A.lk k).head? = some y → (A.wk y).st ≠ 5
theorem fin_head {A : Ab} {r : Option Int} (I : Inv A r) {x : Int} (hx : A.has x = true) (k y : Int) (h : ((A.fin x).lk k).head? = some y) : (A.lk k).head? = some y := by
  have e : (A.fin x).lk = (A.leave x).lk := rfl
  rw [e, Ab.leave_eq] at h
  split at h
  · exact h
  · split at h
    · exact h
    · split at h
      · rename_i h3
        have h' : (upd A.lk (A.wk x).row ((A.lk (A.wk x).row).erase x) k).head? = some y := h
        rw [upd_at] at h'
        split at h'
        · rename_i ek
          have hxt := I.l2 x hx h3 (by simp)
          have hnd := I.ndl (A.wk x).row
          rw [ek]
          cases hl : A.lk (A.wk x).row with
          | nil => rw [hl] at hxt; simp at hxt
          | cons a t =>
            rw [hl] at hxt hnd h'
            have hax : a ≠ x := fun e => by rw [e] at hnd; exact (List.nodup_cons.1 hnd).1 hxt
            rw [List.erase_cons_tail (by simpa using hax)] at h'
            exact h'
        · exact h'
      · split at h
        · exact h
        · exact h
/-- Behind Exit. -/
theorem exit_all {A : Ab} {r : Option Int} (I : Inv A r) (D : Hd A) {x : Int} (hx : A.has x = true) {L : List Int} (hL : Holds (A.fin x) x L) :
    Inv ((A.fin x).hands L) r ∧ Hd ((A.fin x).hands L) ∧ ((A.fin x).hands L).ws.length = A.ws.length ∧ (∀ y, A.has y = true → ((((A.fin x).hands L).wk y).st = 5 ↔ y = x ∨ (A.wk y).st = 5)) := by
  obtain ⟨f1, f2, f3, f4⟩ := fin_wk hx
  have IF := I.fin hx
  have hst : ∀ y, A.has y = true → ((((A.fin x).hands L).wk y).st = 5 ↔ y = x ∨ (A.wk y).st = 5) := fun y hy => by
    rw [(hands_st5 IF y (by rw [f2]; exact hy)).2]
    by_cases e : y = x
    · rw [e, f3]; simp
    · rw [f4 y (has_bd hy).1 e]; simp [e]
  refine ⟨IF.hands, fun k hk y hy => ?_, by rw [hands_len, f1], hst⟩
  rw [hands_lk L _ hL.sorted] at hy
  have hyA : A.has y = true := by
    rw [← f2]
    refine IF.l0 k y ?_
    split at hy
    · exact List.mem_of_mem_tail (List.mem_of_mem_head? hy)
    · exact List.mem_of_mem_head? hy
  intro h5
  rcases (hst y hyA).1 h5 with e | e
  · subst e
    split at hy
    · rename_i hk2
      have hh := ((hL.mem k).1 hk2).2
      have hnd := IF.ndl k
      cases hl : (A.fin y).lk k with
      | nil => rw [hl] at hh; simp at hh
      | cons a t =>
        rw [hl] at hh hnd hy
        simp at hh
        subst hh
        exact (List.nodup_cons.1 hnd).1 (List.mem_of_mem_head? hy)
    · rename_i hk2
      exact hk2 ((hL.mem k).2 ⟨hk, hy⟩)
  · split at hy
    · -- the second in a row waited
      have hyt : y ∈ ((A.fin x).lk k).tail := List.mem_of_mem_head? hy
      have h3 := (IF.l1 k y hyt).1
      by_cases ex : y = x
      · rw [ex, f3] at h3; exact absurd h3 (by show ¬ (5 : Int) = 3; omega)
      · rw [f4 y (has_bd hyA).1 ex] at h3; omega
    · exact D k hk y (fin_head I hx k y hy) e
end Go.Proofs.Ytacmdhlemolngaa
