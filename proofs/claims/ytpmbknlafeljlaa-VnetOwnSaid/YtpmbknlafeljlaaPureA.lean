/- What a driver knows behind Add and behind Used, in plain mathematics of lists. -/
import Derived.Test.YtpmbknlafeljlaaRowA
namespace Go.Proofs.Ytpmbknlafeljlaa

def AddA (A : Abs) (m : Nat) : Abs := { A with free := A.free.drop m, fl := A.fl ++ [(A.free.getD 0 0, A.free.take m)], offers := (A.offers + 1) % 65536 }
def hp (hd : Int) : Nat × List Nat → Bool := fun p => decide ((p.1 : Int) = hd)
def UseA (A : Abs) (hd : Int) (ch : List Nat) : Abs := { A with free := srt (A.free ++ ch), fl := A.fl.eraseP (hp hd), uses := (A.uses + 1) % 65536 }
def BadA (A : Abs) : Abs := { A with uses := (A.uses + 1) % 65536 }

theorem look_eq (fl : List (Nat × List Nat)) (k : Int) : look fl k = (fl.find? (hp k)).map (·.2) := rfl
theorem look_some {fl : List (Nat × List Nat)} {k : Int} {l : List Nat} (h : look fl k = some l) : ∃ (x : Nat) (l1 l2 : List (Nat × List Nat)), fl = l1 ++ (x, l) :: l2 ∧ (x : Int) = k ∧ (∀ b ∈ l1, hp k b = false) ∧ fl.eraseP (hp k) = l1 ++ l2 := by
  rw [look_eq] at h
  cases hf : fl.find? (hp k) with
  | none => rw [hf] at h; cases h
  | some p =>
    rw [hf] at h
    simp at h
    obtain ⟨hp1, l1, l2, hfl, hl1⟩ := List.find?_eq_some_iff_append.1 hf
    obtain ⟨x, l'⟩ := p
    simp at h
    subst h
    refine ⟨x, l1, l2, hfl, by simpa [hp] using hp1, fun b hb => by simpa using hl1 b hb, ?_⟩
    rw [hfl, List.eraseP_append_right _ (fun b hb => by have := hl1 b hb; simpa using this), List.eraseP_cons_of_pos hp1]
theorem look_none {fl : List (Nat × List Nat)} {k : Int} (h : look fl k = none) : ∀ p ∈ fl, (p.1 : Int) ≠ k := by
  intro p hpm e
  rw [look_eq] at h
  simp only [Option.map_eq_none_iff, List.find?_eq_none] at h
  exact h p hpm (by simp [hp, e])
theorem look_none_of {fl : List (Nat × List Nat)} {k : Int} (h : ∀ p ∈ fl, (p.1 : Int) ≠ k) : look fl k = none := by
  rw [look_eq]
  simp only [Option.map_eq_none_iff, List.find?_eq_none]
  intro p hpm
  simpa [hp] using h p hpm
theorem look_append (l1 l2 : List (Nat × List Nat)) (k : Int) : look (l1 ++ l2) k = (look l1 k).or (look l2 k) := by
  rw [look_eq, look_eq, look_eq, List.find?_append]
  cases List.find? (hp k) l1 <;> rfl

theorem Wf.nodup {n : Nat} {A : Abs} (h : Wf n A) : (A.free ++ A.fl.flatMap (·.2)).Nodup := h.perm.nodup_iff.2 List.nodup_range
theorem head_mem {l : List Nat} {x : Nat} (h : l.head? = some x) : x ∈ l := List.mem_of_mem_head? (by simp [h])
theorem Wf.free_not {n : Nat} {A : Abs} (h : Wf n A) {x : Nat} (hx : x ∈ A.free) : look A.fl x = none := by
  apply look_none_of
  intro p hpm e
  have h1 := h.nodup
  rw [List.nodup_append] at h1
  have h2 : p.1 = x := by omega
  exact h1.2.2 x hx p.1 (List.mem_flatMap.2 ⟨p, hpm, head_mem (h.hd p hpm)⟩) h2.symm
theorem Wf.free_lt {n : Nat} {A : Abs} (h : Wf n A) {x : Nat} (hx : x ∈ A.free) : x < n := by
  have := h.perm.mem_iff.1 (List.mem_append_left _ hx)
  simpa using this
theorem Wf.len {n : Nat} {A : Abs} (h : Wf n A) : A.free.length + (A.fl.flatMap (·.2)).length = n := by
  have := h.perm.length_eq
  simpa using this

theorem AddA_wf {n : Nat} {A : Abs} (h : Wf n A) (m : Nat) (h0 : 0 < m) (hm : m ≤ A.free.length) : Wf n (AddA A m) where
  srt := h.srt.sublist (List.drop_sublist _ _)
  perm := by
    have e : (AddA A m).free ++ (AddA A m).fl.flatMap (·.2) = A.free.drop m ++ (A.fl.flatMap (·.2) ++ A.free.take m) := by simp [AddA]
    rw [e]
    refine List.Perm.trans ?_ h.perm
    refine (List.perm_append_comm (l₁ := A.free.drop m)).trans ?_
    rw [List.append_assoc, List.take_append_drop]
    exact List.perm_append_comm
  hd := by
    intro p hpm
    simp only [AddA, List.mem_append, List.mem_singleton] at hpm
    rcases hpm with hpm | rfl
    · exact h.hd p hpm
    · match hA : A.free, m with
      | [], _ => rw [hA] at hm; simp at hm; omega
      | x :: r, 0 => omega
      | x :: r, m + 1 => simp
  o := Nat.mod_lt _ (by omega)
  u := h.u
theorem AddA_look {n : Nat} {A : Abs} (h : Wf n A) (m : Nat) (h0 : 0 < m) (hm : m ≤ A.free.length) (k : Int) : look (AddA A m).fl k = if k = (A.free.getD 0 0 : Nat) then some (A.free.take m) else look A.fl k := by
  show look (A.fl ++ [(A.free.getD 0 0, A.free.take m)]) k = _
  rw [look_append]
  by_cases e : k = (A.free.getD 0 0 : Nat)
  · rw [if_pos e]
    have hx : A.free.getD 0 0 ∈ A.free := by rw [show A.free.getD 0 0 = A.free[0] by simp [List.getD, show 0 < A.free.length by omega]]; exact List.getElem_mem _
    rw [e, h.free_not hx]
    simp [look]
  · rw [if_neg e]
    have : look [(A.free.getD 0 0, A.free.take m)] k = none := look_none_of (fun p hpm => by simp at hpm; subst hpm; exact fun e' => e e'.symm)
    rw [this, Option.or_none]

theorem srt_perm (l : List Nat) : (srt l).Perm l := List.mergeSort_perm _ _
theorem srt_sorted (l : List Nat) (h : l.Nodup) : (srt l).Pairwise (· < ·) := by
  have hs : (srt l).Pairwise (fun x y => decide (x ≤ y) = true) := List.pairwise_mergeSort (le := fun x y : Nat => decide (x ≤ y)) (fun a b c h h' => by simp at *; omega) (fun a b => by simp; omega) l
  have hn2 : (srt l).Nodup := (srt_perm l).nodup_iff.2 h
  exact (hs.and hn2).imp fun ⟨h, h'⟩ => by simp at h; omega
theorem UseA_perm {A : Abs} {hd : Int} {ch : List Nat} (hl : look A.fl hd = some ch) : (srt (A.free ++ ch) ++ (A.fl.eraseP (hp hd)).flatMap (·.2)).Perm (A.free ++ A.fl.flatMap (·.2)) := by
  obtain ⟨x, l1, l2, hfl, _, _, he⟩ := look_some hl
  rw [he, hfl]
  simp only [List.flatMap_append, List.flatMap_cons]
  refine ((srt_perm _).append_right _).trans ?_
  rw [List.append_assoc]
  refine List.Perm.append_left _ ?_
  rw [← List.append_assoc, ← List.append_assoc]
  exact List.perm_append_comm.append_right _
theorem UseA_wf {n : Nat} {A : Abs} (h : Wf n A) {hd : Int} {ch : List Nat} (hl : look A.fl hd = some ch) : Wf n (UseA A hd ch) where
  srt := by
    refine srt_sorted _ ?_
    have h1 := (UseA_perm hl).nodup_iff.2 h.nodup
    rw [List.nodup_append] at h1
    exact (srt_perm _).nodup_iff.1 h1.1
  perm := (UseA_perm hl).trans h.perm
  hd := fun p hpm => h.hd p (List.mem_of_mem_eraseP hpm)
  o := h.o
  u := Nat.mod_lt _ (by omega)
theorem UseA_look {n : Nat} {A : Abs} (h : Wf n A) {hd : Int} {ch : List Nat} (hl : look A.fl hd = some ch) (k : Int) : look (UseA A hd ch).fl k = if k = hd then none else look A.fl k := by
  obtain ⟨x, l1, l2, hfl, hx, hl1, he⟩ := look_some hl
  show look (A.fl.eraseP (hp hd)) k = _
  rw [he]
  by_cases e : k = hd
  · rw [if_pos e, e]
    apply look_none_of
    intro p hpm e2
    rw [List.mem_append] at hpm
    rcases hpm with hpm | hpm
    · have := hl1 p hpm
      simp [hp] at this
      exact this e2
    · have hn := h.nodup
      rw [List.nodup_append] at hn
      have hn := hn.2.1
      rw [hfl] at hn
      simp only [List.flatMap_append, List.flatMap_cons] at hn
      rw [List.nodup_append] at hn
      have hn := hn.2.1
      rw [List.nodup_append] at hn
      have m1 : x ∈ ch := head_mem (h.hd (x, ch) (by rw [hfl]; simp))
      have m2 : p.1 ∈ l2.flatMap (·.2) := List.mem_flatMap.2 ⟨p, hpm, head_mem (h.hd p (by rw [hfl]; simp [hpm]))⟩
      exact hn.2.2 x m1 p.1 m2 (by omega)
  · rw [if_neg e, hfl, look_append, look_append]
    congr 1
    have : look ((x, ch) :: l2) k = (look [(x, ch)] k).or (look l2 k) := look_append [(x, ch)] l2 k
    rw [this, look_none_of (fl := [(x, ch)]) (fun p hpm => by simp at hpm; subst hpm; simp; omega)]
    rfl
theorem BadA_wf {n : Nat} {A : Abs} (h : Wf n A) : Wf n (BadA A) where
  srt := h.srt
  perm := h.perm
  hd := h.hd
  o := h.o
  u := Nat.mod_lt _ (by omega)
end Go.Proofs.Ytpmbknlafeljlaa
