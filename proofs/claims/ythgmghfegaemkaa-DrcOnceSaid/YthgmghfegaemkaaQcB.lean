/- Tables of calls: what stays of one that is done while others come and end. -/
import Derived.Test.YthgmghfegaemkaaQcA
namespace Go.Proofs.Ythgmghfegaemkaa
open Go.RowKit Go.Maps
set_option linter.unusedVariables false

theorem fndT_mem {L : Tl} {k : Ky} {o : Option (List Int)} (h : fndT L k = some o) : ∃ e ∈ L, e.1 = k ∧ e.2 = o := by
  unfold fndT at h
  cases hf : L.find? (fun e => decide (e.1 = k)) with
  | none => rw [hf] at h; simp at h
  | some e =>
    rw [hf] at h
    simp at h
    have h1 := List.find?_some hf
    exact ⟨e, List.mem_of_find?_eq_some hf, by simpa using h1, h⟩
/-- All are done; while fewer than n began, mine is known. -/
structure OnceI (N : Nat) (m : Ky) (r : List Int) (L : Tl) (bg : Nat) : Prop where
  len : L.length ≤ N
  done : ∀ e ∈ L, e.2.isSome = true
  small : ∀ e ∈ L, ∀ l, e.2 = some l → l.length ≤ 2000
  early : bg < N → L.length = bg + 1 ∧ fndT L m = some (some r)
theorem OnceI.step {N : Nat} {m : Ky} {r : List Int} {L : Tl} {bg : Nat} (h : OnceI N m r L bg) (hN : 0 < N) {k : Ky} (hk : k ≠ m) :
    OnceI N m r (enL (beL N L k) k []) (if beC N L k = 1 then bg + 1 else bg) := by
  cases hf : fndT L k with
  | some o =>
    obtain ⟨e, he, _, e2⟩ := fndT_mem hf
    have hd := h.done e he
    rw [e2] at hd
    cases o with
    | none => simp at hd
    | some l =>
      obtain ⟨eC, _, eL⟩ := beC_known (n := N) hf
      have e3 : enL L k [] = L := by unfold enL; rw [if_neg (by rw [hf]; simp)]
      rw [eC, eL, e3]
      exact h
  | none =>
    obtain ⟨M, hM, hML⟩ : ∃ M, rmT N L = some M ∧ ∀ e ∈ M, e ∈ L := by
      unfold rmT
      split
      · exact ⟨L, rfl, fun e he => he⟩
      · rename_i hlt
        cases hd : dIx L with
        | none =>
          rw [dIx_none] at hd
          cases L with
          | nil => simp at hlt; omega
          | cons e r2 =>
            have e1 := hd e (by simp)
            rw [h.done e (by simp)] at e1
            cases e1
        | some i => exact ⟨_, rfl, fun e he => List.mem_of_mem_eraseIdx he⟩
    obtain ⟨eC, _, eL⟩ := beC_new (n := N) hf
    rw [hM] at eC eL
    have hfM : fndT M k = none := fndT_none.2 (fun e he => fndT_none.1 hf e (hML e he))
    have hfR : fndT (runT M k) k = some none := by rw [fndT_push hfM, if_pos rfl]
    have e3 : enL (runT M k) k [] = doneT (runT M k) k [] := by unfold enL; rw [if_pos hfR]
    rw [eC, eL, show ((some M).map (fun M => runT M k)).getD L = runT M k from rfl, e3, if_pos (by rfl)]
    have hl := rmT_len hM h.len hN
    have hmem : ∀ e ∈ doneT (runT M k) k [], e = (k, some []) ∨ e ∈ L := by
      intro e he
      unfold doneT at he
      obtain ⟨f, hf1, rfl⟩ := List.mem_map.1 he
      split
      · exact .inl rfl
      · rename_i hfk
        rcases List.mem_append.1 hf1 with h1 | h1
        · exact .inr (hML f h1)
        · simp at h1
          exact absurd (by rw [h1]) hfk
    refine ⟨by rw [doneT_len]; simp [runT]; omega, fun e he => ?_, fun e he l hel => ?_, fun hb => ?_⟩
    · rcases hmem e he with rfl | h1
      · rfl
      · exact h.done e h1
    · rcases hmem e he with rfl | h1
      · simp at hel; subst hel; simp
      · exact h.small e h1 l hel
    · obtain ⟨h1, h2⟩ := h.early (by omega)
      have hML2 : M = L := by
        unfold rmT at hM
        rw [if_pos (by omega)] at hM
        simpa using hM.symm
      subst hML2
      refine ⟨by rw [doneT_len]; simp [runT]; omega, ?_⟩
      rw [fndT_done [] (by rw [hfR]; rfl), if_neg (fun e => hk e.symm), fndT_push hfM, if_neg (fun e => hk e.symm)]
      exact h2
theorem OnceI.zero (N : Nat) (hN : 0 < N) (m : Ky) (r : List Int) (hr : r.length ≤ 2000) : OnceI N m r [(m, some r)] 0 :=
  ⟨by simp; omega, fun e he => by simp at he; subst he; rfl, fun e he l hl => by simp at he; subst he; simp at hl; subst hl; exact hr, fun _ => ⟨rfl, by simp [fndT]⟩⟩
theorem OnceI.begun {N : Nat} {m : Ky} {r : List Int} {L : Tl} {bg : Nat} (h : OnceI N m r L bg) (k : Ky) (l : List Int) (hf : fndT L k = some (some l)) : l.length ≤ 900000 := by
  obtain ⟨e, he, _, e2⟩ := fndT_mem hf
  have := h.small e he l e2
  omega
/-- Behind Begin there is still room. -/
theorem OnceI.mid {N : Nat} {m : Ky} {r : List Int} {L : Tl} {bg : Nat} (h : OnceI N m r L bg) (hN : 0 < N) (k : Ky) : (beL N L k).length ≤ N := by
  unfold beL
  split
  · exact h.len
  · cases hr : rmT N L with
    | none => exact h.len
    | some M =>
      have := rmT_len hr h.len hN
      simp [runT]
      omega
end Go.Proofs.Ythgmghfegaemkaa
