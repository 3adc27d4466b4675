/- IfA, IfB in one text. -/
import Derived.Test.YtnifdbameoilnaaGreatDoorIcF
/- On a sound tree every block is reached, and what is written is written. -/
namespace Go.Proofs.YtnifdbameoilnaaGreatDoor
open Go.RowKit Go.Maps
set_option linter.unusedVariables false

def topS (k : Nat) : Nat := if k < 6 then k else 5 + depF k
def dj (j : Nat) : Nat := j - 5
theorem dj_top (k : Nat) : dj (topS k) = depF k ∧ topS k < 9 := by
  unfold dj topS depF
  constructor <;> (repeat' split) <;> omega
/-- The slot of the t-th pointer, from the first block of pointers on. -/
def slotF (k t : Nat) : Nat := plcF k / spN (depF k - 1 - t) % 128
theorem slotF_lt (k t : Nat) : slotF k t < 128 := Nat.mod_lt _ (by decide)
/-- Where the t-th pointer on the way to block k leads. -/
def leadF (c : Nat → List Int) (ptr : Nat → Nat) (k : Nat) : Nat → Nat
  | 0 => ptr (topS k)
  | t + 1 => pAt (c (leadF c ptr k t)) (slotF k t)
theorem comeF_ok {k place block slot lead wide : Nat} (h : lead ≠ 0) : comeF k place block slot lead wide = .ok lead := by unfold comeF; rw [if_neg h]
theorem comeF_no {k place block slot wide : Nat} : comeF k place block slot 0 wide = .error (block, slot, k - place % wide + wide) := by unfold comeF; rw [if_pos rfl]
variable {c c' : Nat → List Int} {F F' : Nat → Bool} {ptr ptr' : Nat → Nat} {N D x k : Nat} {lv : Nat → Nat}
/-- The way, a step at a time. -/
def stF (c : Nat → List Int) (ptr : Nat → Nat) (k : Nat) : Nat → Fr
  | 0 => comeF k (plcF k) 0 (topS k) (ptr (topS k)) (spN (depF k))
  | t + 1 => stepF c k (plcF k) (stF c ptr k t) (spN (depF k - 1 - t))
theorem find_st : findF c ptr k = stF c ptr k (depF k) ∧ ((∀ t, t < depF k → ∀ a, stF c ptr k t = .ok a → a < N) → FindOk c ptr N k) := by
  unfold findF FindOk
  by_cases h1 : k < 6
  · have hd : depF k = 0 := by unfold depF; rw [if_pos h1]
    have hp : plcF k = k := by unfold plcF; rw [if_pos h1]
    have ht : topS k = k := by unfold topS; rw [if_pos h1]
    have e0 : stF c ptr k 0 = comeF k k 0 k (ptr k) 1 := by show comeF k (plcF k) 0 (topS k) (ptr (topS k)) (spN (depF k)) = _; rw [hd, hp, ht]; rfl
    rw [if_pos h1, hd, e0]
    exact ⟨rfl, fun _ => ⟨fun h => by omega, fun h => by omega, fun h => by omega⟩⟩
  · by_cases h2 : k < 134
    · have hd : depF k = 1 := by unfold depF; rw [if_neg h1, if_pos h2]
      have hp : plcF k = k - 6 := by unfold plcF; rw [if_neg h1, if_pos h2]
      have ht : topS k = 6 := by unfold topS; rw [if_neg h1, hd]
      have e0 : stF c ptr k 0 = comeF k (k - 6) 0 6 (ptr 6) 128 := by show comeF k (plcF k) 0 (topS k) (ptr (topS k)) (spN (depF k)) = _; rw [hd, hp, ht]; rfl
      have e1 : stF c ptr k 1 = stepF c k (k - 6) (comeF k (k - 6) 0 6 (ptr 6) 128) 1 := by show stepF c k (plcF k) (stF c ptr k 0) (spN (depF k - 1 - 0)) = _; rw [e0, hd, hp]; rfl
      rw [if_neg h1, if_pos h2, hd, e1]
      exact ⟨rfl, fun h => ⟨fun _ _ a ha => h 0 (by omega) a (by rw [e0]; exact ha), fun h => by omega, fun h => by omega⟩⟩
    · by_cases h3 : k < 16518
      · have hd : depF k = 2 := by unfold depF; rw [if_neg h1, if_neg h2, if_pos h3]
        have hp : plcF k = k - 134 := by unfold plcF; rw [if_neg h1, if_neg h2, if_pos h3]
        have ht : topS k = 7 := by unfold topS; rw [if_neg h1, hd]
        have e0 : stF c ptr k 0 = comeF k (k - 134) 0 7 (ptr 7) 16384 := by show comeF k (plcF k) 0 (topS k) (ptr (topS k)) (spN (depF k)) = _; rw [hd, hp, ht]; rfl
        have e1 : stF c ptr k 1 = stepF c k (k - 134) (comeF k (k - 134) 0 7 (ptr 7) 16384) 128 := by show stepF c k (plcF k) (stF c ptr k 0) (spN (depF k - 1 - 0)) = _; rw [e0, hd, hp]; rfl
        have e2 : stF c ptr k 2 = stepF c k (k - 134) (stepF c k (k - 134) (comeF k (k - 134) 0 7 (ptr 7) 16384) 128) 1 := by show stepF c k (plcF k) (stF c ptr k 1) (spN (depF k - 1 - 1)) = _; rw [e1, hd, hp]; rfl
        rw [if_neg h1, if_neg h2, if_pos h3, hd, e2]
        exact ⟨rfl, fun h => ⟨fun _ _ => by omega, fun _ _ => ⟨fun a ha => h 0 (by omega) a (by rw [e0]; exact ha), fun a ha => h 1 (by omega) a (by rw [e1]; exact ha)⟩, fun h => by omega⟩⟩
      · have hd : depF k = 3 := by unfold depF; rw [if_neg h1, if_neg h2, if_neg h3]
        have hp : plcF k = k - 16518 := by unfold plcF; rw [if_neg h1, if_neg h2, if_neg h3]
        have ht : topS k = 8 := by unfold topS; rw [if_neg h1, hd]
        have e0 : stF c ptr k 0 = comeF k (k - 16518) 0 8 (ptr 8) 2097152 := by show comeF k (plcF k) 0 (topS k) (ptr (topS k)) (spN (depF k)) = _; rw [hd, hp, ht]; rfl
        have e1 : stF c ptr k 1 = stepF c k (k - 16518) (comeF k (k - 16518) 0 8 (ptr 8) 2097152) 16384 := by show stepF c k (plcF k) (stF c ptr k 0) (spN (depF k - 1 - 0)) = _; rw [e0, hd, hp]; rfl
        have e2 : stF c ptr k 2 = stepF c k (k - 16518) (stepF c k (k - 16518) (comeF k (k - 16518) 0 8 (ptr 8) 2097152) 16384) 128 := by show stepF c k (plcF k) (stF c ptr k 1) (spN (depF k - 1 - 1)) = _; rw [e1, hd, hp]; rfl
        have e3 : stF c ptr k 3 = stepF c k (k - 16518) (stepF c k (k - 16518) (stepF c k (k - 16518) (comeF k (k - 16518) 0 8 (ptr 8) 2097152) 16384) 128) 1 := by show stepF c k (plcF k) (stF c ptr k 2) (spN (depF k - 1 - 2)) = _; rw [e2, hd, hp]; rfl
        rw [if_neg h1, if_neg h2, if_neg h3, hd, e3]
        exact ⟨rfl, fun h => ⟨fun _ _ => by omega, fun _ _ => by omega, fun _ => ⟨fun a ha => h 0 (by omega) a (by rw [e0]; exact ha), fun a ha => h 1 (by omega) a (by rw [e1]; exact ha), fun a ha => h 2 (by omega) a (by rw [e2]; exact ha)⟩⟩⟩
theorem st_ok (t : Nat) (h : ∀ s, s ≤ t → leadF c ptr k s ≠ 0) : stF c ptr k t = .ok (leadF c ptr k t) := by
  induction t with
  | zero => exact comeF_ok (h 0 (Nat.le_refl _))
  | succ t ih =>
    unfold stF
    rw [ih (fun s hs => h s (by omega))]
    exact comeF_ok (h (t + 1) (Nat.le_refl _))
/-- Where the first pointer that leads nowhere stands. -/
def hBlk (c : Nat → List Int) (ptr : Nat → Nat) (k : Nat) : Nat → Nat
  | 0 => 0
  | t + 1 => leadF c ptr k t
def hSlot (k : Nat) : Nat → Nat
  | 0 => topS k
  | t + 1 => slotF k t
theorem st_no (t : Nat) (h : ∀ s, s < t → leadF c ptr k s ≠ 0) (h0 : leadF c ptr k t = 0) : ∃ nx, stF c ptr k t = .error (hBlk c ptr k t, hSlot k t, nx) := by
  cases t with
  | zero =>
    have e : ptr (topS k) = 0 := h0
    unfold stF
    rw [e]
    exact ⟨_, comeF_no⟩
  | succ t =>
    have e : pAt (c (leadF c ptr k t)) (slotF k t) = 0 := h0
    unfold stF
    rw [st_ok t (fun s hs => h s (by omega))]
    show ∃ nx, comeF k (plcF k) (leadF c ptr k t) (slotF k t) (pAt (c (leadF c ptr k t)) (slotF k t)) _ = _
    rw [e]
    exact ⟨_, comeF_no⟩
theorem st_stay {t : Nat} {e : Nat × Nat × Nat} (h : stF c ptr k t = .error e) (m : Nat) : stF c ptr k (t + m) = .error e := by
  induction m with
  | zero => exact h
  | succ m ih =>
    show stepF c k (plcF k) (stF c ptr k (t + m)) _ = _
    rw [ih]
    rfl
theorem st_lead {t a : Nat} (h : stF c ptr k t = .ok a) : a = leadF c ptr k t ∧ ∀ s, s ≤ t → leadF c ptr k s ≠ 0 := by
  have key : ∀ s, s ≤ t → leadF c ptr k s ≠ 0 := by
    intro s
    induction s using Nat.strongRecOn with
    | _ s ih =>
      intro hs h0
      obtain ⟨nx, e⟩ := st_no s (fun q hq => ih q hq (by omega)) h0
      have := st_stay e (t - s)
      rw [show s + (t - s) = t by omega, h] at this
      cases this
  refine ⟨?_, key⟩
  have := st_ok t key
  rw [h] at this
  exact Except.ok.inj this
end Go.Proofs.YtnifdbameoilnaaGreatDoor

/- A sound tree: every block is reached. -/
namespace Go.Proofs.YtnifdbameoilnaaGreatDoor
open Go.RowKit Go.Maps
set_option linter.unusedVariables false
variable {c c' : Nat → List Int} {F F' : Nat → Bool} {ptr ptr' : Nat → Nat} {N D x k : Nat} {lv : Nat → Nat}
def FTN (N x : Nat) : Nat → Bool := fun k => decide (k < x) || decide (N ≤ k)
theorem FTN_low (hD : D ≤ x) (h2 : x < N) : LowF (FTN N x) D N x := ⟨hD, h2, by unfold FTN; simp; omega, fun j _ h3 => by unfold FTN; simp; omega⟩
theorem FTN_flip (h2 : x < N) : flip1 (FTN N x) x = FTN N (x + 1) := by
  funext j
  unfold flip1 FTN
  by_cases e : j = x
  · subst e
    rw [if_pos rfl]
    have h1 : decide (j < j) = false := by simp
    have h3 : decide (N ≤ j) = false := by simp; omega
    have h4 : decide (j < j + 1) = true := by simp
    rw [h1, h3, h4]; rfl
  · rw [if_neg e]
    congr 1
    exact decide_eq_decide.2 (by omega)
/-- A pointer leads nowhere, or to a block of that level below x. -/
def Pl (x : Nat) (lv : Nat → Nat) (L a : Nat) : Prop := a = 0 ∨ (69 < a ∧ a < x ∧ lv a = L)
/-- Every pointer leads nowhere or to a block of its level; blocks from x on are free. -/
structure Tr (N D : Nat) (c : Nat → List Int) (ptr : Nat → Nat) (x : Nat) (lv : Nat → Nat) : Prop where
  d : 69 < D ∧ D ≤ x ∧ x ≤ N ∧ N ≤ 4096
  p : ∀ j, j < 9 → Pl x lv (dj j) (ptr j)
  b : ∀ b, 69 < b → b < x → 1 ≤ lv b → ∀ s, s < 128 → Pl x lv (lv b - 1) (pAt (c b) s)
def updL (lv : Nat → Nat) (x L : Nat) : Nat → Nat := fun j => if j = x then L else lv j
theorem updL_same : updL lv x D x = D := by simp [updL]
theorem updL_other {j L : Nat} (h : j ≠ x) : updL lv x L j = lv j := by simp [updL, h]
theorem Pl.grow {L L' a : Nat} (h : Pl x lv L a) : Pl (x + 1) (updL lv x L') L a := by
  rcases h with h | ⟨h1, h2, h3⟩
  · exact .inl h
  · exact .inr ⟨h1, by omega, by rw [updL_other (by omega)]; exact h3⟩
theorem pAt_zeros (s : Nat) (hs : s < 128) : pAt zeros512 s = 0 := by
  unfold pAt rdN zeros512
  rw [List.drop_replicate, List.take_replicate, show min 4 (512 - s * 4) = 4 by omega]
  rfl
/-- The leads are sound. -/
theorem Tr.lead (h : Tr N D c ptr x lv) (t : Nat) (ht : t ≤ depF k) (hz : ∀ s, s < t → leadF c ptr k s ≠ 0) : Pl x lv (depF k - t) (leadF c ptr k t) := by
  induction t with
  | zero =>
    have := h.p (topS k) (dj_top k).2
    rw [(dj_top k).1] at this
    exact this
  | succ t ih =>
    have h1 := ih (by omega) (fun s hs => hz s (by omega))
    rcases h1 with h1 | ⟨h1, h2, h3⟩
    · exact absurd h1 (hz t (by omega))
    · have := h.b _ h1 h2 (by omega) (slotF k t) (slotF_lt k t)
      rw [h3, Nat.sub_sub] at this
      exact this
theorem fillC_x {blk slot : Nat} : fillC c F x blk slot x = zeros512 := by unfold fillC; rw [updN_same]
theorem fillC_oth {blk slot b : Nat} (h1 : b ≠ x) (h2 : b ≠ 69) (h3 : b ≠ blk) : fillC c F x blk slot b = c b := by
  unfold fillC
  rw [updN_other _ _ h1]
  split
  · rw [updN_other _ _ h2]
  · rw [updN_other _ _ h3, updN_other _ _ h2]
theorem fillC_blk {blk slot : Nat} (h1 : blk ≠ x) (h2 : blk ≠ 69) (h3 : blk ≠ 0) (hx : x < 4294967296) (hs : slot < 128) (hb : ∀ s, s < 128 → pAt (c blk) s < 4294967296) (s : Nat) (hs2 : s < 128) : pAt (fillC c F x blk slot blk) s = if s = slot then x else pAt (c blk) s := by
  unfold fillC
  rw [updN_other _ _ h1, if_neg h3, updN_same, updN_other _ _ h2, pAt_enc (fun y hy => by
    rcases List.mem_or_eq_of_mem_set hy with h | h
    · simp only [ptrsL, List.mem_map, List.mem_range] at h
      obtain ⟨q, hq, rfl⟩ := h
      have := hb q hq
      omega
    · rw [h]; omega) (by rw [List.length_set, ptrsL_len]; exact hs2), List.getD_eq_getElem?_getD, List.getElem?_set]
  by_cases e : s = slot
  · subst e
    rw [if_pos rfl, if_pos rfl, if_pos (by rw [ptrsL_len]; exact hs2)]
    simp
  · rw [if_neg (fun h => e h.symm), if_neg e, ptrsL_at _ hs2]
    simp
theorem Pl.lt {L a : Nat} (h : Pl x lv L a) (hx : x ≤ 4096) : a < 4294967296 := by
  rcases h with h | ⟨_, h, _⟩ <;> omega
/-- A hole filled leaves it sound. -/
theorem Tr.fill (h : Tr N D c ptr x lv) (hx : x < N) (t : Nat) (ht : t ≤ depF k) (hz : ∀ s, s < t → leadF c ptr k s ≠ 0) (h0 : leadF c ptr k t = 0) :
    Tr N D (fillC c F x (hBlk c ptr k t) (hSlot k t)) (fillP ptr x (hBlk c ptr k t) (hSlot k t)) (x + 1) (updL lv x (depF k - t)) ∧ HoleOk (hBlk c ptr k t) (hSlot k t) N ∧
    ∀ s, s ≤ t → leadF (fillC c F x (hBlk c ptr k t) (hSlot k t)) (fillP ptr x (hBlk c ptr k t) (hSlot k t)) k s ≠ 0 := by
  have hd := h.d
  cases t with
  | zero =>
    have hp0 : ∀ j, fillP ptr x 0 (topS k) j = if j = topS k then x else ptr j := fun j => by unfold fillP updP; rw [if_pos rfl]
    refine ⟨⟨by omega, fun j hj => ?_, fun b hb1 hb2 hb3 s hs => ?_⟩, .inl ⟨rfl, (dj_top k).2⟩, fun s hs => ?_⟩
    · show Pl _ _ _ (fillP ptr x 0 (topS k) j)
      rw [hp0]
      by_cases e : j = topS k
      · rw [if_pos e, e, (dj_top k).1]
        exact .inr ⟨by omega, by omega, by rw [updL_same]; rfl⟩
      · rw [if_neg e]; exact (h.p j hj).grow
    · show Pl _ _ _ (pAt (fillC c F x 0 (topS k) b) s)
      by_cases e : b = x
      · subst e; rw [fillC_x, pAt_zeros s hs]; exact .inl rfl
      · rw [updL_other e] at hb3 ⊢
        rw [fillC_oth e (by omega) (by omega)]
        exact (h.b b hb1 (by omega) hb3 s hs).grow
    · obtain rfl : s = 0 := by omega
      show fillP ptr x 0 (topS k) (topS k) ≠ 0
      rw [hp0, if_pos rfl]
      omega
  | succ t =>
    have hL := h.lead t (by omega) (fun s hs => hz s (by omega))
    rcases hL with hL | ⟨g1, g2, g3⟩
    · exact absurd hL (hz t (by omega))
    · obtain ⟨B, hB⟩ : ∃ B, leadF c ptr k t = B := ⟨_, rfl⟩
      obtain ⟨q, hq⟩ : ∃ q, slotF k t = q := ⟨_, rfl⟩
      have hq2 : q < 128 := by rw [← hq]; exact slotF_lt k t
      show Tr N D (fillC c F x (leadF c ptr k t) (slotF k t)) (fillP ptr x (leadF c ptr k t) (slotF k t)) (x + 1) (updL lv x (depF k - (t + 1))) ∧ HoleOk (leadF c ptr k t) (slotF k t) N ∧ ∀ s, s ≤ t + 1 → leadF (fillC c F x (leadF c ptr k t) (slotF k t)) (fillP ptr x (leadF c ptr k t) (slotF k t)) k s ≠ 0
      rw [hB] at g1 g2 g3 ⊢
      rw [hq]
      have hp0 : fillP ptr x B q = ptr := by unfold fillP; rw [if_neg (by omega)]
      rw [hp0]
      have hent : ∀ s, s < 128 → Pl x lv (lv B - 1) (pAt (c B) s) := fun s hs => h.b B g1 g2 (by omega) s hs
      have hblk : ∀ s, s < 128 → pAt (fillC c F x B q B) s = if s = q then x else pAt (c B) s := fun s hs => fillC_blk (by omega) (by omega) (by omega) (by omega) hq2 (fun s hs => (hent s hs).lt (by omega)) s hs
      have hlead : ∀ s, s ≤ t → leadF (fillC c F x B q) ptr k s = leadF c ptr k s := by
        intro s
        induction s with
        | zero => intro _; rfl
        | succ s ih =>
          intro hs
          have hLs := h.lead s (by omega) (fun r hr => hz r (by omega))
          rcases hLs with hLs | ⟨k1, k2, k3⟩
          · exact absurd hLs (hz s (by omega))
          · show pAt (fillC c F x B q (leadF (fillC c F x B q) ptr k s)) (slotF k s) = pAt (c (leadF c ptr k s)) (slotF k s)
            rw [ih (by omega), fillC_oth (by omega) (by omega) (fun e => by rw [e] at k3; omega)]
      refine ⟨⟨by omega, fun j hj => (h.p j hj).grow, fun b hb1 hb2 hb3 s hs => ?_⟩, .inr ⟨g1, by omega, hq2⟩, fun s hs => ?_⟩
      · by_cases e : b = x
        · subst e; rw [fillC_x, pAt_zeros s hs]; exact .inl rfl
        · rw [updL_other e] at hb3 ⊢
          by_cases e2 : b = B
          · subst e2
            rw [hblk s hs]
            by_cases e3 : s = q
            · rw [if_pos e3]
              exact .inr ⟨by omega, by omega, by rw [updL_same, g3]; omega⟩
            · rw [if_neg e3]; exact (hent s hs).grow
          · rw [fillC_oth e (by omega) e2]
            exact (h.b b hb1 (by omega) hb3 s hs).grow
      · by_cases e : s ≤ t
        · rw [hlead s e]; exact hz s (by omega)
        · obtain rfl : s = t + 1 := by omega
          show pAt (fillC c F x B q (leadF (fillC c F x B q) ptr k t)) (slotF k t) ≠ 0
          rw [hlead t (Nat.le_refl _), hB, hq, hblk q hq2, if_pos rfl]
          omega
theorem Tr.findOk (h : Tr N D c ptr x lv) : FindOk c ptr N k := find_st.2 fun t ht a ha => by
  obtain ⟨e, hz⟩ := st_lead ha
  have hd := h.d
  rcases h.lead t (by omega) (fun s hs => hz s (by omega)) with h1 | ⟨_, h2, _⟩ <;> omega
/-- Every block is reached, with a new block or none a pointer. -/
theorem Tr.reach (n : Nat) : ∀ (c : Nat → List Int) (ptr : Nat → Nat) (x : Nat) (lv : Nat → Nat) (t : Nat), Tr N D c ptr x lv → t + n = depF k + 1 → x + n ≤ N → (∀ s, s < t → leadF c ptr k s ≠ 0) →
    ∃ m c' ptr' x' lv' a, m ≤ n ∧ Reach k D N m c (FTN N x) ptr c' (FTN N x') ptr' a ∧ Tr N D c' ptr' x' lv' ∧ x' ≤ x + n ∧ 69 < a ∧ a < x' ∧ lv' a = 0 := by
  induction n with
  | zero =>
    intro c ptr x lv t h ht hx hz
    have ht' : depF k < t := by omega
    have hf := (find_st (c := c) (ptr := ptr) (k := k) (N := N)).1
    rw [st_ok (depF k) (fun s hs => hz s (by omega))] at hf
    rcases h.lead (k := k) (depF k) (Nat.le_refl _) (fun s hs => hz s (by omega)) with h1 | ⟨h1, h2, h3⟩
    · exact absurd h1 (hz _ ht')
    · exact ⟨0, c, ptr, x, lv, _, Nat.le_refl _, .done h.findOk hf, h, by omega, h1, h2, by rw [h3]; omega⟩
  | succ n ih =>
    intro c ptr x lv t h ht hx hz
    by_cases h0 : leadF c ptr k t = 0
    · obtain ⟨nx, hno⟩ := st_no t hz h0
      have hf := (find_st (c := c) (ptr := ptr) (k := k) (N := N)).1
      have hst := st_stay hno (depF k - t)
      rw [show t + (depF k - t) = depF k by omega] at hst
      rw [hst] at hf
      obtain ⟨h1, h2, h3⟩ := h.fill (F := FTN N x) (by omega) t (by omega) hz h0
      obtain ⟨m, c', ptr', x', lv', a, hm, hr, htr, hx', ha⟩ := ih _ _ _ _ (t + 1) h1 (by omega) (by omega) (fun s hs => h3 s (by omega))
      refine ⟨m + 1, c', ptr', x', lv', a, by omega, .fill h.findOk hf h2 (FTN_low h.d.2.1 (by omega)) ?_, htr, by omega, ha⟩
      rw [FTN_flip (by omega)]
      exact hr
    · obtain ⟨m, c', ptr', x', lv', a, hm, hr, htr, hx', ha⟩ := ih c ptr x lv (t + 1) h (by omega) (by omega) (fun s hs => by
        by_cases e : s = t
        · rw [e]; exact h0
        · exact hz s (by omega))
      exact ⟨m, c', ptr', x', lv', a, by omega, hr, htr, by omega, ha⟩
theorem depF_le (k : Nat) : depF k ≤ 3 := by unfold depF; (repeat' split) <;> omega
theorem Tr.lay (h : Tr N D c ptr x lv) (a : Nat) (l : List Int) (ha : lv a = 0) : Tr N D (updN c a l) ptr x lv :=
  ⟨h.d, h.p, fun b h1 h2 h3 s hs => by rw [updN_other _ _ (fun e => by rw [e] at h3; omega)]; exact h.b b h1 h2 h3 s hs⟩
/-- What is written is written: four new blocks or fewer for each block that it touches. -/
theorem Tr.write (n : Nat) : ∀ (at_ : Nat) (l : List Int) (c : Nat → List Int) (ptr : Nat → Nat) (x : Nat) (lv : Nat → Nat), Tr N D c ptr x lv → (l ≠ [] → (at_ % 512 + l.length + 511) / 512 ≤ n) → x + 4 * n ≤ N →
    ∃ c' ptr' x' lv' q, WriteR D N at_ l c (FTN N x) ptr c' (FTN N x') ptr' q ∧ Tr N D c' ptr' x' lv' ∧ x' ≤ x + 4 * n ∧ q ≤ 13 * n := by
  induction n with
  | zero =>
    intro at_ l c ptr x lv h hn hx
    have hl : l = [] := by
      by_cases e : l = []
      · exact e
      · have h1 := hn e
        have h2 : 0 < l.length := List.length_pos_iff.2 e
        omega
    subst hl
    exact ⟨c, ptr, x, lv, 0, .nil, h, by omega, by omega⟩
  | succ n ih =>
    intro at_ l c ptr x lv h hn hx
    by_cases hl : l = []
    · subst hl
      exact ⟨c, ptr, x, lv, 0, .nil, h, by omega, by omega⟩
    · have hl0 : 0 < l.length := List.length_pos_iff.2 hl
      have hdk := depF_le (at_ / 512)
      obtain ⟨m, c1, ptr1, x1, lv1, a, hm, hr, htr, hx1, ha1, ha2, ha3⟩ := Tr.reach (k := at_ / 512) (depF (at_ / 512) + 1) c ptr x lv 0 h (by omega) (by omega) (fun s hs => by omega)
      obtain ⟨m0, hm0⟩ : ∃ m0, m0 = min l.length (512 - at_ % 512) := ⟨_, rfl⟩
      have hd1 := htr.d
      obtain ⟨c', ptr', x', lv', q, hw, htr', hx', hq⟩ := ih (at_ + m0) (l.drop m0) _ ptr1 x1 lv1 (htr.lay a (layL (c1 a) (at_ % 512) (l.take m0)) ha3) (fun hne => by
        have h1 : 0 < (l.drop m0).length := List.length_pos_iff.2 hne
        have h2 := hn hl
        rw [List.length_drop] at h1 ⊢
        have h3 : m0 = 512 - at_ % 512 := by omega
        have h4 : (at_ + m0) % 512 = 0 := by omega
        rw [h4]
        omega) (by omega)
      exact ⟨c', ptr', x', lv', _, .cons hl hr ha1 (by omega) hm0 hw, htr', by omega, by omega⟩
end Go.Proofs.YtnifdbameoilnaaGreatDoor
