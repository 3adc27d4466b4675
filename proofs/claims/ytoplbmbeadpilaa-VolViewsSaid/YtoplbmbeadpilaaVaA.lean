/- Rows of bits: a block of 512 bytes as 4096 answers yes or no. -/
import Derived.Test.YtoplbmbeadpilaaVwA
namespace Go.Proofs.Ytoplbmbeadpilaa
open Go.RowKit Go.Maps
set_option linter.unusedVariables false

def b2 (b : Bool) : Int := if b then 1 else 0
def eight (c0 c1 c2 c3 c4 c5 c6 c7 : Bool) : Int := b2 c0 + 2 * b2 c1 + 4 * b2 c2 + 8 * b2 c3 + 16 * b2 c4 + 32 * b2 c5 + 64 * b2 c6 + 128 * b2 c7
def by8 (f : Nat → Bool) (k : Nat) : Int := eight (f (8 * k)) (f (8 * k + 1)) (f (8 * k + 2)) (f (8 * k + 3)) (f (8 * k + 4)) (f (8 * k + 5)) (f (8 * k + 6)) (f (8 * k + 7))
/-- A block of bits. -/
def bitB (f : Nat → Bool) : List Int := (List.range 512).map (by8 f)
theorem bitB_len (f : Nat → Bool) : (bitB f).length = 512 := by simp [bitB]
theorem bitB_get (f : Nat → Bool) {k : Nat} (h : k < 512) : (bitB f).getD k 0 = by8 f k := by simp [bitB, List.getD, h]
theorem eight_bd (c0 c1 c2 c3 c4 c5 c6 c7 : Bool) : 0 ≤ eight c0 c1 c2 c3 c4 c5 c6 c7 ∧ eight c0 c1 c2 c3 c4 c5 c6 c7 < 256 := by
  cases c0 <;> cases c1 <;> cases c2 <;> cases c3 <;> cases c4 <;> cases c5 <;> cases c6 <;> cases c7 <;> decide
theorem by8_bd (f : Nat → Bool) (k : Nat) : 0 ≤ by8 f k ∧ by8 f k < 256 := eight_bd _ _ _ _ _ _ _ _
theorem bitB_isB (f : Nat → Bool) : ∀ x ∈ bitB f, IsB x := by
  intro x hx
  obtain ⟨k, _, rfl⟩ := List.mem_map.1 hx
  exact by8_bd f k
theorem eight_cases (P : Bool → Bool → Bool → Bool → Bool → Bool → Bool → Bool → Prop) (h : ∀ c0 c1 c2 c3 c4 c5 c6 c7, P c0 c1 c2 c3 c4 c5 c6 c7) (f : Nat → Bool) (k : Nat) : P (f (8 * k)) (f (8 * k + 1)) (f (8 * k + 2)) (f (8 * k + 3)) (f (8 * k + 4)) (f (8 * k + 5)) (f (8 * k + 6)) (f (8 * k + 7)) := h _ _ _ _ _ _ _ _
theorem fin8 {j : Nat} (h : j < 8) : j = 0 ∨ j = 1 ∨ j = 2 ∨ j = 3 ∨ j = 4 ∨ j = 5 ∨ j = 6 ∨ j = 7 := by omega

theorem or_eight : ∀ c0 c1 c2 c3 c4 c5 c6 c7 : Bool,
    bits .or .u8 (eight c0 c1 c2 c3 c4 c5 c6 c7) 1 = eight true c1 c2 c3 c4 c5 c6 c7 ∧ bits .or .u8 (eight c0 c1 c2 c3 c4 c5 c6 c7) 2 = eight c0 true c2 c3 c4 c5 c6 c7 ∧
    bits .or .u8 (eight c0 c1 c2 c3 c4 c5 c6 c7) 4 = eight c0 c1 true c3 c4 c5 c6 c7 ∧ bits .or .u8 (eight c0 c1 c2 c3 c4 c5 c6 c7) 8 = eight c0 c1 c2 true c4 c5 c6 c7 ∧
    bits .or .u8 (eight c0 c1 c2 c3 c4 c5 c6 c7) 16 = eight c0 c1 c2 c3 true c5 c6 c7 ∧ bits .or .u8 (eight c0 c1 c2 c3 c4 c5 c6 c7) 32 = eight c0 c1 c2 c3 c4 true c6 c7 ∧
    bits .or .u8 (eight c0 c1 c2 c3 c4 c5 c6 c7) 64 = eight c0 c1 c2 c3 c4 c5 true c7 ∧ bits .or .u8 (eight c0 c1 c2 c3 c4 c5 c6 c7) 128 = eight c0 c1 c2 c3 c4 c5 c6 true := by decide +kernel
theorem xor_eight : ∀ c0 c1 c2 c3 c4 c5 c6 c7 : Bool,
    bits .xor .u8 (eight c0 c1 c2 c3 c4 c5 c6 c7) 1 = eight (!c0) c1 c2 c3 c4 c5 c6 c7 ∧ bits .xor .u8 (eight c0 c1 c2 c3 c4 c5 c6 c7) 2 = eight c0 (!c1) c2 c3 c4 c5 c6 c7 ∧
    bits .xor .u8 (eight c0 c1 c2 c3 c4 c5 c6 c7) 4 = eight c0 c1 (!c2) c3 c4 c5 c6 c7 ∧ bits .xor .u8 (eight c0 c1 c2 c3 c4 c5 c6 c7) 8 = eight c0 c1 c2 (!c3) c4 c5 c6 c7 ∧
    bits .xor .u8 (eight c0 c1 c2 c3 c4 c5 c6 c7) 16 = eight c0 c1 c2 c3 (!c4) c5 c6 c7 ∧ bits .xor .u8 (eight c0 c1 c2 c3 c4 c5 c6 c7) 32 = eight c0 c1 c2 c3 c4 (!c5) c6 c7 ∧
    bits .xor .u8 (eight c0 c1 c2 c3 c4 c5 c6 c7) 64 = eight c0 c1 c2 c3 c4 c5 (!c6) c7 ∧ bits .xor .u8 (eight c0 c1 c2 c3 c4 c5 c6 c7) 128 = eight c0 c1 c2 c3 c4 c5 c6 (!c7) := by decide +kernel
theorem div_eight : ∀ c0 c1 c2 c3 c4 c5 c6 c7 : Bool,
    (eight c0 c1 c2 c3 c4 c5 c6 c7 / 1 % 2 = b2 c0 ∧ eight c0 c1 c2 c3 c4 c5 c6 c7 / 2 % 2 = b2 c1 ∧ eight c0 c1 c2 c3 c4 c5 c6 c7 / 4 % 2 = b2 c2 ∧ eight c0 c1 c2 c3 c4 c5 c6 c7 / 8 % 2 = b2 c3 ∧
    eight c0 c1 c2 c3 c4 c5 c6 c7 / 16 % 2 = b2 c4 ∧ eight c0 c1 c2 c3 c4 c5 c6 c7 / 32 % 2 = b2 c5 ∧ eight c0 c1 c2 c3 c4 c5 c6 c7 / 64 % 2 = b2 c6 ∧ eight c0 c1 c2 c3 c4 c5 c6 c7 / 128 % 2 = b2 c7) ∧
    (eight c0 c1 c2 c3 c4 c5 c6 c7 = 255 ↔ (c0 && c1 && c2 && c3 && c4 && c5 && c6 && c7) = true) := by decide +kernel
theorem and1_u8 : ∀ x : Fin 256, bits .and .u8 (x.val : Int) 1 = (x.val : Int) % 2 := by decide +kernel
/-- A bit is set. -/
theorem by8_or (f : Nat → Bool) (k j : Nat) (h : j < 8) : bits .or .u8 (by8 f k) (2 ^ j) = by8 (fun i => f i || decide (i = 8 * k + j)) k := by
  have e : ∀ a b : Nat, decide (8 * k + a = 8 * k + b) = decide (a = b) := fun a b => by simp
  have e0 : ∀ b : Nat, decide (8 * k = 8 * k + b) = decide (b = 0) := fun b => by simp
  have z := eight_cases _ or_eight f k
  obtain ⟨z0, z1, z2, z3, z4, z5, z6, z7⟩ := z
  rcases fin8 h with rfl | rfl | rfl | rfl | rfl | rfl | rfl | rfl
  · simpa [by8, e, e0] using z0
  · simpa [by8, e, e0] using z1
  · simpa [by8, e, e0] using z2
  · simpa [by8, e, e0] using z3
  · simpa [by8, e, e0] using z4
  · simpa [by8, e, e0] using z5
  · simpa [by8, e, e0] using z6
  · simpa [by8, e, e0] using z7
def flip1 (f : Nat → Bool) (i : Nat) : Nat → Bool := fun j => if j = i then !f j else f j
/-- A bit is turned. -/
theorem by8_xor (f : Nat → Bool) (k j : Nat) (h : j < 8) : bits .xor .u8 (by8 f k) (2 ^ j) = by8 (flip1 f (8 * k + j)) k := by
  have z := eight_cases _ xor_eight f k
  obtain ⟨z0, z1, z2, z3, z4, z5, z6, z7⟩ := z
  rcases fin8 h with rfl | rfl | rfl | rfl | rfl | rfl | rfl | rfl
  · simpa [by8, flip1] using z0
  · simpa [by8, flip1] using z1
  · simpa [by8, flip1] using z2
  · simpa [by8, flip1] using z3
  · simpa [by8, flip1] using z4
  · simpa [by8, flip1] using z5
  · simpa [by8, flip1] using z6
  · simpa [by8, flip1] using z7
/-- A bit is asked. -/
theorem by8_at (f : Nat → Bool) (k j : Nat) (h : j < 8) : by8 f k / 2 ^ j % 2 = b2 (f (8 * k + j)) := by
  have z := (eight_cases _ div_eight f k).1
  obtain ⟨z0, z1, z2, z3, z4, z5, z6, z7⟩ := z
  rcases fin8 h with rfl | rfl | rfl | rfl | rfl | rfl | rfl | rfl
  · simpa [by8] using z0
  · simpa [by8] using z1
  · simpa [by8] using z2
  · simpa [by8] using z3
  · simpa [by8] using z4
  · simpa [by8] using z5
  · simpa [by8] using z6
  · simpa [by8] using z7
theorem by8_full (f : Nat → Bool) (k : Nat) : by8 f k = 255 ↔ ∀ j, j < 8 → f (8 * k + j) = true := by
  have z := (eight_cases _ div_eight f k).2
  refine z.trans ?_
  simp only [Bool.and_eq_true]
  constructor
  · rintro ⟨⟨⟨⟨⟨⟨⟨h0, h1⟩, h2⟩, h3⟩, h4⟩, h5⟩, h6⟩, h7⟩ j hj
    rcases fin8 hj with rfl | rfl | rfl | rfl | rfl | rfl | rfl | rfl <;> assumption
  · intro h
    exact ⟨⟨⟨⟨⟨⟨⟨h 0 (by omega), h 1 (by omega)⟩, h 2 (by omega)⟩, h 3 (by omega)⟩, h 4 (by omega)⟩, h 5 (by omega)⟩, h 6 (by omega)⟩, h 7 (by omega)⟩
theorem by8_other {f g : Nat → Bool} {k : Nat} (h : ∀ j, j < 8 → f (8 * k + j) = g (8 * k + j)) : by8 f k = by8 g k := by
  have h0 := h 0 (by omega)
  rw [Nat.add_zero] at h0
  simp only [by8, h0, h 1 (by omega), h 2 (by omega), h 3 (by omega), h 4 (by omega), h 5 (by omega), h 6 (by omega), h 7 (by omega)]
theorem bitB_congr {f g : Nat → Bool} (h : ∀ i, i < 4096 → f i = g i) : bitB f = bitB g := by
  unfold bitB
  refine List.map_congr_left fun k hk => by8_other fun j hj => h _ ?_
  have := List.mem_range.1 hk
  omega
theorem bitB_set_gen (f g : Nat → Bool) (i : Nat) (hi : i < 4096) (x : Int) (hx : x = by8 g (i / 8)) (ho : ∀ j, j ≠ i → g j = f j) : (bitB f).set (i / 8) x = bitB g := by
  refine List.ext_getElem (by simp [bitB_len]) fun n h1 h2 => ?_
  simp only [List.length_set, bitB_len] at h1 h2
  rw [List.getElem_set]
  by_cases e : i / 8 = n
  · subst e
    simp [bitB, hx]
  · rw [if_neg e]
    simp only [bitB, List.getElem_map, List.getElem_range]
    exact by8_other fun j hj => (ho _ (by omega)).symm
theorem bitB_or (f : Nat → Bool) (i : Nat) (hi : i < 4096) : (bitB f).set (i / 8) (bits .or .u8 (by8 f (i / 8)) (2 ^ (i % 8))) = bitB (fun j => f j || decide (j = i)) := by
  refine bitB_set_gen _ _ i hi _ ?_ (fun j hj => by simp [hj])
  rw [by8_or f (i / 8) (i % 8) (Nat.mod_lt _ (by decide)), Nat.div_add_mod]
theorem bitB_flip (f : Nat → Bool) (i : Nat) (hi : i < 4096) : (bitB f).set (i / 8) (bits .xor .u8 (by8 f (i / 8)) (2 ^ (i % 8))) = bitB (flip1 f i) := by
  refine bitB_set_gen _ _ i hi _ ?_ (fun j hj => by simp [flip1, hj])
  rw [by8_xor f (i / 8) (i % 8) (Nat.mod_lt _ (by decide)), Nat.div_add_mod]
theorem bitB_at (f : Nat → Bool) (i : Nat) : by8 f (i / 8) / 2 ^ (i % 8) % 2 = b2 (f i) := by
  rw [by8_at f (i / 8) (i % 8) (Nat.mod_lt _ (by decide)), Nat.div_add_mod]
theorem bitB_none : bitB (fun _ => false) = List.replicate 512 0 := by
  refine List.ext_getElem (by rw [bitB_len, List.length_replicate]) fun n h1 h2 => ?_
  rw [List.getElem_replicate]
  simp only [bitB, List.getElem_map]
  rfl
end Go.Proofs.Ytoplbmbeadpilaa
