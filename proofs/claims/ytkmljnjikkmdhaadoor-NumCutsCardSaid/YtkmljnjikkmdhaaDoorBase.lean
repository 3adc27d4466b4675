import Derived.Test.YtkmljnjikkmdhaaDoorRows
import Derived.Test.YtkmljnjikkmdhaaDoorPlain
import Derived.WalkKit
import Derived.WalkSpells
import Derived.WalkLawsBesides
import Derived.Deep.QuietTactic
import Derived.BigQuiet
namespace Go.Proofs.YtkmljnjikkmdhaaDoor
open Go.RowKit

theorem ret_int {k : IntKind} {a b : Int} (h : a = b) : Ending.returned (.int k a) = .returned (.int k b) := by rw [h]
theorem ret_bool {a b : Bool} (h : a = b) : Ending.returned (.bool a) = .returned (.bool b) := by rw [h]
theorem ret_int2 {k k' : IntKind} {a b c d : Int} (h : a = b) (h' : c = d) : Ending.returned (.tuple #[.int k a, .int k' c]) = .returned (.tuple #[.int k b, .int k' d]) := by rw [h, h']

/-- A row of bytes in memory: what a slice of 'l.length' bytes with address 'a' holds. -/
def Bytes (w : World) (a : Option Addr) (l : List Int) : Prop :=
  ∀ i, i < l.length → ∃ b off, a = some ⟨b, off, none⟩ ∧ w.cell? ⟨b, off + i, none⟩ = some (.int .u8 (l.getD i 0)) ∧ IsB (l.getD i 0)

theorem Bytes.open_ {w : World} {a : Option Addr} {l : List Int} (h : Bytes w a l) (hp : 0 < l.length) :
    ∃ b off, a = some ⟨b, off, none⟩ ∧ ∀ i, i < l.length → w.cell? ⟨b, off + i, none⟩ = some (.int .u8 (l.getD i 0)) := by
  obtain ⟨b, off, ha, _, _⟩ := h 0 hp
  refine ⟨b, off, ha, fun i hi => ?_⟩
  obtain ⟨b', off', ha', hc, _⟩ := h i hi
  rw [ha] at ha'
  simp at ha'
  obtain ⟨rfl, rfl⟩ := ha'
  exact hc
theorem Bytes.isB {w : World} {a : Option Addr} {l : List Int} (h : Bytes w a l) : ∀ x ∈ l, IsB x := by
  intro x hx
  obtain ⟨i, hi, rfl⟩ := List.getElem_of_mem hx
  obtain ⟨_, _, _, _, hb⟩ := h i hi
  simpa [List.getD, hi] using hb
theorem Bytes.mk_ {w : World} {b off : Nat} {l : List Int} (hl : ∀ x ∈ l, IsB x) (h : ∀ i, i < l.length → w.cell? ⟨b, off + i, none⟩ = some (.int .u8 (l.getD i 0))) : Bytes w (some ⟨b, off, none⟩) l :=
  fun i hi => ⟨b, off, rfl, h i hi, mem_getD l IsB hl i hi⟩
theorem Bytes.later {w w' : World} {a : Option Addr} {l : List Int} (h : Bytes w a l) (hb : Below w.heap.size w w') : Bytes w' a l := by
  intro i hi
  obtain ⟨b, off, ha, hc, hx⟩ := h i hi
  exact ⟨b, off, ha, cell_later hb hc, hx⟩
theorem Bytes.drewN {w : World} {a : Option Addr} {l : List Int} (h : Bytes w a l) (n : Nat) : Bytes (w.drewN n) a l := h
theorem getD_cut (l : List Int) (k n i : Nat) (hi : i < n) : ((l.drop k).take n).getD i 0 = l.getD (k + i) 0 := by
  simp [List.getD, hi]
theorem Bytes.cut {w : World} {b off : Nat} {l : List Int} (h : Bytes w (some ⟨b, off, none⟩) l) (k n : Nat) : Bytes w (some ⟨b, off + k, none⟩) ((l.drop k).take n) := by
  intro i hi
  simp at hi
  obtain ⟨b', off', ha, hc, hx⟩ := h (k + i) (by omega)
  simp at ha
  obtain ⟨rfl, rfl⟩ := ha
  rw [getD_cut l k n i (by omega)]
  exact ⟨b, off + k, rfl, by rw [Nat.add_assoc]; exact hc, hx⟩
theorem Bytes.take {w : World} {a : Option Addr} {l : List Int} (h : Bytes w a l) (n : Nat) : Bytes w a (l.take n) := by
  intro i hi
  simp at hi
  obtain ⟨b, off, ha, hc, hx⟩ := h i (by omega)
  have e : (l.take n).getD i 0 = l.getD i 0 := by
    have h1 : i < n := by omega
    have h2 : i < l.length := by omega
    simp [List.getD, h1, h2]
  rw [e]
  exact ⟨b, off, ha, hc, hx⟩
theorem Bytes.nil_ (w : World) (a : Option Addr) : Bytes w a [] := fun i hi => by simp at hi

theorem or_u64 (i : Nat) (x y : Int) (hi : i ≤ 64) (hx0 : 0 ≤ x) (hx : x % 2 ^ i = 0) (hx1 : x < 2 ^ 64) (hy0 : 0 ≤ y) (hy : y < 2 ^ i) : bits .or .u64 x y = x + y :=
  bits_join .u64 64 (by decide) (fun n h0 h1 => by rw [IntKind.wrap_u64]; omega) i x y hx0 hx hx1 hy0 hy (by
    have h2 : (2 : Int) ^ i ≤ 2 ^ 64 := by exact_mod_cast Nat.pow_le_pow_right (by decide) hi
    exact Int.lt_of_lt_of_le hy h2)
theorem or_zero_u64 (y : Int) (hy0 : 0 ≤ y) (hy : y < 18446744073709551616) : bits .or .u64 0 y = y := by
  have := or_u64 64 0 y (by decide) (by decide) (by decide) (by decide) hy0 hy
  simpa using this
end Go.Proofs.YtkmljnjikkmdhaaDoor
