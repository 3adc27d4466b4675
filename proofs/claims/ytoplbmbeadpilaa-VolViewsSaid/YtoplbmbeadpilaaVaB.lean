/- What the chapter says of numbers: where what lies, block 0, a new volume. -/
import Derived.Test.YtoplbmbeadpilaaVaA
namespace Go.Proofs.Ytoplbmbeadpilaa
open Go.RowKit Go.Maps
set_option linter.unusedVariables false

def planT (b : Int) : Int := 69 + (b + 4095) / 4096
def planD (b i : Int) : Int := planT b + i / 4
def planE (b i : Int) : Int := if b < 128 ∨ 65536 < b ∨ i < 8 ∨ 4096 < i ∨ i % 4 ≠ 0 then 1 else if b < planD b i + 8 then 14 else 0
theorem planE_cases (b i : Int) : (planE b i = 1 ∧ (b < 128 ∨ 65536 < b ∨ i < 8 ∨ 4096 < i ∨ i % 4 ≠ 0)) ∨ (128 ≤ b ∧ b ≤ 65536 ∧ 8 ≤ i ∧ i ≤ 4096 ∧ i % 4 = 0 ∧ ((planE b i = 14 ∧ b < planD b i + 8) ∨ (planE b i = 0 ∧ planD b i + 8 ≤ b))) := by
  unfold planE
  split
  · exact .inl ⟨rfl, by assumption⟩
  · right
    refine ⟨by omega, by omega, by omega, by omega, by omega, ?_⟩
    split
    · exact .inl ⟨rfl, by assumption⟩
    · exact .inr ⟨rfl, by omega⟩
structure PlanOk (b i : Int) : Prop where
  b0 : 128 ≤ b
  b1 : b ≤ 65536
  i0 : 8 ≤ i
  i1 : i ≤ 4096
  i4 : i % 4 = 0
  d : planD b i + 8 ≤ b
theorem PlanOk.of {b i : Int} (h : planE b i = 0) : PlanOk b i := by
  rcases planE_cases b i with ⟨e, _⟩ | ⟨h1, h2, h3, h4, h5, ⟨e, _⟩ | ⟨_, h6⟩⟩
  · omega
  · omega
  · exact ⟨h1, h2, h3, h4, h5, h6⟩
theorem PlanOk.e {b i : Int} (h : PlanOk b i) : planE b i = 0 := by
  rcases planE_cases b i with ⟨_, h'⟩ | ⟨h1, h2, h3, h4, h5, ⟨e, h'⟩ | ⟨e, h6⟩⟩
  · have := h.b0; have := h.b1; have := h.i0; have := h.i1; have := h.i4; omega
  · have := h.d; omega
  · exact e
abbrev n64 (x : Int) : Value := .int .i64 x
def supC (b i : Int) : Array Value := #[n64 b, n64 i, n64 1, n64 2, n64 68, n64 69, n64 (planT b), n64 (planD b i)]
def sup0 : Array Value := #[n64 0, n64 0, n64 0, n64 0, n64 0, n64 0, n64 0, n64 0]
def supA (b i : Int) : Array Value := if planE b i = 0 then supC b i else sup0
theorem supA_ok {b i : Int} (h : planE b i = 0) : supA b i = supC b i := by unfold supA; rw [if_pos h]
theorem supA_no {b i : Int} (h : planE b i ≠ 0) : supA b i = sup0 := by unfold supA; rw [if_neg h]

/-! ### block 0 -/
def supW : List Int := [85, 78, 68, 67, 82, 79, 70, 49]
def supB (b i : Int) : List Int := supW ++ bytesLe 4 b ++ bytesLe 4 i
def encP (b i : Int) : List Int := pad (supB b i) 508
def encL (b i : Int) : List Int := encP b i ++ bytesLe 4 (crcL (encP b i))
theorem supW_isB : ∀ x ∈ supW, IsB x := by intro x hx; simp [supW] at hx; unfold IsB; omega
theorem app_isB {l m : List Int} (h : ∀ x ∈ l, IsB x) (h' : ∀ x ∈ m, IsB x) : ∀ x ∈ l ++ m, IsB x := fun x hx => by rcases List.mem_append.1 hx with h1 | h1; exact h x h1; exact h' x h1
theorem supB_isB (b i : Int) : ∀ x ∈ supB b i, IsB x := app_isB (app_isB supW_isB (bytesLe_isB _ _)) (bytesLe_isB _ _)
theorem supB_len (b i : Int) : (supB b i).length = 16 := by simp [supB, supW, len_le]
theorem encP_len (b i : Int) : (encP b i).length = 508 := pad_len _ _ (by rw [supB_len]; omega)
theorem encP_isB (b i : Int) : ∀ x ∈ encP b i, IsB x := pad_isB _ _ (supB_isB _ _)
theorem encL_len (b i : Int) : (encL b i).length = 512 := by unfold encL; rw [List.length_append, encP_len, len_le]
theorem encL_isB (b i : Int) : ∀ x ∈ encL b i, IsB x := app_isB (encP_isB _ _) (bytesLe_isB _ _)
def le4 (l : List Int) (k : Nat) : Int := leOf ((l.drop k).take 4)
def decE (l : List Int) : Int := if l.length ≠ 512 then 14 else if l.take 8 ≠ supW ∨ planE (le4 l 8) (le4 l 12) ≠ 0 then 15 else if le4 l 508 ≠ crcL (l.take 508) then 13 else 0
def decA (l : List Int) : Array Value := if decE l = 0 then supC (le4 l 8) (le4 l 12) else sup0

/-! ### a new volume -/
def noughts (n : Nat) : List Int := List.replicate n 0
def imB (i : Int) : Nat → Bool := fun k => decide ((k : Int) < 2) || decide (i ≤ (k : Int))
def bmB (b d : Int) (r : Nat) : Nat → Bool := fun k => decide (((r * 4096 + k : Nat) : Int) ≤ d) || decide (b ≤ ((r * 4096 + k : Nat) : Int))
def rootA : List Int := [2, 0] ++ bytesLe 2 493 ++ bytesLe 2 2 ++ bytesLe 2 0 ++ bytesLe 4 0 ++ bytesLe 4 0 ++ bytesLe 4 1 ++ bytesLe 4 0 ++ bytesLe 8 64 ++ bytesLe 8 0
def timesL (s ns : Int) : Nat → List Int
  | 0 => []
  | k + 1 => timesL s ns k ++ bytesLe 4 s ++ bytesLe 4 ns
theorem timesL_len (s ns : Int) (k : Nat) : (timesL s ns k).length = 8 * k := by
  induction k with
  | zero => rfl
  | succ k ih => simp only [timesL, List.length_append, ih, len_le]; omega
def rootB (d s ns : Int) : List Int := rootA ++ timesL s ns 3 ++ bytesLe 4 d
theorem rootA_len : rootA.length = 40 := by simp [rootA, len_le]
theorem rootB_len (d s ns : Int) : (rootB d s ns).length = 68 := by simp [rootB, rootA_len, timesL_len, len_le]
def rootL (d s ns : Int) : List Int := rootB d s ns ++ List.replicate 60 0
theorem rootL_len (d s ns : Int) : (rootL d s ns).length = 128 := by unfold rootL; rw [List.length_append, rootB_len, List.length_replicate]
def entB (l : List Int) : List Int := bytesLe 4 1 ++ [(l.length : Int)] ++ l
theorem entB_len (l : List Int) : (entB l).length = 5 + l.length := by simp [entB, len_le]; omega
def entL (l : List Int) : List Int := entB l ++ List.replicate (27 - l.length) 0
theorem entL_len (l : List Int) (h : l.length ≤ 27) : (entL l).length = 32 := by unfold entL; rw [List.length_append, entB_len, List.length_replicate]; omega
/-- The table's first block; the root's lines. -/
def nodeL (d s ns : Int) : List Int := List.replicate 128 0 ++ rootL d s ns ++ List.replicate 256 0
def linesL : List Int := entL [46] ++ entL [46, 46] ++ List.replicate 448 0
/-- The bits of the blocks: each row that has some. -/
def bmRows (b d : Int) : Nat → List Pt
  | 0 => []
  | r + 1 => bmRows b d r ++ (if (List.range 4096).any (bmB b d r) then [⟨69 + (r : Int), bitB (bmB b d r)⟩] else [])
def mkfsL (b i s ns : Int) : List Pt := [⟨0, encL b i⟩, ⟨68, bitB (imB i)⟩] ++ bmRows b (planD b i) ((b + 4095) / 4096).toNat ++ [⟨planT b, nodeL (planD b i) s ns⟩, ⟨planD b i, linesL⟩]
end Go.Proofs.Ytoplbmbeadpilaa
