/-
  What numbers of bytes are, in plain mathematics: a row of bytes read as a number, the lowest byte first, the highest first; when a reading is refused. No condition.
-/
namespace Go.Proofs.YtkmljnjikkmdhaaDoor

/-- A row of bytes as a number, the lowest byte first. -/
def leOf : List Int → Int
  | [] => 0
  | x :: l => x + 256 * leOf l
/-- The highest byte first, onto what there is. -/
def beOn (v : Int) : List Int → Int
  | [] => v
  | x :: l => beOn (v * 256 + x) l
def beOf (l : List Int) : Int := beOn 0 l

def widB (n : Int) : Bool := n == 1 || n == 2 || n == 4 || n == 8
theorem widB_cases {n : Int} (h : widB n = true) : n = 1 ∨ n = 2 ∨ n = 4 ∨ n = 8 := by
  simp [widB] at h; omega
def insB (len : Int) (at_ n : Int) : Bool := decide (0 ≤ at_) && decide (at_ + n ≤ len)
/-- What a reading answers beside the number. -/
def rdErr (len : Nat) (at_ n : Int) : Int := if widB n then (if insB len at_ n then 0 else 11) else 1
def cutOf (l : List Int) (at_ n : Int) : List Int := (l.drop at_.toNat).take n.toNat
def rdLe (l : List Int) (at_ n : Int) : Int := if widB n && insB l.length at_ n then leOf (cutOf l at_ n) else 0
def rdBe (l : List Int) (at_ n : Int) : Int := if widB n && insB l.length at_ n then beOf (cutOf l at_ n) else 0

def IsB (x : Int) : Prop := 0 ≤ x ∧ x < 256
theorem beOn_append (v : Int) (l : List Int) (x : Int) : beOn v (l ++ [x]) = beOn v l * 256 + x := by
  induction l generalizing v with
  | nil => rfl
  | cons y l ih => simp [beOn, ih]
theorem beOn_bd (v : Int) (l : List Int) (k : Nat) (h0 : 0 ≤ v) (h1 : v < 256 ^ k) (hl : ∀ x ∈ l, IsB x) : 0 ≤ beOn v l ∧ beOn v l < 256 ^ (k + l.length) := by
  induction l generalizing v k with
  | nil => exact ⟨h0, by simpa [beOn] using h1⟩
  | cons x l ih =>
    have hx := hl x (by simp)
    unfold IsB at hx
    have h2 : v * 256 + x < 256 ^ (k + 1) := by rw [Int.pow_succ]; omega
    have := ih (v * 256 + x) (k + 1) (by omega) h2 (fun y hy => hl y (by simp [hy]))
    simp only [beOn, List.length_cons]
    rw [show k + (l.length + 1) = k + 1 + l.length by omega]
    exact this
theorem beOf_bd (l : List Int) (hl : ∀ x ∈ l, IsB x) : 0 ≤ beOf l ∧ beOf l < 256 ^ l.length := by
  have := beOn_bd 0 l 0 (by omega) (by simp) hl
  simpa [beOf] using this
theorem take_snoc (l : List Int) (k : Nat) (h : k < l.length) : l.take (k + 1) = l.take k ++ [l.getD k 0] := by
  rw [List.take_succ_eq_append_getElem h]; simp [List.getD, h]
theorem beOf_snoc (l : List Int) (k : Nat) (h : k < l.length) : beOf (l.take (k + 1)) = beOf (l.take k) * 256 + l.getD k 0 := by
  rw [take_snoc l k h]; exact beOn_append _ _ _
theorem mem_getD (l : List Int) (P : Int → Prop) (h : ∀ x ∈ l, P x) (k : Nat) (hk : k < l.length) : P (l.getD k 0) := by
  have : l.getD k 0 = l[k] := by simp [List.getD, hk]
  rw [this]; exact h _ (List.getElem_mem hk)
/-- The one order is the other turned about: 'beOf' of a row of at most n bytes, its lowest byte taken off again and again. -/
def turnAbout (v u : Int) : Nat → Int
  | 0 => u
  | n + 1 => turnAbout (v / 256) (u * 256 + v % 256) n
theorem turnAbout_snoc (v u : Int) (n : Nat) : turnAbout v u (n + 1) = turnAbout v u n * 256 + v / 256 ^ n % 256 := by
  induction n generalizing v u with
  | zero => simp [turnAbout]
  | succ n ih =>
    rw [turnAbout, ih]
    rw [turnAbout]
    congr 2
    rw [Int.ediv_ediv_of_nonneg (by decide)]
    rw [Int.pow_succ, Int.mul_comm]
theorem leOf_append (l : List Int) (x : Int) : leOf (l ++ [x]) = leOf l + 256 ^ l.length * x := by
  induction l with
  | nil => simp [leOf]
  | cons y l ih =>
    simp only [List.cons_append, leOf, ih, List.length_cons, Int.pow_succ]
    rw [Int.mul_add, ← Int.mul_assoc, Int.add_assoc, Int.mul_comm 256 (256 ^ l.length)]
theorem turnAbout_be (l : List Int) (hl : ∀ x ∈ l, IsB x) (u : Int) : turnAbout (beOf l) u l.length = u * 256 ^ l.length + leOf l := by
  obtain ⟨n, hn⟩ : ∃ n, l.length = n := ⟨_, rfl⟩
  induction n generalizing l u with
  | zero => obtain rfl := List.eq_nil_of_length_eq_zero hn; simp [turnAbout, leOf]
  | succ n ih =>
    have hne : l ≠ [] := by intro e; simp [e] at hn
    obtain ⟨m, x, rfl⟩ : ∃ m x, l = m ++ [x] := ⟨l.dropLast, l.getLast hne, (List.dropLast_concat_getLast hne).symm⟩
    have hm : m.length = n := by simpa using hn
    have hx := hl x (by simp)
    unfold IsB at hx
    have hb : beOf (m ++ [x]) = beOf m * 256 + x := beOn_append _ _ _
    have e1 : (beOf m * 256 + x) / 256 = beOf m := by omega
    have e2 : (beOf m * 256 + x) % 256 = x := by omega
    rw [hn, turnAbout, hb, e1, e2, ← hm, ih m (fun y hy => hl y (by simp [hy])) _ hm, leOf_append, hm, Int.pow_succ, Int.add_mul, Int.mul_assoc, Int.mul_comm 256 (256 ^ n), Int.mul_comm x]
    omega
end Go.Proofs.YtkmljnjikkmdhaaDoor
