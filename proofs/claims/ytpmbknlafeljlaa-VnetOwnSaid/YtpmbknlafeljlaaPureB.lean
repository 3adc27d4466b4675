/- A chain as it lies in memory is read as it was laid; the rings. In plain mathematics. -/
import Derived.Test.YtpmbknlafeljlaaDrvE
namespace Go.Proofs.Ytpmbknlafeljlaa

theorem put1_other (f : Nat → Int) (a : Nat) (b : Bf) (fl nx : Int) (p m : Nat) (h : p + m ≤ a ∨ a + 16 ≤ p) : rd (put1 f a b fl nx) p m = rd f p m := by
  unfold put1
  rw [rd_wr_other _ _ _ _ _ _ (by omega), rd_wr_other _ _ _ _ _ _ (by omega), rd_wr_other _ _ _ _ _ _ (by omega), rd_wr_other _ _ _ _ _ _ (by omega)]
theorem put1_rd (f : Nat → Int) (a : Nat) (b : Bf) (fl nx : Int) (hb : okB b) (hf : 0 ≤ fl ∧ fl < 4) (hn : 0 ≤ nx ∧ nx < 65536) :
    rd (put1 f a b fl nx) a 8 = b.addr ∧ rd (put1 f a b fl nx) (a + 8) 4 = b.len ∧ rd (put1 f a b fl nx) (a + 12) 2 = fl ∧ rd (put1 f a b fl nx) (a + 14) 2 = nx := by
  obtain ⟨h1, h2, h3, h4⟩ := hb
  unfold put1
  refine ⟨?_, ?_, ?_, ?_⟩
  · rw [rd_wr_other _ _ _ _ _ _ (by omega), rd_wr_other _ _ _ _ _ _ (by omega), rd_wr_other _ _ _ _ _ _ (by omega), rd_wr_same _ _ _ _ h1 (by omega)]
  · rw [rd_wr_other _ _ _ _ _ _ (by omega), rd_wr_other _ _ _ _ _ _ (by omega), rd_wr_same _ _ _ _ h3 (by omega)]
  · rw [rd_wr_other _ _ _ _ _ _ (by omega), rd_wr_same _ _ _ _ hf.1 (by omega)]
  · rw [rd_wr_same _ _ _ _ hn.1 (by omega)]

theorem layTo_other (f : Nat → Int) (base : Nat) (nums : List Nat) (l : List Bf) (p m : Nat) : ∀ k, (∀ j, j < k → p + m ≤ base + nums.getD j 0 * 16 ∨ base + nums.getD j 0 * 16 + 16 ≤ p) → rd (layTo f base nums l k) p m = rd f p m
  | 0, _ => rfl
  | k + 1, h => by
    rw [layTo, put1_other _ _ _ _ _ _ _ (h k (by omega))]
    exact layTo_other f base nums l p m k (fun j hj => h j (by omega))

def Chain (f : Nat → Int) (base : Nat) (nums : List Nat) (l : List Bf) : Prop := nums.length = l.length ∧ ∀ k, k < l.length →
  rd f (base + nums.getD k 0 * 16) 8 = (l.getD k default).addr ∧ rd f (base + nums.getD k 0 * 16 + 8) 4 = (l.getD k default).len ∧
  rd f (base + nums.getD k 0 * 16 + 12) 2 = flagsOf (l.getD k default).wt (decide (k + 1 < l.length)) ∧ (k + 1 < l.length → rd f (base + nums.getD k 0 * 16 + 14) 2 = (nums.getD (k + 1) 0 : Nat))

theorem flagsOf_bd (a b : Bool) : 0 ≤ flagsOf a b ∧ flagsOf a b < 4 := by cases a <;> cases b <;> decide
theorem flagN_of (a b : Bool) : flagN (flagsOf a b) = b := by cases a <;> cases b <;> decide
theorem flagW_of (a b : Bool) : flagW (flagsOf a b) = a := by cases a <;> cases b <;> decide

theorem getD_ne (l : List Nat) (h : l.Nodup) (i j : Nat) (hi : i < l.length) (hj : j < l.length) (hne : i ≠ j) : l.getD i 0 ≠ l.getD j 0 := by
  rw [show l.getD i 0 = l[i] by simp [List.getD, hi], show l.getD j 0 = l[j] by simp [List.getD, hj]]
  intro e
  exact hne ((List.getElem_inj h).1 e)

theorem layTo_chain (f : Nat → Int) (base : Nat) (nums : List Nat) (l : List Bf) (hl : nums.length = l.length) (hnd : nums.Nodup) (hok : ∀ b ∈ l, okB b) (hn : ∀ x ∈ nums, x < 65536) :
    ∀ k, k ≤ l.length → ∀ j, j < k → rd (layTo f base nums l k) (base + nums.getD j 0 * 16) 8 = (l.getD j default).addr ∧ rd (layTo f base nums l k) (base + nums.getD j 0 * 16 + 8) 4 = (l.getD j default).len ∧
      rd (layTo f base nums l k) (base + nums.getD j 0 * 16 + 12) 2 = flagsOf (l.getD j default).wt (decide (j + 1 < l.length)) ∧ (j + 1 < l.length → rd (layTo f base nums l k) (base + nums.getD j 0 * 16 + 14) 2 = (nums.getD (j + 1) 0 : Nat))
  | 0, _, j, hj => by omega
  | k + 1, hk, j, hj => by
    by_cases e : j = k
    · subst e
      have hnx : (0 : Int) ≤ (if j + 1 < l.length then ((nums.getD (j + 1) 0 : Nat) : Int) else 0) ∧ (if j + 1 < l.length then ((nums.getD (j + 1) 0 : Nat) : Int) else 0) < 65536 := by
        split
        · rename_i h
          have := hn _ (getD_mem nums 0 (j + 1) (by omega))
          omega
        · omega
      obtain ⟨h1, h2, h3, h4⟩ := put1_rd (layTo f base nums l j) (base + nums.getD j 0 * 16) (l.getD j default) (flagsOf (l.getD j default).wt (decide (j + 1 < l.length))) (if j + 1 < l.length then (nums.getD (j + 1) 0 : Nat) else 0) (hok _ (getD_mem l default j (by omega))) (flagsOf_bd _ _) hnx
      refine ⟨h1, h2, h3, fun hlt => ?_⟩
      rw [layTo, h4, if_pos hlt]
    · have hne := getD_ne nums hnd j k (by omega) (by omega) e
      obtain ⟨h1, h2, h3, h4⟩ := layTo_chain f base nums l hl hnd hok hn k (by omega) j (by omega)
      rw [layTo, put1_other _ _ _ _ _ _ _ (by omega), put1_other _ _ _ _ _ _ _ (by omega), put1_other _ _ _ _ _ _ _ (by omega), put1_other _ _ _ _ _ _ _ (by omega)]
      exact ⟨h1, h2, h3, h4⟩

theorem Chain.congr {f f' : Nat → Int} {base : Nat} {nums : List Nat} {l : List Bf} (h : Chain f base nums l) (he : ∀ k, k < nums.length → ∀ p m, base + nums.getD k 0 * 16 ≤ p → p + m ≤ base + nums.getD k 0 * 16 + 16 → rd f' p m = rd f p m) : Chain f' base nums l := by
  refine ⟨h.1, fun k hk => ?_⟩
  obtain ⟨h1, h2, h3, h4⟩ := h.2 k hk
  have hk' : k < nums.length := by rw [h.1]; exact hk
  rw [he k hk' _ 8 (by omega) (by omega), he k hk' _ 4 (by omega) (by omega), he k hk' _ 2 (by omega) (by omega), he k hk' _ 2 (by omega) (by omega)]
  exact ⟨h1, h2, h3, h4⟩

theorem take_snocB (l : List Bf) (k : Nat) (h : k < l.length) : l.take (k + 1) = l.take k ++ [l.getD k default] := by
  rw [List.take_succ_eq_append_getElem h]
  simp [List.getD, h]

/-- A chain that lies in memory is read as it was laid. -/
theorem rch_chain (f : Nat → Int) (base n : Nat) (nums : List Nat) (l : List Bf) (h : Chain f base nums l) (h0 : 0 < l.length) (hln : l.length ≤ n) (hn : ∀ x ∈ nums, x < n) (ha : ∀ b ∈ l, b.addr ≤ 4611686018427387904) :
    rch f base n (n + 1) (nums.getD 0 0) [] = some l := by
  have gen : ∀ d k, d + k + 1 = l.length → rch f base n (n + 1 - k) (nums.getD k 0) (l.take k) = some l := by
    intro d
    induction d with
    | zero =>
      intro k hk
      obtain ⟨fu, hfu⟩ : ∃ fu, n + 1 - k = fu + 1 := ⟨n - k, by omega⟩
      obtain ⟨h1, h2, h3, h4⟩ := h.2 k (by omega)
      have hlt := hn _ (getD_mem nums 0 k (by rw [h.1]; omega))
      have hb := ha _ (getD_mem l default k (by omega))
      rw [hfu, rch, if_neg (by rw [List.length_take]; omega), h1, if_neg (by omega), h3, flagN_of, decide_eq_false (by omega), h2, flagW_of]
      simp only [Bool.false_eq_true, if_false]
      have := take_snocB l k (by omega)
      rw [List.take_of_length_le (by omega)] at this
      exact congrArg some this.symm
    | succ d ih =>
      intro k hk
      obtain ⟨fu, hfu⟩ : ∃ fu, n + 1 - k = fu + 1 := ⟨n - k, by omega⟩
      obtain ⟨h1, h2, h3, h4⟩ := h.2 k (by omega)
      have hlt := hn _ (getD_mem nums 0 k (by rw [h.1]; omega))
      have hb := ha _ (getD_mem l default k (by omega))
      rw [hfu, rch, if_neg (by rw [List.length_take]; omega), h1, if_neg (by omega), h3, flagN_of, decide_eq_true (by omega), h2, flagW_of, h4 (by omega)]
      simp only [if_true, Int.toNat_natCast]
      have := ih (k + 1) (by omega)
      rw [show n + 1 - (k + 1) = fu by omega, take_snocB l k (by omega)] at this
      exact this
  have := gen (l.length - 1) 0 (by omega)
  simpa using this
end Go.Proofs.Ytpmbknlafeljlaa
