/- What is read of eight bytes and data; sums of bytes that differ by a bit. -/
import Derived.Test.YtbhdbgippbopfaaUbB
import Derived.Test.YtbhdbgippbopfaaPdB
namespace Go.Proofs.Ytbhdbgippbopfaa
open Go.RowKit Go.Maps
set_option linter.unusedVariables false
section
variable (x0 x1 x2 x3 x4 x5 x6 x7 : Int) (l more : List Int) (n : Nat)
theorem rd8 (s d : Int) (hn : l.length = n) (h45 : x4 * 256 + x5 = 8 + n) :
    exE ([x0, x1, x2, x3, x4, x5, x6, x7] ++ (l ++ more)) = 0 ∧ toN ([x0, x1, x2, x3, x4, x5, x6, x7] ++ (l ++ more)) = x6 * 256 + x7 ∧ suN s d ([x0, x1, x2, x3, x4, x5, x6, x7] ++ (l ++ more)) = udS s d ([x0, x1, x2, x3, x4, x5] ++ l) ∧ daN ([x0, x1, x2, x3, x4, x5, x6, x7] ++ (l ++ more)) = l ∧
    beOf ((([x0, x1, x2, x3, x4, x5, x6, x7] ++ (l ++ more)).drop 0).take 2) = x0 * 256 + x1 ∧ beOf ((([x0, x1, x2, x3, x4, x5, x6, x7] ++ (l ++ more)).drop 2).take 2) = x2 * 256 + x3 := by
  have hle : leN ([x0, x1, x2, x3, x4, x5, x6, x7] ++ (l ++ more)) = 8 + n := by
    rw [← h45]; unfold leN; simp [beOf, beOn]
  have hda : daN ([x0, x1, x2, x3, x4, x5, x6, x7] ++ (l ++ more)) = l := by
    unfold daN
    rw [hle]
    show (l ++ more).take ((8 + (n : Int)).toNat - 8) = l
    rw [show (8 + (n : Int)).toNat - 8 = n by omega, ← hn, List.take_left]
  have hlen : ([x0, x1, x2, x3, x4, x5, x6, x7] ++ (l ++ more)).length = 8 + n + more.length := by simp [hn]; omega
  refine ⟨?_, ?_, ?_, hda, ?_, ?_⟩
  · unfold exE; rw [hlen, hle, if_neg (by omega), if_neg (by omega), if_neg (by omega)]
  · unfold toN; simp [beOf, beOn]
  · unfold suN; rw [hda]; rfl
  · simp [beOf, beOn]
  · simp [beOf, beOn]
theorem cut8 (hn : l.length = n) (h45 : x4 * 256 + x5 = 8 + n) (k : Nat) (hk : k < 8 + n) : exE (([x0, x1, x2, x3, x4, x5, x6, x7] ++ l).take k) = 11 := by
  have hlen : (([x0, x1, x2, x3, x4, x5, x6, x7] ++ l).take k).length = k := by simp [hn]; omega
  unfold exE
  rw [hlen]
  by_cases h8 : k < 8
  · rw [if_pos h8]
  · have hle : leN (([x0, x1, x2, x3, x4, x5, x6, x7] ++ l).take k) = 8 + n := by
      unfold leN
      rw [List.drop_take, List.take_take, show min 2 (k - 4) = 2 by omega, ← h45]
      simp [beOf, beOn]
    rw [hle, if_neg h8, if_neg (by omega), if_pos (by omega)]
end
/-- The sum as it is told, of a number. -/
def uS (T : Int) : Int := if 65535 - inetFold T = 0 then 65535 else 65535 - inetFold T
theorem uS_ne (T p : Int) (j : Nat) (hj : j < 16) (h0 : 0 < T) (hp : p = 2 ^ j ∨ p = -(2 ^ j)) (h1 : 0 < T + p) : uS (T + p) ≠ uS T := by
  have hq : ∃ q : Int, (2 : Int) ^ j = q ∧ 1 ≤ q ∧ q ≤ 32768 := by
    rcases (show j = 0 ∨ j = 1 ∨ j = 2 ∨ j = 3 ∨ j = 4 ∨ j = 5 ∨ j = 6 ∨ j = 7 ∨ j = 8 ∨ j = 9 ∨ j = 10 ∨ j = 11 ∨ j = 12 ∨ j = 13 ∨ j = 14 ∨ j = 15 by omega) with rfl | rfl | rfl | rfl | rfl | rfl | rfl | rfl | rfl | rfl | rfl | rfl | rfl | rfl | rfl | rfl <;> exact ⟨_, rfl, by decide, by decide⟩
  obtain ⟨q, hq, h2, h3⟩ := hq
  rw [hq] at hp
  unfold uS inetFold
  rw [if_neg (show ¬ T + p = 0 by omega), if_neg (show ¬ T = 0 by omega)]
  split <;> split <;> omega
theorem phL_list (s d n : Int) : phL s d n = [s / 16777216 % 256, s / 65536 % 256, s / 256 % 256, s % 256, d / 16777216 % 256, d / 65536 % 256, d / 256 % 256, d % 256, 0, 17, n / 256 % 256, n % 256] := by
  unfold phL
  simp [outBe, bytesBe, List.range, List.range.loop]
theorem ud_uS (s d : Int) (l : List Int) : udS s d l = uS (wsum 0 (phL s d (2 + (l.length : Int)) ++ l)) := rfl
theorem ph_pos (s d n : Int) (l : List Int) (h : ∀ x ∈ l, IsB x) : 0 < wsum 0 (phL s d n ++ l) := by
  rw [wsum_append]
  have h1 := (wsum_bd (0 + (phL s d n).length) l h).1
  have h2 : 17 ≤ wsum 0 (phL s d n) := by
    rw [phL_list]
    simp only [wsum]
    simp
    omega
  omega
/-- Of another sender the sum is another one. -/
theorem ud_other (s s' d : Int) (l : List Int) (h : ∀ x ∈ l, IsB x) (hs : IsU s) (hs' : s' = s + 1 ∧ s % 2 = 0 ∨ s' = s - 1 ∧ s % 2 = 1) : udS s' d l ≠ udS s d l := by
  rw [ud_uS, ud_uS]
  have p1 := ph_pos s d (2 + (l.length : Int)) l h
  have p2 := ph_pos s' d (2 + (l.length : Int)) l h
  have e : wsum 0 (phL s' d (2 + (l.length : Int)) ++ l) = wsum 0 (phL s d (2 + (l.length : Int)) ++ l) + (s' - s) := by
    rw [wsum_append, wsum_append, phL_len, phL_len, phL_list, phL_list]
    generalize wsum (0 + 12) l = T
    unfold IsU at hs
    simp only [wsum]
    simp
    omega
  rw [e] at p2 ⊢
  exact uS_ne _ _ 0 (by omega) p1 (by simp; omega) p2
/-- One bit that is turned makes another sum. -/
theorem ud_turned (s d : Int) (X : List Int) (k b : Nat) (y : Int) (hk : k < X.length) (hX : ∀ x ∈ X, IsB x) (hb : b < 8) (hy : IsB y) (hyx : y = X.getD k 0 + 2 ^ b ∨ y = X.getD k 0 - 2 ^ b) : udS s d (X.set k y) ≠ udS s d X := by
  rw [ud_uS, ud_uS, List.length_set]
  have hset : ∀ x ∈ X.set k y, IsB x := isB_set hX k hy
  have p1 := ph_pos s d (2 + (X.length : Int)) X hX
  have p2 := ph_pos s d (2 + (X.length : Int)) (X.set k y) hset
  obtain ⟨e1, e2⟩ := set_split X k y hk
  have hT := wsum_turn (phL s d (2 + (X.length : Int)) ++ X.take k) (X.drop (k + 1)) (X.getD k 0) y
  rw [List.append_assoc, List.append_assoc, ← e1, ← e2] at hT
  have hl : (phL s d (2 + (X.length : Int)) ++ X.take k).length = 12 + k := by rw [List.length_append, phL_len, List.length_take]; omega
  rw [hl] at hT
  by_cases hp : (12 + k) % 2 = 0
  · rw [if_pos hp] at hT
    rw [hT] at p2 ⊢
    have e3 : (y - X.getD k 0) * 256 = 2 ^ (b + 8) ∨ (y - X.getD k 0) * 256 = -(2 ^ (b + 8)) := by rw [Int.pow_add]; omega
    exact uS_ne _ _ (b + 8) (by omega) p1 e3 p2
  · rw [if_neg hp] at hT
    rw [hT] at p2 ⊢
    have e3 : (y - X.getD k 0) * 1 = 2 ^ b ∨ (y - X.getD k 0) * 1 = -(2 ^ b) := by omega
    exact uS_ne _ _ b (by omega) p1 e3 p2
theorem h6L_list (f t : Int) (n : Nat) : h6L f t n = [f / 256 % 256, f % 256, t / 256 % 256, t % 256, (8 + (n : Int)) / 256 % 256, (8 + (n : Int)) % 256] := by
  unfold h6L; simp [outBe, bytesBe, List.range, List.range.loop]
theorem dgL_list (s d f t : Int) (l : List Int) : dgL s d f t l = [f / 256 % 256, f % 256, t / 256 % 256, t % 256, (8 + (l.length : Int)) / 256 % 256, (8 + (l.length : Int)) % 256, wrS s d f t l / 256 % 256, wrS s d f t l % 256] ++ l := by
  unfold dgL; rw [outBe_uno, be2, h6L_list]; rfl
theorem prE_of {s d : Int} {M : List Int} (h : exE M = 0) : prE s d M = if ¬ toN M = 0 ∧ ¬ toN M = suN s d M then 13 else 0 := by unfold prE; rw [if_neg (not_not_intro h)]
section
variable (s d f t : Int) (l more : List Int) (n : Nat) (hl : ∀ x ∈ l, IsB x) (hn : l.length = n) (hn2 : n ≤ 65507) (hr : wrOk f t)
theorem wr_sum (hl : ∀ x ∈ l, IsB x) : 1 ≤ wrS s d f t l ∧ wrS s d f t l ≤ 65535 := udS_bd s d _ (h6_isB f t l hl)
/-- What was written is read as it. -/
theorem dg_read (hl : ∀ x ∈ l, IsB x) (hn : l.length = n) (hn2 : n ≤ 65507) (hr : wrOk f t) : prE s d (dgL s d f t l ++ more) = 0 ∧ prF s d (dgL s d f t l ++ more) = f ∧ prT s d (dgL s d f t l ++ more) = t ∧ prD s d (dgL s d f t l ++ more) = l := by
  obtain ⟨hS0, hS1⟩ := wr_sum s d f t l hl
  obtain ⟨⟨f0, f1⟩, t0, t1⟩ := hr
  obtain ⟨q1, q2, q3, q4, q5, q6⟩ := rd8 (f / 256 % 256) (f % 256) (t / 256 % 256) (t % 256) ((8 + (l.length : Int)) / 256 % 256) ((8 + (l.length : Int)) % 256) (wrS s d f t l / 256 % 256) (wrS s d f t l % 256) l more n s d hn (by omega)
  rw [← List.append_assoc, ← dgL_list] at q1 q2 q3 q4 q5 q6
  have hS : suN s d (dgL s d f t l ++ more) = wrS s d f t l := by rw [q3]; unfold wrS; rw [h6L_list]
  have hT : toN (dgL s d f t l ++ more) = wrS s d f t l := by rw [q2]; omega
  have e0 : prE s d (dgL s d f t l ++ more) = 0 := by rw [prE_of q1, hS, hT, if_neg (fun h => h.2 rfl)]
  unfold prF prT prD
  rw [e0, if_pos rfl, if_pos rfl, if_pos rfl, q4, q5, q6]
  exact ⟨rfl, by omega, by omega, rfl⟩
/-- By another sender it is refused. -/
theorem dg_other (s' : Int) (hl : ∀ x ∈ l, IsB x) (hn : l.length = n) (hn2 : n ≤ 65507) (hs : IsU s) (hs' : s' = s + 1 ∧ s % 2 = 0 ∨ s' = s - 1 ∧ s % 2 = 1) : prE s' d (dgL s d f t l) = 13 := by
  obtain ⟨hS0, hS1⟩ := wr_sum s d f t l hl
  obtain ⟨q1, q2, q3, _⟩ := rd8 (f / 256 % 256) (f % 256) (t / 256 % 256) (t % 256) ((8 + (l.length : Int)) / 256 % 256) ((8 + (l.length : Int)) % 256) (wrS s d f t l / 256 % 256) (wrS s d f t l % 256) l [] n s' d hn (by omega)
  rw [List.append_nil, ← dgL_list] at q1 q2 q3
  have hS : suN s' d (dgL s d f t l) = udS s' d (h6L f t l.length ++ l) := by rw [q3, h6L_list]
  have hT : toN (dgL s d f t l) = wrS s d f t l := by rw [q2]; omega
  have hne := ud_other s s' d _ (h6_isB f t l hl) hs hs'
  rw [prE_of q1, hS, hT, if_pos ⟨by omega, fun h => hne h.symm⟩]
/-- With a bit turned in its ports or data it is refused. -/
theorem dg_turned (k b : Nat) (y : Int) (hl : ∀ x ∈ l, IsB x) (hn : l.length = n) (hn2 : n ≤ 65507) (hk : k < 4 ∨ 8 ≤ k ∧ k < 8 + n) (hb : b < 8) (hy : IsB y) (hyx : y = (dgL s d f t l).getD k 0 + 2 ^ b ∨ y = (dgL s d f t l).getD k 0 - 2 ^ b) : prE s d ((dgL s d f t l).set k y) = 13 := by
  obtain ⟨hS0, hS1⟩ := wr_sum s d f t l hl
  have hX := h6_isB f t l hl
  have hXl : (h6L f t l.length ++ l).length = 6 + n := by rw [List.length_append, h6L_len, hn]
  have key : ∀ (k' : Nat) (M : List Int), k' < 6 + n → (dgL s d f t l).getD k 0 = (h6L f t l.length ++ l).getD k' 0 → exE M = 0 → toN M = wrS s d f t l → suN s d M = udS s d ((h6L f t l.length ++ l).set k' y) → prE s d M = 13 := fun k' M h1 h2 h3 h4 h5 => by
    rw [h2] at hyx
    have hne := ud_turned s d _ k' b y (by omega) hX hb hy hyx
    rw [prE_of h3, h4, h5, if_pos ⟨by omega, fun h => hne h.symm⟩]
  rcases hk with hk | ⟨hk1, hk2⟩
  · have e : ∀ x0 x1 x2 x3, ([x0, x1, x2, x3, (8 + (l.length : Int)) / 256 % 256, (8 + (l.length : Int)) % 256] : List Int) ++ l = (h6L f t l.length ++ l).set k y → (dgL s d f t l).set k y = [x0, x1, x2, x3, (8 + (l.length : Int)) / 256 % 256, (8 + (l.length : Int)) % 256, wrS s d f t l / 256 % 256, wrS s d f t l % 256] ++ l → prE s d ((dgL s d f t l).set k y) = 13 := fun x0 x1 x2 x3 h1 h2 => by
      obtain ⟨q1, q2, q3, _⟩ := rd8 x0 x1 x2 x3 ((8 + (l.length : Int)) / 256 % 256) ((8 + (l.length : Int)) % 256) (wrS s d f t l / 256 % 256) (wrS s d f t l % 256) l [] n s d hn (by omega)
      rw [List.append_nil, ← h2] at q1 q2 q3
      rw [h1] at q3
      refine key k _ (by omega) ?_ q1 (by rw [q2]; omega) q3
      rw [dgL_list, h6L_list]
      rcases (show k = 0 ∨ k = 1 ∨ k = 2 ∨ k = 3 by omega) with rfl | rfl | rfl | rfl <;> rfl
    rw [h6L_list, dgL_list] at e
    rw [dgL_list]
    rcases (show k = 0 ∨ k = 1 ∨ k = 2 ∨ k = 3 by omega) with rfl | rfl | rfl | rfl
    · exact e _ _ _ _ rfl rfl
    · exact e _ _ _ _ rfl rfl
    · exact e _ _ _ _ rfl rfl
    · exact e _ _ _ _ rfl rfl
  · obtain ⟨j, rfl⟩ : ∃ j, k = 8 + j := ⟨k - 8, by omega⟩
    have e1 : (dgL s d f t l).set (8 + j) y = [f / 256 % 256, f % 256, t / 256 % 256, t % 256, (8 + (l.length : Int)) / 256 % 256, (8 + (l.length : Int)) % 256, wrS s d f t l / 256 % 256, wrS s d f t l % 256] ++ l.set j y := by
      rw [dgL_list, Nat.add_comm]; rfl
    have e2 : (h6L f t l.length ++ l).set (6 + j) y = h6L f t l.length ++ l.set j y := by rw [h6L_list, Nat.add_comm]; rfl
    have e3 : (dgL s d f t l).getD (8 + j) 0 = (h6L f t l.length ++ l).getD (6 + j) 0 := by rw [dgL_list, h6L_list, Nat.add_comm, Nat.add_comm 6]; rfl
    obtain ⟨q1, q2, q3, _⟩ := rd8 (f / 256 % 256) (f % 256) (t / 256 % 256) (t % 256) ((8 + (l.length : Int)) / 256 % 256) ((8 + (l.length : Int)) % 256) (wrS s d f t l / 256 % 256) (wrS s d f t l % 256) (l.set j y) [] n s d (by rw [List.length_set, hn]) (by omega)
    rw [List.append_nil, ← e1] at q1 q2 q3
    refine key (6 + j) _ (by omega) e3 q1 (by rw [q2]; omega) ?_
    rw [e2, q3, h6L_list]
/-- Cut anywhere it is refused. -/
theorem dg_cut (k : Nat) (hn : l.length = n) (hn2 : n ≤ 65507) (hk : k < 8 + n) : prE s d ((dgL s d f t l).take k) = 11 := by
  have := cut8 (f / 256 % 256) (f % 256) (t / 256 % 256) (t % 256) ((8 + (l.length : Int)) / 256 % 256) ((8 + (l.length : Int)) % 256) (wrS s d f t l / 256 % 256) (wrS s d f t l % 256) l n hn (by omega) k hk
  rw [← dgL_list] at this
  unfold prE
  rw [this]; rfl
/-- Without a sum it is read, whatever its data. -/
theorem dg_none (r : List Int) (hn : l.length = n) (hr2 : r.length = n) (hn2 : n ≤ 65507) (hr : wrOk f t) (M : List Int) (hM : M = [f / 256 % 256, f % 256, t / 256 % 256, t % 256, (8 + (l.length : Int)) / 256 % 256, (8 + (l.length : Int)) % 256, 0, 0] ++ r) : prE s d M = 0 ∧ prF s d M = f ∧ prT s d M = t ∧ prD s d M = r := by
  obtain ⟨⟨f0, f1⟩, t0, t1⟩ := hr
  obtain ⟨q1, q2, q3, q4, q5, q6⟩ := rd8 (f / 256 % 256) (f % 256) (t / 256 % 256) (t % 256) ((8 + (l.length : Int)) / 256 % 256) ((8 + (l.length : Int)) % 256) 0 0 r [] n s d hr2 (by omega)
  rw [List.append_nil, ← hM] at q1 q2 q3 q4 q5 q6
  have e0 : prE s d M = 0 := by rw [prE_of q1, if_neg (fun h => h.1 q2)]
  unfold prF prT prD
  rw [e0, if_pos rfl, if_pos rfl, if_pos rfl, q4, q5, q6]
  exact ⟨rfl, by omega, by omega, rfl⟩
end
end Go.Proofs.Ytbhdbgippbopfaa
