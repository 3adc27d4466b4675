/- What was written is read again: the facts on bytes. -/
import Derived.Test.YtbfdkbdjipiliaaDoorXbC
namespace Go.Proofs.YtbfdkbdjipiliaaDoor
open Go.RowKit Go.Maps
set_option linter.unusedVariables false

/-- Was an item read as it is? -/
def bkG (r : Rd) (x : It) : Bool :=
  if x.kd = 1 then ansV r 0 (u32P r.l r.k) == IntKind.u32.wrap x.v else if x.kd = 2 then ansV r 0 (u64P r.l r.k) == x.v else if x.kd = 3 then ansV r false (boolP r.l r.k) == x.on
  else if x.kd = 4 then decide (ansV r [] (cntP r.l r.k x.n) = x.l) else decide (ansV r [] (fixP r.l r.k x.n) = x.l)
def bkR (r : Rd) (x : It) : Rd :=
  if x.kd = 1 then ansR r (u32P r.l r.k) else if x.kd = 2 then ansR r (u64P r.l r.k) else if x.kd = 3 then ansR r (boolP r.l r.k)
  else if x.kd = 4 then ansR r (cntP r.l r.k x.n) else ansR r (fixP r.l r.k x.n)
def okB (r : Rd) (x : It) : Bool := bkG r x && decide ((bkR r x).e = 0)
def runB : Rd → List It → Option Rd
  | r, [] => some r
  | r, x :: L => if okB r x then runB (bkR r x) L else none
def backB (l : List Int) (L : List It) : Bool := match runB ⟨l, 0, 0⟩ L with | none => false | some r => decide (r.k = l.length)
theorem runB_app (L M : List It) (r : Rd) : runB r (L ++ M) = (runB r L).bind (fun r' => runB r' M) := by
  induction L generalizing r with
  | nil => rfl
  | cons x L ih =>
    simp only [List.cons_append, runB]
    split
    · exact ih _
    · rfl
theorem runB_snoc {L : List It} {k : Nat} (h : k < L.length) {r r' : Rd} (hr : runB r (L.take k) = some r') : runB r (L.take (k + 1)) = if okB r' (L.getD k default) then some (bkR r' (L.getD k default)) else none := by
  have e : L.getD k default = L[k] := by simp [List.getD, h]
  rw [e, List.take_succ_eq_append_getElem h, runB_app, hr]
  simp [runB]
theorem runB_none {L : List It} {k : Nat} {r : Rd} (h : runB r (L.take k) = none) : runB r L = none := by
  rw [← List.take_append_drop k L, runB_app, h]; rfl
theorem ansR_l {α : Type} (r : Rd) (R : Rs α) : (ansR r R).l = r.l := by unfold ansR; split <;> (try split) <;> rfl
theorem bkR_l (r : Rd) (x : It) : (bkR r x).l = r.l := by
  unfold bkR
  repeat' split
  all_goals exact ansR_l _ _
theorem fix_ok {l : List Int} {k : Nat} {n : Nat} (h : (fixP l k n).e = 0) : (fixP l k n).k = k + (n + pad4 n) ∧ (fixP l k n).v = (l.drop k).take n ∧ k + (n + pad4 n) ≤ l.length := by
  unfold fixP at h ⊢
  rw [if_neg (by omega)] at h ⊢
  rw [Int.toNat_natCast] at h ⊢
  split
  · rename_i h2; rw [if_pos h2] at h; simp at h
  · rename_i h2
    rw [if_neg h2] at h
    split
    · exact ⟨rfl, rfl, by omega⟩
    · rename_i h3; rw [if_neg h3] at h; simp at h
/-- An item that was read as it is took as many bytes as it has. -/
theorem okB_k {r : Rd} {x : It} (h0 : r.e = 0) (hn : x.l.length = x.n) (h : okB r x = true) : (bkR r x).k = r.k + (itL x).length ∧ (bkR r x).e = 0 := by
  unfold okB at h
  simp only [Bool.and_eq_true, decide_eq_true_eq] at h
  obtain ⟨hg, he⟩ := h
  refine ⟨?_, he⟩
  unfold bkR bkG itL at *
  obtain ⟨l, k, e⟩ := r
  simp only at h0
  subst h0
  by_cases e1 : x.kd = 1
  · simp only [if_pos e1] at hg he ⊢
    have hR : (u32P l k).e = 0 := by
      by_cases g : (u32P l k).e = 0
      · exact g
      · simp [ansR, g] at he
    simp [ansR, hR, (u32P_k hR).1, len_be]
  · by_cases e2 : x.kd = 2
    · simp only [if_neg e1, if_pos e2] at hg he ⊢
      have hR : (u64P l k).e = 0 := by
        by_cases g : (u64P l k).e = 0
        · exact g
        · simp [ansR, g] at he
      simp [ansR, hR, (u64P_k hR).1, len_be]
    · by_cases e3 : x.kd = 3
      · simp only [if_neg e1, if_neg e2, if_pos e3] at hg he ⊢
        have hR : (boolP l k).e = 0 := by
          by_cases g : (boolP l k).e = 0
          · exact g
          · simp [ansR, g] at he
        simp [ansR, hR, (boolP_k hR).1, len_be]
      · by_cases e4 : x.kd = 4
        · simp only [if_neg e1, if_neg e2, if_neg e3, if_pos e4] at hg he ⊢
          have hR : (cntP l k x.n).e = 0 := by
            by_cases g : (cntP l k x.n).e = 0
            · exact g
            · simp [ansR, g] at he
          have hV : (cntP l k x.n).v = x.l := by simpa [ansV, hR] using hg
          have hk2 : (ansR ⟨l, k, 0⟩ (cntP l k x.n)).k = (cntP l k x.n).k := by simp [ansR, hR]
          rw [hk2, fuL_len]
          unfold cntP at hR hV ⊢
          cases hq : numQ l k 4 with
          | none => rw [hq] at hR; simp at hR
          | some v =>
            rw [hq] at hR hV
            simp only at hR hV ⊢
            by_cases hgt : (x.n : Int) < v
            · rw [if_pos hgt] at hR; simp at hR
            · rw [if_neg hgt] at hR hV ⊢
              by_cases hv0 : v < 0
              · unfold fixP at hR; rw [if_pos hv0] at hR; simp at hR
              · obtain ⟨t, rfl⟩ := Int.eq_ofNat_of_zero_le (show 0 ≤ v by omega)
                obtain ⟨f1, f2, f3⟩ := fix_ok (n := t) hR
                have hl2 : x.l.length = t := by
                  rw [← hV, f2, List.length_take, List.length_drop]
                  omega
                rw [f1, hl2]
                omega
        · simp only [if_neg e1, if_neg e2, if_neg e3, if_neg e4] at hg he ⊢
          have hR : (fixP l k x.n).e = 0 := by
            by_cases g : (fixP l k x.n).e = 0
            · exact g
            · simp [ansR, g] at he
          obtain ⟨f1, f2, f3⟩ := fix_ok (n := x.n) hR
          have hk2 : (ansR ⟨l, k, 0⟩ (fixP l k x.n)).k = (fixP l k x.n).k := by simp [ansR, hR]
          rw [hk2, f1, pdL_len, hn]
theorem runB_k (L : List It) (r r' : Rd) (h0 : r.e = 0) (hn : ∀ x ∈ L, x.l.length = x.n) (h : runB r L = some r') : r'.k = r.k + (itLs L).length ∧ r'.l = r.l ∧ r'.e = 0 := by
  induction L generalizing r with
  | nil => simp only [runB, Option.some.injEq] at h; subst h; exact ⟨by simp [itLs], rfl, h0⟩
  | cons x L ih =>
    simp only [runB] at h
    split at h
    · rename_i hok
      obtain ⟨g1, g2⟩ := okB_k h0 (hn x (by simp)) hok
      obtain ⟨i1, i2, i3⟩ := ih _ g2 (fun y hy => hn y (by simp [hy])) h
      refine ⟨?_, i2.trans (bkR_l r x), i3⟩
      rw [i1, g1]
      simp only [itLs, List.flatMap_cons, List.length_append]
      omega
    · cases h
/-- Bytes of another length are not read whole. -/
theorem backB_no (l : List Int) (L : List It) (hn : ∀ x ∈ L, x.l.length = x.n) (h : l.length ≠ (itLs L).length) : backB l L = false := by
  unfold backB
  cases hr : runB ⟨l, 0, 0⟩ L with
  | none => rfl
  | some r' =>
    obtain ⟨i1, _, _⟩ := runB_k L _ r' rfl hn hr
    simp only at i1 ⊢
    simp only [decide_eq_false_iff_not]
    omega
theorem numQ_at (P S : List Int) (n : Nat) (B : List Int) (hB : B.length = n) (k : Nat) (hk : P.length = k) : numQ (P ++ (B ++ S)) k n = some (beOf B) := by
  subst hB hk
  unfold numQ
  rw [if_pos (by simp)]
  simp
theorem fixP_at (P S b : List Int) (k : Nat) (hk : P.length = k) : fixP (P ++ (pdL b ++ S)) k b.length = ⟨b, 0, k + (b.length + pad4 b.length)⟩ := by
  subst hk
  unfold fixP
  rw [if_neg (by omega), Int.toNat_natCast, if_neg (by simp [pdL_len] <;> omega)]
  have e1 : ((P ++ (pdL b ++ S)).drop (P.length + b.length)).take (pad4 b.length) = List.replicate (pad4 b.length) 0 := by
    rw [← List.drop_drop, List.drop_left, pdL, List.append_assoc, List.drop_left, List.take_left' (by simp)]
  have e2 : ((P ++ (pdL b ++ S)).drop P.length).take b.length = b := by rw [List.drop_left, pdL, List.append_assoc, List.take_left]
  rw [e1, e2, if_pos (by simp)]
theorem okB_at (P S : List Int) (x : It) (hv : IsW x.v) (hn : x.l.length = x.n) (h3 : x.n ≤ 3000) : okB ⟨P ++ (itL x ++ S), P.length, 0⟩ x = true ∧ bkR ⟨P ++ (itL x ++ S), P.length, 0⟩ x = ⟨P ++ (itL x ++ S), P.length + (itL x).length, 0⟩ := by
  unfold okB
  unfold bkR bkG itL
  unfold IsW at hv
  by_cases e1 : x.kd = 1
  · simp only [if_pos e1]
    have hu := isU_wrap x.v
    unfold IsU at hu
    have hq := numQ_at P S 4 (bytesBe 4 (IntKind.u32.wrap x.v)) (len_be _ _) _ rfl
    rw [be_back_4 _ hu.1 hu.2] at hq
    have hR : u32P (P ++ (bytesBe 4 (IntKind.u32.wrap x.v) ++ S)) P.length = ⟨IntKind.u32.wrap x.v, 0, P.length + 4⟩ := by unfold u32P; rw [hq]
    rw [hR]
    simp [ansV, ansR, len_be]
  · by_cases e2 : x.kd = 2
    · simp only [if_neg e1, if_pos e2]
      have hq := numQ_at P S 8 (bytesBe 8 x.v) (len_be _ _) _ rfl
      rw [be_back_8 _ hv.1 hv.2] at hq
      have hR : u64P (P ++ (bytesBe 8 x.v ++ S)) P.length = ⟨x.v, 0, P.length + 8⟩ := by unfold u64P; rw [hq]
      rw [hR]
      simp [ansV, ansR, len_be]
    · by_cases e3 : x.kd = 3
      · simp only [if_neg e1, if_neg e2, if_pos e3]
        have hq := numQ_at P S 4 (bytesBe 4 (tnum x.on)) (len_be _ _) _ rfl
        have htb := tnum_bd x.on
        rw [be_back_4 _ htb.1 (by simpa using htb.2)] at hq
        have hR : boolP (P ++ (bytesBe 4 (tnum x.on) ++ S)) P.length = ⟨x.on, 0, P.length + 4⟩ := by
          unfold boolP
          rw [hq]
          cases x.on <;> simp [tnum]
        rw [hR]
        simp [ansV, ansR, len_be]
      · by_cases e4 : x.kd = 4
        · simp only [if_neg e1, if_neg e2, if_neg e3, if_pos e4]
          have hq := numQ_at P (pdL x.l ++ S) 4 (bytesBe 4 x.l.length) (len_be _ _) _ rfl
          rw [be_back_4 _ (by omega) (by omega)] at hq
          have hR : cntP (P ++ (fuL x.l ++ S)) P.length x.n = ⟨x.l, 0, P.length + 4 + (x.l.length + pad4 x.l.length)⟩ := by
            unfold cntP
            rw [fuL, List.append_assoc, hq]
            simp only
            rw [if_neg (by omega)]
            have := fixP_at (P ++ bytesBe 4 x.l.length) S x.l (P.length + 4) (by rw [List.length_append, len_be])
            rw [List.append_assoc] at this
            exact this
          rw [hR]
          simp [ansV, ansR, fuL_len]
          omega
        · simp only [if_neg e1, if_neg e2, if_neg e3, if_neg e4]
          have hR := fixP_at P S x.l P.length rfl
          rw [hn] at hR
          rw [hR]
          simp [ansV, ansR, pdL_len, hn]
theorem runB_at (L : List It) (hv : ∀ x ∈ L, IsW x.v ∧ x.l.length = x.n ∧ x.n ≤ 3000) (P : List Int) : runB ⟨P ++ itLs L, P.length, 0⟩ L = some ⟨P ++ itLs L, (P ++ itLs L).length, 0⟩ := by
  induction L generalizing P with
  | nil => simp [runB, itLs]
  | cons x L ih =>
    obtain ⟨h1, h2, h3⟩ := hv x (by simp)
    have e : itLs (x :: L) = itL x ++ itLs L := by simp [itLs]
    rw [e]
    obtain ⟨g1, g2⟩ := okB_at P (itLs L) x h1 h2 h3
    simp only [runB, g1, if_true, g2]
    have := ih (fun y hy => hv y (by simp [hy])) (P ++ itL x)
    rw [List.append_assoc, List.length_append] at this
    exact this
/-- What was written is read again, whole. -/
theorem backB_yes (L : List It) (hv : ∀ x ∈ L, IsW x.v ∧ x.l.length = x.n ∧ x.n ≤ 3000) : backB (itLs L) L = true := by
  have := runB_at L hv []
  simp only [List.nil_append, List.length_nil] at this
  unfold backB
  rw [this]
  simp
theorem itL_4 (x : It) : (itL x).length % 4 = 0 := by
  unfold itL
  have h : ∀ n, (n + pad4 n) % 4 = 0 := fun n => by unfold pad4; omega
  split
  · simp [len_be]
  · split
    · simp [len_be]
    · split
      · simp [len_be]
      · split
        · rw [fuL_len]; have := h x.l.length; omega
        · rw [pdL_len]; exact h _
theorem itLs_4 (L : List It) : (itLs L).length % 4 = 0 := by
  induction L with
  | nil => simp [itLs]
  | cons x L ih =>
    have e : itLs (x :: L) = itL x ++ itLs L := by simp [itLs]
    rw [e, List.length_append]
    have := itL_4 x
    omega
end Go.Proofs.YtbfdkbdjipiliaaDoor
