/- The document's own queue: sizes, numbers of memory. -/
import Derived.Test.YtjnhcbompgmknaaNumB
import Derived.Test.YtjnhcbompgmknaaMemC
namespace Go.Proofs.Ytjnhcbompgmknaa
open Go.RowKit

set_option maxRecDepth 100000 in
set_option maxHeartbeats 400000 in
theorem refle_any (w : World) (g N len cap a n : Nat) (f : Nat → Int) (h : Mem w g N f) (hl : len ≤ N) (hm : len ≤ maxLen) (ha : a + n ≤ len) (hn : n = 2 ∨ n = 4) :
    Calls Try.prog 51 #[.slice (some ⟨g, 0, none⟩) len cap, .int .i64 a, .int .i64 n] w fun e w' => e = .returned (.int .i64 (rd f a n)) ∧ w' = w := by
  have hn' : Wid n := by rcases hn with rfl | rfl; exact .inl rfl; exact .inr (.inl rfl)
  have hcon := refLe_any (some ⟨g, 0, none⟩) cap (at_ f 0 len) a n w (by rw [at_len]; exact hm) (h.bytes 0 len (by omega))
  obtain ⟨e1, e2, _⟩ := rd_yes (at_ f 0 len) a n hn'.wid (by rw [at_len]; simp [insB]; omega)
  rw [e1, e2] at hcon
  simp only [cutOf, Int.toNat_natCast] at hcon
  rw [at_cut f 0 len a n ha, at_len, Nat.zero_add] at hcon
  have hbd := rd_bd h a n (by omega)
  have hw : IntKind.i64.wrap (rd f a n) = rd f a n := by
    rcases hn with rfl | rfl <;> exact IntWalk.i64_in _ (by omega)
  have HC := hid hcon
  clear hcon e1 e2 h hbd
  unfold rd at *
  generalize leOf (at_ f a n) = v at *
  go_enter Try.func51, Try.ntmps51
  go_wp2_with fail
  refine HC.out.mono ?_
  rintro e w' ⟨rfl, rfl⟩
  go_wp2
  go_ret
  exact ⟨rfl, rfl⟩

/-- The first k bytes of v laid at a. -/
theorem wr_step (f : Nat → Int) (a k : Nat) (v : Int) (i : Nat) : wr f a (k + 1) v i = if i = a + k then v / 256 ^ k % 256 else wr f a k v i := by
  unfold wr
  by_cases e : i = a + k
  · subst e
    rw [if_pos (by omega), if_pos rfl, Nat.add_sub_cancel_left]
  · rw [if_neg e]
    by_cases h : a ≤ i ∧ i < a + k
    · rw [if_pos (by omega), if_pos h]
    · rw [if_neg (by omega), if_neg h]

set_option maxRecDepth 100000 in
set_option maxHeartbeats 1000000 in
theorem refset_any (w : World) (g N len cap a n : Nat) (f : Nat → Int) (v : Int) (h : Mem w g N f) (hl : len ≤ N) (hm : len ≤ 1099511627776) (ha : a + n ≤ len) (hn : n ≤ 8) (h0 : 0 ≤ v) (h1 : v < 9223372036854775808) :
    Calls Try.prog 50 #[.slice (some ⟨g, 0, none⟩) len cap, .int .i64 a, .int .i64 n, .int .i64 v] w fun e w' => e = .returned (.tuple #[]) ∧ Mem w' g N (wr f a n v) ∧ Mods (fun b => b = g) w w' := by
  have HM := hid h
  have hw0 : IntKind.u64.wrap v = v := by rw [IntKind.wrap_u64]; omega
  clear h
  go_enter Try.func50, Try.ntmps50
  go_wp2
  go_loopw [8] (fun x wr' => ∃ k : Nat, k ≤ n ∧ x = .int .i64 k ∧ Mem wr' g N (wr f a k v) ∧ Mods (fun b => b = g) w wr') (fun x _ => n - (RowKit.intOf x).toNat)
  case atStart => exact ⟨0, Nat.zero_le _, rfl, HM.out.congr (fun i _ => by unfold wr; rw [if_neg (by omega)]), Mods.refl _ _⟩
  case round =>
    obtain ⟨k, hk, rfl, hme, hmo⟩ := hrel
    have HME := hid hme
    have HMO := hid hmo
    by_cases hlt : k < n
    · have hki : (k : Int) < n := by omega
      have hc := hme.cell (i := a + k) (by omega)
      have hfz := hme.frozen (a + k)
      have e1 : IntKind.i64.wrap ((a : Int) + k) = (a : Int) + k := IntWalk.i64_in _ (by omega)
      have e2 : IntKind.i64.wrap (8 * (k : Int)) = 8 * (k : Int) := IntWalk.i64_in _ (by omega)
      have e3 : IntKind.i64.wrap ((k : Int) + 1) = (k : Int) + 1 := IntWalk.i64_in _ (by omega)
      clear hme hmo
      go_wp2
      have hp2 : (2 : Int) ^ (8 * k) = 256 ^ k := by rw [Int.pow_mul]; rfl
      refine ⟨⟨k + 1, by omega, by go_num, ?_, HMO.out.setCell g (a + k) _ rfl⟩, by simp only [RowKit.intOf]; omega⟩
      rw [hp2]
      exact (HME.out.set1 (a + k) _ (by unfold IsB; omega)).congr (fun i _ => (wr_step f a k v i).symm)
    · have hki : ¬ ((k : Int) < n) := by omega
      clear hme hmo
      go_wp2
      go_end0
      obtain rfl : k = n := by omega
      exact ⟨rfl, HME.out, HMO.out⟩

/-! ### Size, fits -/
set_option maxRecDepth 100000 in
set_option maxHeartbeats 1000000 in
theorem refSize_any (w : World) (n : Int) : Calls Try.prog 9 #[.int .i64 n] w fun e w' => e = .returned (.int .i64 (sizeI n)) ∧ w' = w := by
  go_enter Try.func9, Try.ntmps9
  go_wp2
  go_loopw [3] (fun x wr => ∃ j : Nat, j ≤ 9 ∧ x = .int .i64 (2 ^ j) ∧ wr = w ∧ ∀ t, t < j → n ≠ 2 ^ t) (fun x _ => (1024 - RowKit.intOf x).toNat)
  case atStart => exact ⟨0, by omega, rfl, rfl, fun t ht => by omega⟩
  case round =>
    obtain ⟨j, hj, rfl, rfl, hne⟩ := hrel
    have HNE := hid hne
    clear hne
    by_cases hj9 : j = 9
    · subst hj9
      have hs : sizeI n = 0 := by
        unfold sizeI
        have h : ∀ t, t < 9 → n ≠ 2 ^ t := HNE.out
        have a0 := h 0 (by omega)
        have a1 := h 1 (by omega)
        have a2 := h 2 (by omega)
        have a3 := h 3 (by omega)
        have a4 := h 4 (by omega)
        have a5 := h 5 (by omega)
        have a6 := h 6 (by omega)
        have a7 := h 7 (by omega)
        have a8 := h 8 (by omega)
        simp at a0 a1 a2 a3 a4 a5 a6 a7 a8
        rw [if_neg (by simp [pow2]; omega)]
      have HS := hid hs
      clear hs
      go_wp2
      go_ret
      exact ⟨ret_int HS.out.symm, rfl⟩
    · have hb : (1 : Int) ≤ 2 ^ j ∧ (2 : Int) ^ j ≤ 256 := by
        rcases (show j = 0 ∨ j = 1 ∨ j = 2 ∨ j = 3 ∨ j = 4 ∨ j = 5 ∨ j = 6 ∨ j = 7 ∨ j = 8 by omega) with rfl | rfl | rfl | rfl | rfl | rfl | rfl | rfl | rfl <;> decide
      have hp2 : (2 : Int) ^ (j + 1) = 2 * 2 ^ j := by rw [Int.pow_succ]; omega
      have hpw : n = 2 ^ j → sizeI n = 8 + 26 * n := fun e => by
        unfold sizeI
        rw [if_pos]
        rw [e]
        rcases (show j = 0 ∨ j = 1 ∨ j = 2 ∨ j = 3 ∨ j = 4 ∨ j = 5 ∨ j = 6 ∨ j = 7 ∨ j = 8 by omega) with rfl | rfl | rfl | rfl | rfl | rfl | rfl | rfl | rfl <;> decide
      have HPW := hid hpw
      have HP2 := hid hp2
      clear hpw hp2
      generalize hpj : (2 : Int) ^ j = pj at *
      have HPJ := hid hpj
      clear hpj
      by_cases he : pj = n
      · have hs := HPW.out he.symm
        have HS := hid hs
        have e1 : IntKind.i64.wrap (26 * n) = 26 * n := IntWalk.i64_in _ (by omega)
        have e2 : IntKind.i64.wrap (8 + 26 * n) = 8 + 26 * n := IntWalk.i64_in _ (by omega)
        have hle : pj ≤ 256 := hb.2
        have heb : (pj == n) = true := by simpa using he
        clear hs he
        go_wp2
        go_ret
        exact ⟨ret_int HS.out.symm, rfl⟩
      · have heb : (pj == n) = false := by simpa using he
        have e1 : IntKind.i64.wrap (2 * pj) = 2 * pj := IntWalk.i64_in _ (by omega)
        have hle : pj ≤ 256 := hb.2
        have HE := hid he
        clear he
        go_wp2
        refine ⟨⟨j + 1, by omega, by rw [HP2.out], trivial, fun t ht => ?_⟩, by simp only [RowKit.intOf]; omega⟩
        by_cases e : t = j
        · subst e
          rw [HPJ.out]
          exact fun h => HE.out h.symm
        · exact HNE.out t (by omega)
end Go.Proofs.Ytjnhcbompgmknaa
