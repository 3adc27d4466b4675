/- The header as bytes: what is read of it, and of one with a bit turned; the law's within. -/
import Derived.Test.YtgdajplloamjcaaPbJ
namespace Go.Proofs.Ytgdajplloamjcaa
open Go.RowKit Go.Maps
set_option linter.unusedVariables false
/-- A number modulo n, from 0 on. -/
def wi (at_ n : Int) : Int := if at_.tmod n < 0 then at_.tmod n + n else at_.tmod n
theorem wi_bd (at_ n : Int) (h : 0 < n) : 0 ≤ wi at_ n ∧ wi at_ n < n := by
  unfold wi
  have h1 := Int.tmod_lt_of_pos at_ h
  have h2 : -n < at_.tmod n := by
    rcases Int.lt_or_le at_ 0 with h3 | h3
    · have h4 := Int.neg_tmod (-at_) n
      rw [Int.neg_neg] at h4
      rw [h4]
      have := Int.tmod_lt_of_pos (-at_) h
      omega
    · have := Int.tmod_nonneg n h3
      omega
  split <;> omega
theorem wrap_wi {x n : Int} (h0 : 0 < n) (hn : n < 1099511627776) (h : x.tmod n < 0) : IntKind.i64.wrap (x.tmod n + n) = x.tmod n + n := by
  have h1 := wi_bd x n h0
  unfold wi at h1
  rw [if_pos h] at h1
  exact IntWalk.i64_in _ (by omega)
set_option maxHeartbeats 400000 in
theorem lwithin_any (x n : Int) (h0 : 0 < n) (hn : n < 1099511627776) (w : World) : Calls Try.prog 20 #[.int .i64 x, .int .i64 n] w fun e w' => e = .returned (.int .i64 (wi x n)) ∧ w' = w := by
  have hne : ¬ (n = 0) := by omega
  have hne' : n ≠ 0 := by omega
  by_cases h : x.tmod n < 0
  · have hw := wrap_wi h0 hn h
    have e : wi x n = x.tmod n + n := by unfold wi; rw [if_pos h]
    rw [e]
    go_enter Try.func20, Try.ntmps20
    go_wp2
    go_ret
    exact ⟨rfl, rfl⟩
  · have e : wi x n = x.tmod n := by unfold wi; rw [if_neg h]
    rw [e]
    go_enter Try.func20, Try.ntmps20
    go_wp2
    go_ret
    exact ⟨rfl, rfl⟩
theorem hdL_list (n : Nat) (s d pr i o : Int) (m : Bool) (t : Int) : hdL n s d pr i o m t = [69, 0, (20 + (n : Int)) / 256 % 256, (20 + (n : Int)) % 256, i / 256 % 256, i % 256, flW o m / 256 % 256, flW o m % 256, t % 256, pr % 256, hdS n s d pr i o m t / 256 % 256, hdS n s d pr i o m t % 256, s / 16777216 % 256, s / 65536 % 256, s / 256 % 256, s % 256, d / 16777216 % 256, d / 65536 % 256, d / 256 % 256, d % 256] := by
  unfold hdL hdA hdE
  simp [outBe, bytesBe, List.range, List.range.loop]
theorem hdA_list (n : Nat) (pr i o : Int) (m : Bool) (t : Int) : hdA n pr i o m t = [69, 0, (20 + (n : Int)) / 256 % 256, (20 + (n : Int)) % 256, i / 256 % 256, i % 256, flW o m / 256 % 256, flW o m % 256, t % 256, pr % 256] := by
  unfold hdA
  simp [outBe, bytesBe, List.range, List.range.loop]
theorem hd_nought (n : Nat) (s d pr i o : Int) (m : Bool) (t : Int) : inetFold (wsum 0 (hdL n s d pr i o m t)) = 65535 := by
  have hI := hdAE_isB n s d pr i o m t
  have hb := inetL_bd _ hI
  have h0 := (wsum_bd 0 _ hI).1
  have hf := fold_add _ h0
  have e : wsum 0 (hdL n s d pr i o m t) = wsum 0 (hdA n pr i o m t ++ hdE s d) + hdS n s d pr i o m t := by
    have h2 : hdS n s d pr i o m t = inetL (hdA n pr i o m t ++ hdE s d) := rfl
    rw [← h2] at hb
    unfold hdL
    rw [outBe_uno, be2, List.append_assoc]
    generalize hdS n s d pr i o m t = S at *
    have a1 := wsum_append 0 (hdA n pr i o m t) ([S / 256 % 256, S % 256] ++ hdE s d)
    have a2 := wsum_append (0 + 10) [S / 256 % 256, S % 256] (hdE s d)
    have a3 := wsum_append 0 (hdA n pr i o m t) (hdE s d)
    rw [hdA_len] at a1 a3
    have a4 : wsum (0 + 10) [S / 256 % 256, S % 256] = 256 * (S / 256 % 256) + S % 256 := by simp [wsum]
    have a5 : wsum (0 + 10 + [S / 256 % 256, S % 256].length) (hdE s d) = wsum (0 + 10) (hdE s d) := wsum_par 10 _
    rw [a1, a2, a3, a4, a5]
    omega
  rw [e]
  exact hf
theorem hd_inet (n : Nat) (s d pr i o : Int) (m : Bool) (t : Int) : inetL (hdL n s d pr i o m t) = 0 := by
  unfold inetL; rw [hd_nought]; rfl
theorem and8192 (x : Int) (h0 : 0 ≤ x) (h1 : x < 65536) : (bits .and .i64 x 8192 != 0) = decide (x / 8192 % 2 = 1) := by
  obtain ⟨k, rfl⟩ := Int.eq_ofNat_of_zero_le h0
  have e : bits .and .i64 (k : Int) 8192 = ((k &&& 8192 : Nat) : Int) := by
    have h2 : (BitVec.ofInt 64 (k : Int) &&& BitVec.ofInt 64 8192).toNat = k &&& 8192 := by
      rw [BitVec.toNat_and, BitVec.toNat_ofInt]
      have h3 : (BitVec.ofInt 64 8192).toNat = 8192 := by decide
      rw [h3]
      congr 1
      omega
    show IntKind.i64.wrap ((BitVec.ofInt 64 (k : Int) &&& BitVec.ofInt 64 8192).toNat : Nat) = _
    rw [h2, IntKind.wrap_i64]
    have : k &&& 8192 ≤ 8192 := Nat.and_le_right
    omega
  rw [e]
  have h4 : k &&& 8192 = (k.testBit 13).toNat * 2 ^ 13 := by
    show k &&& 2 ^ 13 = _
    apply Nat.eq_of_testBit_eq
    intro j
    rw [Nat.testBit_and, Nat.testBit_two_pow]
    by_cases hj : 13 = j
    · subst hj
      cases k.testBit 13
      · simp
      · simp only [Bool.toNat_true, Nat.one_mul, Nat.testBit_two_pow]; simp
    · cases k.testBit 13
      · simp [hj]
      · simp only [Bool.toNat_true, Nat.one_mul, Nat.testBit_two_pow]; simp [hj]
  rw [h4, Nat.testBit_eq_decide_div_mod_eq]
  by_cases hb : k / 2 ^ 13 % 2 = 1
  · have h5 : (k : Int) / 8192 % 2 = 1 := by omega
    rw [decide_eq_true hb, decide_eq_true h5]; rfl
  · have h5 : ¬ (k : Int) / 8192 % 2 = 1 := by omega
    rw [decide_eq_false hb, decide_eq_false h5]; rfl
section
variable (n : Nat) (s d pr i o : Int) (m : Bool) (t : Int) (body more : List Int)
/-- What is read of a header that was written. -/
theorem hd_read (hs : IsU s) (hd : IsU d) (hn : body.length = n) (hn2 : n ≤ 65515) (hr : wrOk pr i o t) :
    exE (hdL n s d pr i o m t ++ body ++ more) = 0 ∧ prO (hdL n s d pr i o m t ++ body ++ more) = ⟨s, d, pr, i, o, m, decide (o = 0) && !m, t, body⟩ := by
  unfold IsU at hs hd
  obtain ⟨r1, r2, r3, r4, r5⟩ := hr
  have hl := hdL_len n s d pr i o m t
  have hh := hd_inet n s d pr i o m t
  have hlist := hdL_list n s d pr i o m t
  have hfl : 0 ≤ flW o m ∧ flW o m < 65536 := by unfold flW; split <;> omega
  obtain ⟨hS0, hS1⟩ := inetL_bd _ (hdAE_isB n s d pr i o m t)
  have hhd : hdN (hdL n s d pr i o m t ++ body ++ more) = 20 := by unfold hdN; rw [hlist]; rfl
  have hal : alN (hdL n s d pr i o m t ++ body ++ more) = 20 + n := by
    unfold alN; rw [hlist]; simp [beOf, beOn]; omega
  have htk : (hdL n s d pr i o m t ++ body ++ more).take 20 = hdL n s d pr i o m t := by
    rw [List.append_assoc, List.take_append_of_le_length (by omega), List.take_of_length_le (by omega)]
  have hlen : (hdL n s d pr i o m t ++ body ++ more).length = 20 + n + more.length := by simp [hl, hn]; omega
  constructor
  · unfold exE
    rw [hhd, hal, hlen, if_neg (by omega), if_neg (by rw [hlist]; simp), if_neg (by omega), if_neg (by omega), if_neg (by omega), if_neg (by omega), if_neg (not_not_intro (by rw [show (20 : Int).toNat = 20 by rfl, htk]; exact hh))]
  · have hfl2 : flN (hdL n s d pr i o m t ++ body ++ more) = flW o m := by unfold flN; rw [hlist]; simp [beOf, beOn]; omega
    have hmo : moN (hdL n s d pr i o m t ++ body ++ more) = m := by
      unfold moN; rw [hfl2, and8192 _ hfl.1 hfl.2]
      unfold flW
      cases m
      · simp; omega
      · simp; omega
    have hof : flW o m % 8192 * 8 = o := by unfold flW; cases m <;> simp <;> omega
    have hbo : boN (hdL n s d pr i o m t ++ body ++ more) = body := by
      unfold boN
      rw [hhd, hal, show (20 : Int).toNat = 20 by rfl, show (20 + (n : Int)).toNat - 20 = n by omega, List.append_assoc, List.drop_append_of_le_length (by omega), List.drop_of_length_le (by omega), List.nil_append, List.take_append_of_le_length (by omega), List.take_of_length_le (by omega)]
    unfold prO
    rw [hfl2, hmo, hbo, hof]
    have e1 : beOf (((hdL n s d pr i o m t ++ body ++ more).drop 12).take 4) = s := by rw [hlist]; simp [beOf, beOn]; omega
    have e2 : beOf (((hdL n s d pr i o m t ++ body ++ more).drop 16).take 4) = d := by rw [hlist]; simp [beOf, beOn]; omega
    have e3 : beOf (((hdL n s d pr i o m t ++ body ++ more).drop 9).take 1) = pr := by rw [hlist]; simp [beOf, beOn]; omega
    have e4 : beOf (((hdL n s d pr i o m t ++ body ++ more).drop 4).take 2) = i := by rw [hlist]; simp [beOf, beOn]; omega
    have e5 : beOf (((hdL n s d pr i o m t ++ body ++ more).drop 8).take 1) = t := by rw [hlist]; simp [beOf, beOn]; omega
    rw [e1, e2, e3, e4, e5]
/-- A bit of it that is turned is seen. -/
theorem hd_turned (k b : Nat) (y : Int) (hk : 1 ≤ k ∧ k < 20) (hb : b < 8) (hy : IsB y) (hyx : y = (hdL n s d pr i o m t ++ body).getD k 0 + 2 ^ b ∨ y = (hdL n s d pr i o m t ++ body).getD k 0 - 2 ^ b) :
    ¬ exE ((hdL n s d pr i o m t ++ body).set k y) = 0 := fun he => by
  obtain ⟨q0, q1, q2, q3, q4, q5, q6⟩ := exE_ok he
  have hl := hdL_len n s d pr i o m t
  have hg0 : ((hdL n s d pr i o m t ++ body).set k y).getD 0 0 = 69 := by
    rw [hdL_list]
    obtain ⟨k', rfl⟩ : ∃ k', k = k' + 1 := ⟨k - 1, by omega⟩
    rfl
  have hhd : hdN ((hdL n s d pr i o m t ++ body).set k y) = 20 := by unfold hdN; rw [hg0]; rfl
  rw [hhd, show (20 : Int).toNat = 20 by rfl, List.take_set, List.take_append_of_le_length (by omega), List.take_of_length_le (by omega)] at q6
  have hgk : (hdL n s d pr i o m t ++ body).getD k 0 = (hdL n s d pr i o m t).getD k 0 := by
    simp only [List.getD]
    rw [List.getElem?_append_left (by omega)]
  rw [hgk] at hyx
  have := (turned (hdL n s d pr i o m t) k b y (by omega) (hdL_isB n s d pr i o m t) hb hy hyx (hd_nought n s d pr i o m t)).1
  rw [bne_iff_ne] at this
  exact this q6
/-- One that is cut is seen. -/
theorem hd_cut (k : Nat) (hn : body.length = n) (hn2 : n ≤ 65515) (hk : k < 20 + n) : exE ((hdL n s d pr i o m t ++ body).take k) = 11 := by
  have hl := hdL_len n s d pr i o m t
  have hlist := hdL_list n s d pr i o m t
  have hlen : ((hdL n s d pr i o m t ++ body).take k).length = k := by simp [hl, hn]; omega
  unfold exE
  rw [hlen]
  by_cases h20 : k < 20
  · rw [if_pos h20]
  · have hg : ∀ j, j < 20 → ((hdL n s d pr i o m t ++ body).take k).getD j 0 = (hdL n s d pr i o m t).getD j 0 := fun j hj => by
      simp only [List.getD]
      rw [List.getElem?_take, if_pos (by omega), List.getElem?_append_left (by omega)]
    have hhd : hdN ((hdL n s d pr i o m t ++ body).take k) = 20 := by unfold hdN; rw [hg 0 (by omega), hlist]; rfl
    have hal : alN ((hdL n s d pr i o m t ++ body).take k) = 20 + n := by
      unfold alN
      rw [List.drop_take, List.take_take, show min 2 (k - 2) = 2 by omega, hlist]
      simp [beOf, beOn]; omega
    rw [if_neg h20, if_neg (not_not_intro (by rw [hg 0 (by omega), hlist]; rfl)), hhd, hal, if_neg (by omega), if_neg (by omega), if_neg (by omega), if_pos (by omega)]
end
end Go.Proofs.Ytgdajplloamjcaa
