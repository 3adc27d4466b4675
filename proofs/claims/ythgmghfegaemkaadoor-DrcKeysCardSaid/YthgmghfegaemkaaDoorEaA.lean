/- The readers and writers of package num at this program: numbers of 2 and 4 bytes, the highest byte first. -/
import Derived.Test.YthgmghfegaemkaaDoorWaB
namespace Go.Proofs.YthgmghfegaemkaaDoor
open Go.RowKit
set_option linter.unusedVariables false
theorem be_le (l : List Int) : beOf l = leOf l.reverse := by
  have : ∀ (l : List Int) (v : Int) , beOn v l = v * 256 ^ l.length + leOf l.reverse := by
    intro l
    induction l with
    | nil => intro v; simp [beOn, leOf]
    | cons x l ih =>
      intro v
      simp only [beOn, ih, List.reverse_cons, leOf_append, List.length_reverse, List.length_cons, Int.pow_succ, Int.add_mul]
      rw [Int.mul_assoc, Int.mul_comm 256, Int.mul_comm x]
      omega
  simpa [beOf] using this l 0
set_option maxHeartbeats 400000 in
theorem readHigh_any (b off cap n : Nat) (l : List Int) (w : World) (h : Bytes w (some ⟨b, off, none⟩) l) (hn : widB n = true) (hl : l.length = n) :
    Calls Tryd.prog 18 #[.slice (some ⟨b, off, none⟩) n cap] w fun e w' => e = .returned (.int .u64 (beOf l)) ∧ ∃ q, w' = w.drewN q := by
  have hI := h.isB
  rcases widB_cases hn with e | e | e | e
  · obtain rfl : n = 1 := by omega
    match l, hl with
    | [x0], _ =>
      have c0 : w.cell? ⟨b, off, none⟩ = some (.int .u8 x0) := by simpa using h.at_ 0 (by simp)
      have h0 := hI x0 (by simp)
      clear h hI hn e
      unfold IsB at *
      go_enter Tryd.func18, Tryd.ntmps18
      go_wp2
      go_ret
      refine ⟨ret_int ?_, 0, rfl⟩
      rw [or_zero_u64 _ (by omega) (by omega)]
      simp [beOf, beOn]
  · obtain rfl : n = 2 := by omega
    match l, hl with
    | [x0, x1], _ =>
      have c0 : w.cell? ⟨b, off, none⟩ = some (.int .u8 x0) := by simpa using h.at_ 0 (by simp)
      have c1 : w.cell? ⟨b, off + 1, none⟩ = some (.int .u8 x1) := by simpa using h.at_ 1 (by simp)
      have h0 := hI x0 (by simp)
      have h1 := hI x1 (by simp)
      clear h hI hn e
      unfold IsB at *
      go_enter Tryd.func18, Tryd.ntmps18
      go_wp2
      go_ret
      refine ⟨ret_int ?_, 0, rfl⟩
      rw [or_zero_u64 _ (by omega) (by omega), or_u64 8 _ x1 (by decide) (by omega) (by omega) (by omega) (by omega) (by omega)]
      simp only [beOf, beOn]; omega
  · obtain rfl : n = 4 := by omega
    match l, hl with
    | [x0, x1, x2, x3], _ =>
      have c0 : w.cell? ⟨b, off, none⟩ = some (.int .u8 x0) := by simpa using h.at_ 0 (by simp)
      have c1 : w.cell? ⟨b, off + 1, none⟩ = some (.int .u8 x1) := by simpa using h.at_ 1 (by simp)
      have c2 : w.cell? ⟨b, off + 2, none⟩ = some (.int .u8 x2) := by simpa using h.at_ 2 (by simp)
      have c3 : w.cell? ⟨b, off + 3, none⟩ = some (.int .u8 x3) := by simpa using h.at_ 3 (by simp)
      have h0 := hI x0 (by simp)
      have h1 := hI x1 (by simp)
      have h2 := hI x2 (by simp)
      have h3 := hI x3 (by simp)
      clear h hI hn e
      have hz := low4 x3 x2 x1 x0 h3 h2 h1 h0
      have HZ : Hid _ := hz
      clear hz
      unfold IsB at *
      go_enter Tryd.func18, Tryd.ntmps18
      go_wp2
      go_quiet (fail)
      go_wp2
      go_ret
      exact ⟨ret_int (HZ.out.trans (be_le [x0, x1, x2, x3]).symm), _, rfl⟩
  · obtain rfl : n = 8 := by omega
    match l, hl with
    | [x0, x1, x2, x3, x4, x5, x6, x7], _ =>
      have c0 : w.cell? ⟨b, off, none⟩ = some (.int .u8 x0) := by simpa using h.at_ 0 (by simp)
      have c1 : w.cell? ⟨b, off + 1, none⟩ = some (.int .u8 x1) := by simpa using h.at_ 1 (by simp)
      have c2 : w.cell? ⟨b, off + 2, none⟩ = some (.int .u8 x2) := by simpa using h.at_ 2 (by simp)
      have c3 : w.cell? ⟨b, off + 3, none⟩ = some (.int .u8 x3) := by simpa using h.at_ 3 (by simp)
      have c4 : w.cell? ⟨b, off + 4, none⟩ = some (.int .u8 x4) := by simpa using h.at_ 4 (by simp)
      have c5 : w.cell? ⟨b, off + 5, none⟩ = some (.int .u8 x5) := by simpa using h.at_ 5 (by simp)
      have c6 : w.cell? ⟨b, off + 6, none⟩ = some (.int .u8 x6) := by simpa using h.at_ 6 (by simp)
      have c7 : w.cell? ⟨b, off + 7, none⟩ = some (.int .u8 x7) := by simpa using h.at_ 7 (by simp)
      have h0 := hI x0 (by simp)
      have h1 := hI x1 (by simp)
      have h2 := hI x2 (by simp)
      have h3 := hI x3 (by simp)
      have h4 := hI x4 (by simp)
      have h5 := hI x5 (by simp)
      have h6 := hI x6 (by simp)
      have h7 := hI x7 (by simp)
      clear h hI hn e
      have hz := low8 x7 x6 x5 x4 x3 x2 x1 x0 h7 h6 h5 h4 h3 h2 h1 h0
      have HZ : Hid _ := hz
      clear hz
      unfold IsB at *
      go_enter Tryd.func18, Tryd.ntmps18
      go_wp2
      go_quiet (fail)
      go_wp2
      go_quiet (fail)
      go_wp2
      go_ret
      exact ⟨ret_int (HZ.out.trans (be_le [x0, x1, x2, x3, x4, x5, x6, x7]).symm), _, rfl⟩
set_option maxHeartbeats 400000 in
theorem numBe_any (a : Option Addr) (cap : Nat) (l : List Int) (at_ n : Int) (w : World) (hl : l.length ≤ maxLen) (hc : l.length ≤ cap) (h : Bytes w a l) :
    Calls Tryd.prog 11 #[.slice a l.length cap, .int .i64 at_, .int .i64 n] w fun e w' => e = .returned (.tuple #[.int .u64 (rdBe l at_ n), .int .i64 (rdErr l.length at_ n)]) ∧ ∃ q, w' = w.drewN q := by
  cases hn : widB n
  · obtain ⟨e1, _, e2⟩ := rd_no l at_ n hn
    rw [e1, e2]
    clear e1 e2
    go_enter Tryd.func11, Tryd.ntmps11
    go_wp2_with fail
    refine (piece_width _ _ _ _ _ _ hn).mono ?_
    rintro e w' ⟨rfl, rfl⟩
    go_wp2
    go_ret2
    exact ⟨rfl, 0, rfl⟩
  cases hi : insB l.length at_ n
  · obtain ⟨e1, _, e2⟩ := rd_out l at_ n hn hi
    rw [e1, e2]
    clear e1 e2
    go_enter Tryd.func11, Tryd.ntmps11
    go_wp2_with fail
    refine (piece_out _ _ _ _ _ _ hl hn hi).mono ?_
    rintro e w' ⟨rfl, rfl⟩
    go_wp2
    go_ret2
    exact ⟨rfl, 0, rfl⟩
  · obtain ⟨e1, _, e2⟩ := rd_yes l at_ n hn hi
    rw [e1, e2]
    clear e1 e2
    have hb : 1 ≤ n ∧ n ≤ 8 := by rcases widB_cases hn with e | e | e | e <;> omega
    simp [insB] at hi
    obtain ⟨p, rfl⟩ := Int.eq_ofNat_of_zero_le hi.1
    obtain ⟨m, rfl⟩ := Int.eq_ofNat_of_zero_le (show 0 ≤ n by omega)
    obtain ⟨b, off, rfl, _⟩ := h.open_ (by omega)
    have hcut := h.cut p m
    have hlen : ((l.drop p).take m).length = m := by simp; omega
    have HL : Hid _ := hlen
    have HN : Hid _ := hn
    obtain ⟨len, hlen2⟩ : ∃ len, l.length = len := ⟨_, rfl⟩
    rw [hlen2] at hl hc hi ⊢
    simp only [cutOf, Int.toNat_natCast]
    generalize (l.drop p).take m = c at *
    clear hlen hn h hlen2
    go_enter Tryd.func11, Tryd.ntmps11
    go_wp2_with fail
    refine (piece_yes b off len cap p m _ hl hc HN.out (by omega)).mono ?_
    rintro e w' ⟨rfl, rfl⟩
    go_wp2_with fail
    refine (readHigh_any _ _ _ _ c _ hcut HN.out HL.out).mono ?_
    rintro e w' ⟨rfl, q, rfl⟩
    go_wp2
    go_ret2
    exact ⟨rfl, _, rfl⟩
def bytesBe (n : Nat) (v : Int) : List Int := (List.range n).map fun i => v / 256 ^ (n - 1 - i) % 256
theorem len_be (n : Nat) (v : Int) : (bytesBe n v).length = n := by simp [bytesBe]
theorem getD_be (n : Nat) (v : Int) (j : Nat) (h : j < n) : (bytesBe n v).getD j 0 = v / 256 ^ (n - 1 - j) % 256 := by simp [bytesBe, List.getD, h]
def outBe (b : List Int) (n : Nat) (l : List Int) : List Int := b ++ l.flatMap (bytesBe n)
theorem outBe_snoc (b : List Int) (n : Nat) (l : List Int) (k : Nat) (h : k < l.length) : outBe b n (l.take (k + 1)) = outBe b n (l.take k) ++ bytesBe n (l.getD k 0) := by
  rw [take_snoc l k h]; simp [outBe]
theorem outBe_len (b : List Int) (n : Nat) (l : List Int) : (outBe b n l).length = b.length + n * l.length := by
  unfold outBe
  induction l with
  | nil => simp
  | cons x l ih =>
    simp only [List.length_append, List.flatMap_cons, len_be, List.length_cons, Nat.mul_add] at *
    omega
theorem outBe_uno (r : List Int) (n : Nat) (v : Int) : outBe r n [v] = r ++ bytesBe n v := by simp [outBe]
theorem be_isB (n : Nat) (v : Int) : ∀ x ∈ bytesBe n v, IsB x := by
  intro x hx
  simp [bytesBe] at hx
  obtain ⟨i, _, rfl⟩ := hx
  unfold IsB; omega
theorem numBe_at (a : Option Addr) (k cap : Nat) (l : List Int) (at_ n : Int) (w : World) (hk : l.length = k) (hl : l.length ≤ maxLen) (hc : k ≤ cap) (h : Bytes w a l) :
    Calls Tryd.prog 11 #[.slice a k cap, .int .i64 at_, .int .i64 n] w fun e w' => e = .returned (.tuple #[.int .u64 (rdBe l at_ n), .int .i64 (rdErr k at_ n)]) ∧ ∃ q, w' = w.drewN q := by
  subst hk; exact numBe_any a cap l at_ n w hl hc h
theorem be_back_2 (u : Int) (h0 : 0 ≤ u) (h1 : u < 65536) : beOf (bytesBe 2 u) = u := by
  simp [bytesBe, beOf, beOn, List.range, List.range.loop]; omega
theorem be_back_4 (u : Int) (h0 : 0 ≤ u) (h1 : u < 4294967296) : beOf (bytesBe 4 u) = u := by
  simp [bytesBe, beOf, beOn, List.range, List.range.loop]; omega
theorem take_be (n : Nat) (x : Int) (j : Nat) (h : j < n) : (bytesBe n x).take (j + 1) = (bytesBe n x).take j ++ [x / 256 ^ (n - 1 - j) % 256] := by
  rw [take_snoc _ j (by rw [len_be]; exact h), getD_be n x j h]
end Go.Proofs.YthgmghfegaemkaaDoor
