/- The law's own inet and within. -/
import Derived.Test.YtgdajplloamjcaaPcD
namespace Go.Proofs.Ytgdajplloamjcaa
open Go.RowKit Go.Maps
set_option linter.unusedVariables false
theorem i64_and65535 (n : Int) : bits .and .i64 n 65535 = n % 65536 := by
  have hm : (BitVec.ofInt 64 65535).toNat = 2 ^ 16 - 1 := by decide
  have key : (BitVec.ofInt 64 n &&& BitVec.ofInt 64 65535).toNat = (n % ((2 ^ 64 : Nat) : Int)).toNat % 2 ^ 16 := by
    rw [BitVec.toNat_and, BitVec.toNat_ofInt, hm, Nat.and_two_pow_sub_one_eq_mod]
  show IntKind.i64.wrap ((BitVec.ofInt 64 n &&& BitVec.ofInt 64 65535).toNat : Nat) = n % 65536
  rw [key, IntKind.wrap_i64]
  omega
theorem i64_and8191 (n : Int) : bits .and .i64 n 8191 = n % 8192 := by
  have hm : (BitVec.ofInt 64 8191).toNat = 2 ^ 13 - 1 := by decide
  have key : (BitVec.ofInt 64 n &&& BitVec.ofInt 64 8191).toNat = (n % ((2 ^ 64 : Nat) : Int)).toNat % 2 ^ 13 := by
    rw [BitVec.toNat_and, BitVec.toNat_ofInt, hm, Nat.and_two_pow_sub_one_eq_mod]
  show IntKind.i64.wrap ((BitVec.ofInt 64 n &&& BitVec.ofInt 64 8191).toNat : Nat) = n % 8192
  rw [key, IntKind.wrap_i64]
  omega
set_option maxHeartbeats 400000 in
theorem linet_any (a : Option Addr) (cap : Nat) (l : List Int) (w : World) (hl : l.length ≤ 1099511627776) (h : Bytes w a l) :
    Calls Try.prog 17 #[.slice a l.length cap] w fun e w' => e = .returned (.int .u16 (65535 - inetFold (wsum 0 l))) ∧ w' = w := by
  have HB := hid h
  clear h
  have hfin := wsum_bd 0 l HB.out.isB
  obtain ⟨n, hn⟩ : ∃ n, l.length = n := ⟨_, rfl⟩
  have HN := hid hn
  rw [hn] at hl hfin ⊢
  clear hn
  go_enter Try.func17, Try.ntmps17
  go_wp2
  go_loop [3, 4] (fun s i => ∃ k : Nat, k ≤ n ∧ i = .int .i64 k ∧ s = .int .i64 (wsum 0 (l.take k))) (fun _ i => n - (intOf i).toNat)
  case atStart => exact ⟨0, Nat.zero_le _, rfl, rfl⟩
  case round =>
    obtain ⟨k, hk, rfl, rfl⟩ := hrel
    by_cases hlt : k < n
    · have hkl : k < l.length := by rw [HN.out]; exact hlt
      have hs := wsum_bd 0 (l.take k) (fun x hx => HB.out.isB x (List.mem_of_mem_take hx))
      have hlk : (l.take k).length = k := by rw [List.length_take]; omega
      rw [hlk] at hs
      obtain ⟨b, off, rfl, hcs⟩ := HB.out.open_ (by omega)
      have hc := hcs k hkl
      have hx := mem_getD l IsB HB.out.isB k hkl
      have hu := take_snoc l k hkl
      generalize l.getD k 0 = c at *
      unfold IsB at hx
      have hs0 := hs.1
      have hs1 : wsum 0 (l.take k) ≤ 71776119061217280 := by omega
      by_cases hpar : k % 2 = 0
      · have e1 := wsum_even (l.take k) c (by rw [hlk]; exact hpar)
        rw [← hu] at e1
        generalize wsum 0 (l.take k) = s at *
        have H1 := hid e1
        have hd : ((k : Int) % 2 == 0) = true := by simp; omega
        clear e1 hu hs hlk hcs hpar hfin
        go_wp2
        go_round
        case rel => exact ⟨k + 1, by omega, by go_num, by rw [H1.out]⟩
        case measure => simp [intOf]; omega
      · have e1 := wsum_odd (l.take k) c (by rw [hlk]; omega)
        rw [← hu] at e1
        generalize wsum 0 (l.take k) = s at *
        have H1 := hid e1
        have hd : ((k : Int) % 2 == 0) = false := by simp; omega
        clear e1 hu hs hlk hcs hpar hfin
        go_wp2
        go_round
        case rel => exact ⟨k + 1, by omega, by go_num, by rw [H1.out]⟩
        case measure => simp [intOf]; omega
    · have e : l.take k = l := List.take_of_length_le (by rw [HN.out]; omega)
      rw [e]
      have hS0 := hfin.1
      have hS1 : wsum 0 l < 9223372036854775808 := by omega
      obtain ⟨S, hSe⟩ : ∃ S, wsum 0 l = S := ⟨_, rfl⟩
      rw [hSe] at hS0 hS1 ⊢
      have HSe := hid hSe
      clear e hfin hSe
      go_wp2
      go_loop [3] (fun s => ∃ x : Int, 0 ≤ x ∧ x < 9223372036854775808 ∧ s = .int .i64 x ∧ Hid (inetFold x = inetFold S)) (fun s => (intOf s).toNat)
      case atStart => exact ⟨S, hS0, hS1, rfl, hid rfl⟩
      case round =>
        obtain ⟨x, hx0, hx1, rfl, hf⟩ := hrel
        by_cases hbig : x / 65536 = 0
        · have ht : (x / 65536 != 0) = false := by simp [hbig]
          have hx2 : x < 65536 := by omega
          clear hbig
          go_wp2
          go_ret
          refine ⟨ret_int ?_, rfl⟩
          rw [not_u16 x hx0 hx2, HSe.out, ← hf.out, inetFold_small x hx0 hx2]
        · have ht : (x / 65536 != 0) = true := by simp [hbig]
          have ea := i64_and65535 x
          have HF := hid ((inetFold_step x hx0).trans hf.out)
          clear hf
          go_wp2
          go_round
          case rel => exact ⟨_, by omega, by omega, rfl, HF⟩
          case measure => simp [intOf]; omega
theorem linet_at (a : Option Addr) (n cap : Nat) (l : List Int) (w : World) (hn : l.length = n) (hl : n ≤ 900000) (h : Bytes w a l) :
    Calls Try.prog 17 #[.slice a n cap] w fun e w' => e = .returned (.int .u16 (inetL l)) ∧ w' = w := by
  subst hn; exact linet_any a cap l w (by omega) h
theorem fold_add (T : Int) (h : 0 ≤ T) : inetFold (T + (65535 - inetFold T)) = 65535 := by
  have hf := inetFold_bd T h
  unfold inetFold at *
  split at hf <;> split <;> (try split) <;> omega
/-- The sum of bytes that bear their own sum is nought. -/
theorem inet_own (x y : Int) (r : List Int) (hx : IsB x) (hy : IsB y) (hr : ∀ z ∈ r, IsB z) : inetL ([x, y] ++ bytesBe 2 (inetL ([x, y] ++ r)) ++ r) = 0 := by
  have hI : ∀ z ∈ [x, y] ++ r, IsB z := by
    intro z hz
    simp only [List.cons_append, List.nil_append, List.mem_cons] at hz
    rcases hz with rfl | rfl | hz
    · exact hx
    · exact hy
    · exact hr z hz
  have hb := inetL_bd _ hI
  have h0 := (wsum_bd 0 _ hI).1
  have hf := fold_add _ h0
  have e : wsum 0 ([x, y] ++ bytesBe 2 (inetL ([x, y] ++ r)) ++ r) = wsum 0 ([x, y] ++ r) + inetL ([x, y] ++ r) := by
    generalize inetL ([x, y] ++ r) = I at *
    rw [be2]
    simp only [List.cons_append, List.nil_append, wsum]
    rw [show (0 + 1 + 1 + 1 + 1 : Nat) = 2 + 2 by rfl, wsum_par 2]
    simp only [Nat.zero_add, Nat.reduceAdd, Nat.reduceMod]
    simp
    omega
  show 65535 - inetFold (wsum 0 ([x, y] ++ bytesBe 2 (inetL ([x, y] ++ r)) ++ r)) = 0
  rw [e]
  unfold inetL at hf ⊢
  rw [hf]
  rfl
end Go.Proofs.Ytgdajplloamjcaa
