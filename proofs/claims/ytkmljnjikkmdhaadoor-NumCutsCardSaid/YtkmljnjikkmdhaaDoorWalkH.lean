import Derived.Test.YtkmljnjikkmdhaaDoorRows
import Derived.Test.YtkmljnjikkmdhaaDoorWalkG
import Derived.WalkKit
import Derived.WalkSpells
import Derived.WalkLawsBesides
import Derived.Deep.QuietTactic
import Derived.BigQuiet
/-
  The walk of num.Inet: of any rows of bytes it returns the complement of the folded sum of all their bytes as numbers of two bytes, one row behind the other; nothing is changed. Condition: at most 2^40 bytes together.
-/
namespace Go.Proofs.YtkmljnjikkmdhaaDoor
open Go.RowKit
set_option linter.unusedVariables false

/-- Bytes as numbers of two bytes, the highest first, added up. -/
def wsum : Nat → List Int → Int
  | _, [] => 0
  | n, x :: l => (if n % 2 = 0 then 256 * x else x) + wsum (n + 1) l
theorem wsum_append (n : Nat) (l m : List Int) : wsum n (l ++ m) = wsum n l + wsum (n + l.length) m := by
  induction l generalizing n with
  | nil => simp [wsum]
  | cons x l ih =>
    simp only [List.cons_append, wsum, ih, List.length_cons]
    rw [show n + (l.length + 1) = n + 1 + l.length by omega]
    omega
theorem wsum_bd (n : Nat) (l : List Int) (hl : ∀ x ∈ l, IsB x) : 0 ≤ wsum n l ∧ wsum n l ≤ 65280 * l.length := by
  induction l generalizing n with
  | nil => simp [wsum]
  | cons x l ih =>
    have h1 := ih (n + 1) (fun y hy => hl y (by simp [hy]))
    have h2 := hl x (by simp)
    unfold IsB at h2
    simp only [wsum, List.length_cons]
    split <;> omega
theorem wsum_even (l : List Int) (x : Int) (h : l.length % 2 = 0) : wsum 0 (l ++ [x]) = wsum 0 l + x * 256 := by
  rw [wsum_append]; simp [wsum, h]; omega
theorem wsum_odd (l : List Int) (x : Int) (h : l.length % 2 = 1) : wsum 0 (l ++ [x]) = wsum 0 l + x := by
  rw [wsum_append]; simp [wsum, h]
/-- What is left when what overflows 16 bits has been added again. -/
def inetFold (s : Int) : Int := if s = 0 then 0 else (s - 1) % 65535 + 1
theorem inetFold_small (s : Int) (h0 : 0 ≤ s) (h : s < 65536) : inetFold s = s := by unfold inetFold; split <;> omega
theorem inetFold_step (s : Int) (h0 : 0 ≤ s) : inetFold (s % 65536 + s / 65536) = inetFold s := by unfold inetFold; split <;> split <;> omega
theorem inetFold_bd (s : Int) (h0 : 0 ≤ s) : 0 ≤ inetFold s ∧ inetFold s ≤ 65535 := by unfold inetFold; split <;> omega
theorem and65535 (v : Int) (h0 : 0 ≤ v) (h1 : v < 18446744073709551616) : bits .and .u64 v 65535 = v % 65536 := by
  rw [u64_and v 65535 h0 h1 (by decide) (by decide)]
  have : v.toNat &&& (65535 : Int).toNat = v.toNat % 65536 := Nat.and_two_pow_sub_one_eq_mod v.toNat 16
  rw [this]
  omega
theorem not_u16 (a : Int) (h0 : 0 ≤ a) (h1 : a < 65536) : bits .xor .u16 IntKind.u16.max a = 65535 - a := by
  have e : IntKind.u16.max = 65535 := by decide
  rw [e, u16_xor 65535 a (by decide) (by decide) h0 h1]
  have := not_xor 16 a.toNat (by omega)
  have e2 : (65535 : Int).toNat = 2 ^ 16 - 1 := by decide
  rw [e2, this]
  omega
def shiftAt (l : List Int) : Int := if l.length % 2 = 0 then 8 else 0

set_option maxHeartbeats 400000 in
theorem inet_any (a : Option Addr) (cap : Nat) (ls : List (List Int)) (w : World) (hl : ls.length ≤ 140737488355328) (htot : ls.flatten.length ≤ 1099511627776) (h : RowsOf w a ls) :
    Calls Tryd.prog 21 #[.slice a ls.length cap] w fun e w' => e = .returned (.int .u16 (65535 - inetFold (wsum 0 ls.flatten))) ∧ w' = w := by
  have HR := hid h
  have HI := hid h.isB
  clear h
  obtain ⟨n, hn⟩ : ∃ n, ls.length = n := ⟨_, rfl⟩
  have HN := hid hn
  rw [hn] at hl ⊢
  clear hn
  have hfin := wsum_bd 0 ls.flatten (by
    have := upTo_isB ls HI.out ls.length 0
    rw [upTo_end ls _ (Nat.le_refl _)] at this
    exact this)
  go_enter Tryd.func21, Tryd.ntmps21
  go_wp2
  go_loop [3, 4, 11] (fun s t i => ∃ k : Nat, k ≤ n ∧ i = .int .i64 k ∧ s = .int .u64 (wsum 0 (upTo ls k 0)) ∧ t = .int .u64 (shiftAt (upTo ls k 0))) (fun _ _ i => n - (intOf i).toNat)
  case atStart => exact ⟨0, Nat.zero_le _, rfl, rfl, rfl⟩
  case round =>
    obtain ⟨k, hk, rfl, rfl, rfl⟩ := hrel
    by_cases hlt : k < n
    · obtain ⟨b, off, ai, ci, rfl, hc, hB⟩ := HR.out k (by rw [HN.out]; exact hlt)
      have hlen : (ls.getD k []).length ≤ 1099511627776 := by
        have := upTo_len ls k (ls.getD k []).length
        unfold upTo at this
        simp only [List.length_append, List.length_take] at this
        omega
      have HBy := hid hB
      obtain ⟨m, hm⟩ : ∃ m, (ls.getD k []).length = m := ⟨_, rfl⟩
      have HM := hid hm
      rw [hm] at hc hlen
      clear hB hm hfin
      go_wp2
      go_loop [3, 4, 17] (fun s t i => ∃ j : Nat, j ≤ m ∧ i = .int .i64 j ∧ s = .int .u64 (wsum 0 (upTo ls k j)) ∧ t = .int .u64 (shiftAt (upTo ls k j))) (fun _ _ i => m - (intOf i).toNat)
      case atStart => exact ⟨0, Nat.zero_le _, rfl, rfl, rfl⟩
      case round =>
        obtain ⟨j, hj, rfl, rfl, rfl⟩ := hrel
        have hs := wsum_bd 0 _ (upTo_isB ls HI.out k j)
        have hul := upTo_len ls k j
        by_cases hjm : j < m
        · have hjl : j < (ls.getD k []).length := by rw [HM.out]; exact hjm
          obtain ⟨b2, off2, rfl, hcs⟩ := HBy.out.open_ (by omega)
          have hc2 := hcs j hjl
          have hx := mem_getD _ IsB HBy.out.isB j hjl
          have hu := upTo_snoc ls k j hjl
          generalize (ls.getD k []).getD j 0 = c at *
          unfold IsB at hx
          have hs0 := hs.1
          have hs1 : wsum 0 (upTo ls k j) ≤ 71776119061217280 := by omega
          by_cases hpar : (upTo ls k j).length % 2 = 0
          · have e1 := wsum_even (upTo ls k j) c hpar
            have e2 : shiftAt (upTo ls k j) = 8 := by simp [shiftAt, hpar]
            have e3 : shiftAt (upTo ls k (j + 1)) = 0 := by rw [hu]; simp [shiftAt]; omega
            rw [← hu] at e1
            rw [e2]
            generalize wsum 0 (upTo ls k j) = s at *
            have H1 := hid e1
            have H3 := hid e3
            clear e1 e2 e3 hu hs hul hcs hpar
            go_wp2
            go_round
            case rel => exact ⟨j + 1, by omega, by go_num, by rw [H1.out], by rw [H3.out]⟩
            case measure => simp [intOf]; omega
          · have e1 := wsum_odd (upTo ls k j) c (by omega)
            have e2 : shiftAt (upTo ls k j) = 0 := by simp [shiftAt, hpar]
            have e3 : shiftAt (upTo ls k (j + 1)) = 8 := by rw [hu]; simp [shiftAt]; omega
            rw [← hu] at e1
            rw [e2]
            generalize wsum 0 (upTo ls k j) = s at *
            have H1 := hid e1
            have H3 := hid e3
            clear e1 e2 e3 hu hs hul hcs hpar
            go_wp2
            go_round
            case rel => exact ⟨j + 1, by omega, by go_num, by rw [H1.out], by rw [H3.out]⟩
            case measure => simp [intOf]; omega
        · go_wp2
          go_round
          case rel => exact ⟨k + 1, by omega, by go_num, by rw [upTo_next ls k j (by rw [HN.out]; exact hlt) (by rw [HM.out]; omega)], by rw [upTo_next ls k j (by rw [HN.out]; exact hlt) (by rw [HM.out]; omega)]⟩
          case measure => simp [intOf]; omega
    · have e : upTo ls k 0 = ls.flatten := upTo_end ls k (by rw [HN.out]; omega)
      rw [e]
      have hS0 := hfin.1
      have hS1 : wsum 0 ls.flatten < 18446744073709551616 := by omega
      obtain ⟨S, hSe⟩ : ∃ S, wsum 0 ls.flatten = S := ⟨_, rfl⟩
      rw [hSe] at hS0 hS1 ⊢
      have HSe := hid hSe
      clear e hfin htot hSe
      go_wp2
      go_loop [3] (fun s => ∃ x : Int, 0 ≤ x ∧ x < 18446744073709551616 ∧ s = .int .u64 x ∧ Hid (inetFold x = inetFold S)) (fun s => (intOf s).toNat)
      case atStart => exact ⟨S, hS0, hS1, rfl, hid rfl⟩
      case round =>
        obtain ⟨x, hx0, hx1, rfl, hf⟩ := hrel
        by_cases hbig : x / 65536 = 0
        · have ht : (x / 65536 != 0) = false := by simp [hbig]
          have hx2 : x < 65536 := by omega
          clear hbig
          go_wp2
          go_ret
          refine ⟨ret_int ?_, rfl⟩
          rw [not_u16 x hx0 hx2, HSe.out, ← hf.out, inetFold_small x hx0 hx2]
        · have ht : (x / 65536 != 0) = true := by simp [hbig]
          have ea := and65535 x hx0 hx1
          have HF := hid ((inetFold_step x hx0).trans hf.out)
          clear hf
          go_wp2
          go_round
          case rel => exact ⟨_, by omega, by omega, rfl, HF⟩
          case measure => simp [intOf]; omega
end Go.Proofs.YtkmljnjikkmdhaaDoor
