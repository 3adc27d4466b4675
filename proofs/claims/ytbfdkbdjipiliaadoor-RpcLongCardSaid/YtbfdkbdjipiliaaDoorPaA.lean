/- The sum of the wire at this program: num.Inet and the document's Inet of any rows of bytes; what a turned bit does to it. -/
import Derived.Test.YtbfdkbdjipiliaaDoorEaA
import Derived.Test.YtbfdkbdjipiliaaDoorWaC
import Derived.WalkKit
import Derived.WalkSpells
import Derived.WalkLawsBesides
import Derived.Deep.QuietTactic
import Derived.BigQuiet
namespace Go.Proofs.YtbfdkbdjipiliaaDoor
open Go.RowKit
set_option linter.unusedVariables false
def wsum : Nat → List Int → Int
  | _, [] => 0
  | n, x :: l => (if n % 2 = 0 then 256 * x else x) + wsum (n + 1) l
theorem wsum_append (n : Nat) (l m : List Int) : wsum n (l ++ m) = wsum n l + wsum (n + l.length) m := by
  induction l generalizing n with
  | nil => simp [wsum]
  | cons x l ih =>
    simp only [List.cons_append, wsum, ih, List.length_cons]
    rw [show n + (l.length + 1) = n + 1 + l.length by omega]
    omega
theorem wsum_bd (n : Nat) (l : List Int) (hl : ∀ x ∈ l, IsB x) : 0 ≤ wsum n l ∧ wsum n l ≤ 65280 * l.length := by
  induction l generalizing n with
  | nil => simp [wsum]
  | cons x l ih =>
    have h1 := ih (n + 1) (fun y hy => hl y (by simp [hy]))
    have h2 := hl x (by simp)
    unfold IsB at h2
    simp only [wsum, List.length_cons]
    split <;> omega
theorem wsum_even (l : List Int) (x : Int) (h : l.length % 2 = 0) : wsum 0 (l ++ [x]) = wsum 0 l + x * 256 := by
  rw [wsum_append]; simp [wsum, h]; omega
theorem wsum_odd (l : List Int) (x : Int) (h : l.length % 2 = 1) : wsum 0 (l ++ [x]) = wsum 0 l + x := by
  rw [wsum_append]; simp [wsum, h]
def inetFold (s : Int) : Int := if s = 0 then 0 else (s - 1) % 65535 + 1
theorem inetFold_small (s : Int) (h0 : 0 ≤ s) (h : s < 65536) : inetFold s = s := by unfold inetFold; split <;> omega
theorem inetFold_step (s : Int) (h0 : 0 ≤ s) : inetFold (s % 65536 + s / 65536) = inetFold s := by unfold inetFold; split <;> split <;> omega
theorem inetFold_bd (s : Int) (h0 : 0 ≤ s) : 0 ≤ inetFold s ∧ inetFold s ≤ 65535 := by unfold inetFold; split <;> omega
theorem and65535 (v : Int) (h0 : 0 ≤ v) (h1 : v < 18446744073709551616) : bits .and .u64 v 65535 = v % 65536 := by
  rw [u64_and v 65535 h0 h1 (by decide) (by decide)]
  have : v.toNat &&& (65535 : Int).toNat = v.toNat % 65536 := Nat.and_two_pow_sub_one_eq_mod v.toNat 16
  rw [this]
  omega
theorem not_u16 (a : Int) (h0 : 0 ≤ a) (h1 : a < 65536) : bits .xor .u16 IntKind.u16.max a = 65535 - a := by
  have e : IntKind.u16.max = 65535 := by decide
  rw [e, u16_xor 65535 a (by decide) (by decide) h0 h1]
  have := not_xor 16 a.toNat (by omega)
  have e2 : (65535 : Int).toNat = 2 ^ 16 - 1 := by decide
  rw [e2, this]
  omega
def shiftAt (l : List Int) : Int := if l.length % 2 = 0 then 8 else 0
theorem flat1 (l : List Int) : [l].flatten = l := by simp
theorem outBe_one (r : List Int) (v : Int) : outBe r 2 [v] = r ++ [v / 256 % 256, v % 256] := by
  simp [outBe, bytesBe, List.range, List.range.loop]
theorem inet_nought (r : List Int) (hr : ∀ x ∈ r, IsB x) (he : r.length % 2 = 0) (I : Int) (hI : I = 65535 - inetFold (wsum 0 r)) : inetFold (wsum 0 (r ++ [I / 256 % 256, I % 256])) = 65535 := by
  have hb := wsum_bd 0 r hr
  have hf := inetFold_bd (wsum 0 r) hb.1
  rw [wsum_append]
  have e : wsum (0 + r.length) [I / 256 % 256, I % 256] = I := by
    simp [wsum, he, show (r.length + 1) % 2 = 1 by omega]; omega
  rw [e, hI]
  generalize wsum 0 r = S at *
  unfold inetFold at *
  split at hf <;> split <;> (try split) <;> omega
theorem shl_fact (bit : Int) : ∃ t : Nat, t < 8 ∧ ∀ w : World, (Op.shift .shl .u8 1 .u64 ((IntKind.u64.wrap bit).tmod 8)).run Tryd.prog w = .ok (.int .u8 (2 ^ t)) w := by
  have h0 : (IntKind.u64.wrap bit).tmod 8 = IntKind.u64.wrap bit % 8 := by
    rw [IntKind.wrap_u64]
    exact Int.tmod_eq_emod_of_nonneg (Int.emod_nonneg _ (by decide))
  rw [h0]
  obtain ⟨t, ht⟩ : ∃ t : Nat, IntKind.u64.wrap bit % 8 = t := Int.eq_ofNat_of_zero_le (Int.emod_nonneg _ (by decide))
  have ht8 : t < 8 := by omega
  refine ⟨t, ht8, fun w => ?_⟩
  rw [ht]
  rcases (show t = 0 ∨ t = 1 ∨ t = 2 ∨ t = 3 ∨ t = 4 ∨ t = 5 ∨ t = 6 ∨ t = 7 by omega) with rfl | rfl | rfl | rfl | rfl | rfl | rfl | rfl <;> kernel_rfl
theorem xor_nat_bit : ∀ x, x < 256 → ∀ t, t < 8 → (x ^^^ 2 ^ t = x + 2 ^ t ∨ (x ^^^ 2 ^ t) + 2 ^ t = x) ∧ x ^^^ 2 ^ t < 256 := by decide +kernel
theorem xor_bit (x : Int) (t : Nat) (hx : IsB x) (ht : t < 8) : ∃ y : Int, bits .xor .u8 x (2 ^ t) = y ∧ IsB y ∧ (y = x + 2 ^ t ∨ y = x - 2 ^ t) := by
  unfold IsB at *
  have h := xor_nat_bit x.toNat (by omega) t ht
  have e : ((2 : Int) ^ t) = ((2 ^ t : Nat) : Int) := by simp
  have hp : (2 ^ t : Nat) < 256 := by
    rcases (show t = 0 ∨ t = 1 ∨ t = 2 ∨ t = 3 ∨ t = 4 ∨ t = 5 ∨ t = 6 ∨ t = 7 by omega) with rfl | rfl | rfl | rfl | rfl | rfl | rfl | rfl <;> decide
  rw [e]
  generalize 2 ^ t = p at *
  refine ⟨_, rfl, ?_⟩
  rw [u8_xor x p hx.1 hx.2 (by omega) (by omega)]
  rw [show (p : Int).toNat = p by omega]
  omega
theorem wsum_turn (l m : List Int) (c d : Int) : wsum 0 (l ++ d :: m) = wsum 0 (l ++ c :: m) + (d - c) * (if l.length % 2 = 0 then 256 else 1) := by
  rw [wsum_append, wsum_append]
  simp only [wsum, Nat.zero_add]
  split <;> omega
theorem fold_turn (S : Int) (p : Int) (j : Nat) (hj : j < 16) (h : inetFold S = 65535) (h0 : 0 ≤ S) (hp : p = 2 ^ j ∨ p = -(2 ^ j)) (hS : 0 ≤ S + p) : inetFold (S + p) ≠ 65535 := by
  have hq : ∃ q : Int, (2 : Int) ^ j = q ∧ 1 ≤ q ∧ q ≤ 32768 := by
    rcases (show j = 0 ∨ j = 1 ∨ j = 2 ∨ j = 3 ∨ j = 4 ∨ j = 5 ∨ j = 6 ∨ j = 7 ∨ j = 8 ∨ j = 9 ∨ j = 10 ∨ j = 11 ∨ j = 12 ∨ j = 13 ∨ j = 14 ∨ j = 15 by omega) with rfl | rfl | rfl | rfl | rfl | rfl | rfl | rfl | rfl | rfl | rfl | rfl | rfl | rfl | rfl | rfl <;> exact ⟨_, rfl, by decide, by decide⟩
  obtain ⟨q, hq, h1, h2⟩ := hq
  rw [hq] at hp
  unfold inetFold at *
  split at h <;> split <;> omega
theorem set_split (C : List Int) (k : Nat) (y : Int) (hk : k < C.length) : C = C.take k ++ C.getD k 0 :: C.drop (k + 1) ∧ C.set k y = C.take k ++ y :: C.drop (k + 1) := by
  have e : C.getD k 0 = C[k] := by simp [List.getD, hk]
  constructor
  · rw [e, ← List.drop_eq_getElem_cons hk, List.take_append_drop]
  · exact List.set_eq_take_append_cons_drop.trans (if_pos hk)
theorem turned (C : List Int) (k t : Nat) (y : Int) (hk : k < C.length) (hC : ∀ x ∈ C, IsB x) (ht : t < 8) (hy : IsB y) (hyx : y = C.getD k 0 + 2 ^ t ∨ y = C.getD k 0 - 2 ^ t) (h0 : inetFold (wsum 0 C) = 65535) :
    (65535 - inetFold (wsum 0 (C.set k y)) != 0) = true ∧ (∀ x ∈ C.set k y, IsB x) := by
  obtain ⟨e1, e2⟩ := set_split C k y hk
  have hset : ∀ x ∈ C.set k y, IsB x := by
    intro x hx
    rcases List.mem_or_eq_of_mem_set hx with h | h
    · exact hC x h
    · rw [h]; exact hy
  have hl : (C.take k).length = k := by rw [List.length_take]; omega
  have hx := mem_getD C IsB hC k hk
  have hw0 := wsum_bd 0 C hC
  have hw1 := wsum_bd 0 _ hset
  have hT := wsum_turn (C.take k) (C.drop (k + 1)) (C.getD k 0) y
  rw [← e1, ← e2] at hT
  refine ⟨?_, hset⟩
  · rw [bne_iff_ne]
    have hne : inetFold (wsum 0 (C.set k y)) ≠ 65535 := by
      rw [hl] at hT
      by_cases hp : k % 2 = 0
      · rw [if_pos hp] at hT
        have e3 : (y - C.getD k 0) * 256 = 2 ^ (t + 8) ∨ (y - C.getD k 0) * 256 = -(2 ^ (t + 8)) := by rw [Int.pow_add]; omega
        rw [hT] at hw1 ⊢
        exact fold_turn _ _ (t + 8) (by omega) h0 hw0.1 e3 hw1.1
      · rw [if_neg hp] at hT
        have e3 : (y - C.getD k 0) * 1 = 2 ^ t ∨ (y - C.getD k 0) * 1 = -(2 ^ t) := by omega
        rw [hT] at hw1 ⊢
        exact fold_turn _ _ t (by omega) h0 hw0.1 e3 hw1.1
    omega
set_option maxHeartbeats 400000 in
theorem writeHigh_1 (g N cap : Nat) (L : List Int) (v : Int) (hv : IsW v) (w : World) (hr : w.rowIs g 5 N (fun i => .int .u8 (L.getD i 0))) (hN : L.length + 1 ≤ N) :
    Calls Tryd.prog 62 #[.slice (some ⟨g, L.length, none⟩) 1 cap, .int .u64 v] w fun e w' => e = .returned (.tuple #[]) ∧ Below g w w' ∧ w'.heap.size = w.heap.size ∧
      w'.rowIs g 5 N (fun i => .int .u8 ((L ++ bytesBe 1 v).getD i 0)) := by
  unfold IsW at hv
  have HR := hid hr
  obtain ⟨p, hp⟩ : ∃ p, L.length = p := ⟨_, rfl⟩
  rw [hp] at hN ⊢
  obtain ⟨x0, c0⟩ : ∃ x, w.cell? ⟨g, p, none⟩ = some x := ⟨_, hr.cell (i := p) (by omega)⟩
  have f0 := hr.frozen (p)
  have HP := hid hp
  clear hp hr
  go_enter Tryd.func62, Tryd.ntmps62
  go_wp2
  go_end0
  refine ⟨rfl, (below_set (Below.refl _ _) _), by simp [World.setCell], (HR.out.set (p) _).congr fun i hi => ?_⟩
  rw [getD_app, HP.out]
  by_cases h1 : i < p
  · rw [if_pos h1]
    simp only [show ¬ i = p by omega, if_false]
  · rw [if_neg h1]
    obtain ⟨j, rfl⟩ : ∃ j, i = p + j := ⟨i - p, by omega⟩
    rw [Nat.add_sub_cancel_left]
    by_cases h2 : j < 1
    · rw [getD_be 1 v j h2]
      rcases (show j = 0 by omega) with rfl <;> first | (simp; done) | (simp; omega)
    · rw [getD_out (bytesBe 1 v) j (by rw [len_be]; omega), getD_out L (p + j) (by rw [HP.out]; omega)]
      simp only [show ¬ p + j = p by omega, if_false]
theorem writeHigh_at1 (g N cap p : Nat) (L : List Int) (v : Int) (hv : IsW v) (w : World) (hr : w.rowIs g 5 N (fun i => .int .u8 (L.getD i 0))) (hp : L.length = p) (hN : p + 1 ≤ N) :
    Calls Tryd.prog 62 #[.slice (some ⟨g, p, none⟩) 1 cap, .int .u64 v] w fun e w' => e = .returned (.tuple #[]) ∧ Below g w w' ∧ w'.heap.size = w.heap.size ∧
      w'.rowIs g 5 N (fun i => .int .u8 ((L ++ bytesBe 1 v).getD i 0)) := by
  subst hp; exact writeHigh_1 g N cap L v hv w hr hN
set_option maxHeartbeats 400000 in
theorem putBe_1 (a a2 : Option Addr) (cap cap2 : Nat) (b l : List Int) (w : World) (hb : b.length ≤ 140737488351232) (hl : l.length ≤ 1099511627776) (h : Bytes w a b) (h2 : Words w a2 l) (hf : fitsB 1 l = true) :
    Calls Tryd.prog 50 #[.slice a b.length cap, .int .i64 1, .slice a2 l.length cap2] w fun e w' => e = .returned (.tuple #[.slice (some ⟨w.heap.size, 0, none⟩) (b.length + 1 * l.length) (b.length + 1 * l.length), .int .i64 0]) ∧
      Below w.heap.size w w' ∧ w'.heap.size = w.heap.size + 1 ∧ w'.rowIs w.heap.size 5 (b.length + 1 * l.length) (fun i => .int .u8 ((outBe b 1 l).getD i 0)) := by
  have HF := hid hf
  have HB := hid h
  have HW := hid h2
  clear hf h h2
  obtain ⟨ll, hll⟩ : ∃ ll, l.length = ll := ⟨_, rfl⟩
  have HL := hid hll
  go_enter Tryd.func50, Tryd.ntmps50
  go_wp2_with fail
  refine (isWidth_any _ _).mono ?_
  rintro e w' ⟨rfl, rfl⟩
  rw [show widB 1 = true from rfl]
  go_wp2_with fail
  rw [← hll]
  clear hll
  refine (allFit_1 _ _ _ _ (by omega) HW.out).mono ?_
  rintro e w' ⟨rfl, rfl⟩
  rw [HF.out, HL.out]
  rw [HL.out] at hl
  go_wp2_with fail
  refine (grown_int _ _ _ _ (1 * ll) _ (by omega) (by omega) (by omega) HB.out).mono ?_
  rintro e w1 ⟨rfl, hb1, hs1, hr1⟩
  have HB1 := hid hb1
  have HS1 := hid hs1
  have HR1 := hid hr1
  clear hb1 hs1 hr1
  go_wp2
  go_loopw [29] (fun i wr => ∃ k : Nat, k ≤ ll ∧ i = .int .i64 k ∧ Below w'.heap.size w' wr ∧ wr.heap.size = w'.heap.size + 1 ∧ wr.rowIs w'.heap.size 5 (b.length + 1 * ll) (fun i => .int .u8 ((outBe b 1 (l.take k)).getD i 0))) (fun i _ => ll - (intOf i).toNat)
  case atStart => exact ⟨0, Nat.zero_le _, rfl, HB1.out, HS1.out, HR1.out.congr fun i _ => by simp [outBe]⟩
  case round =>
    obtain ⟨k, hk, rfl, hb2, hs2, hr2⟩ := hrel
    have HB2 := hid hb2
    have HZ := hid hs2
    have HR2 := hid hr2
    clear HB1 HS1 HR1 hs2 hr2
    by_cases hlt : k < ll
    · have hkl : k < l.length := by rw [HL.out]; exact hlt
      obtain ⟨b2, off2, rfl, hcs⟩ := (HW.out.later hb2).open_ (by omega)
      have hc := hcs k hkl
      have hx := mem_getD l IsW HW.out.isW k hkl
      have HO := hid (outBe_snoc b 1 l k hkl)
      have HLL := hid (show (outBe b 1 (l.take k)).length = b.length + 1 * k by rw [outBe_len, List.length_take, Nat.min_eq_left (by omega)])
      generalize l.getD k 0 = x at *
      clear hcs hb2
      go_wp2_with fail
      refine (writeHigh_at1 _ _ _ _ _ _ hx _ HR2.out (by rw [HLL.out]; omega) (by omega)).mono ?_
      rintro e w2 ⟨rfl, hb3, hs3, hr3⟩
      have HB3 := hid hb3
      have HS3 := hid hs3
      have HR3 := hid hr3
      clear hb3 hs3 hr3
      go_wp2
      go_roundw
      case rel => exact ⟨k + 1, by omega, by go_num, HB2.out.trans HB3.out, HS3.out.trans HZ.out, by rw [HO.out]; exact HR3.out⟩
      case measure => simp [intOf]; omega
    · go_wp2
      go_ret2
      have e : l.take k = l := List.take_of_length_le (by rw [HL.out]; omega)
      rw [e] at HR2
      rw [Nat.one_mul] at HR2
      rw [HL.out, Nat.one_mul]
      exact ⟨rfl, HB2.out, HZ.out, HR2.out⟩
theorem be_back_1 (u : Int) (h0 : 0 ≤ u) (h1 : u < 256) : beOf (bytesBe 1 u) = u := by
  simp [bytesBe, beOf, beOn, List.range, List.range.loop]; omega
theorem rows_at1 {w : World} {X m c : Nat} {a : Option Addr} {l : List Int} (hc : w.cell? ⟨X, 0, none⟩ = some (.slice a m c)) (hm : l.length = m) (hB : Bytes w a l) : RowsOf w (some ⟨X, 0, none⟩) [l] := by
  subst hm
  intro i hi
  obtain rfl : i = 0 := by simp at hi; omega
  exact ⟨X, 0, a, c, rfl, hc, hB⟩
end Go.Proofs.YtbfdkbdjipiliaaDoor
