import Derived.Test.YtkmljnjikkmdhaaDoorRows
import Derived.Test.YtkmljnjikkmdhaaDoorWalkK
import Derived.Test.YtkmljnjikkmdhaaDoorMathS
import Derived.WalkKit
import Derived.WalkSpells
import Derived.WalkLawsBesides
import Derived.Deep.QuietTactic
import Derived.BigQuiet
/-
  What a turned bit does to both sums, and slices of the call's own of which one byte is stored: lemmas for NumCheck. No condition.
-/
namespace Go.Proofs.YtkmljnjikkmdhaaDoor
open Go.RowKit
set_option linter.unusedVariables false

theorem wpList_append_len {w : World} {ops : Array Oper} {rest : List Oper} {o : Oper} {a : Act} {Q : Exit → Act → World → Prop} (hgd : o.guard = none) (s x : Operand)
    (ho : o.op = .call { callee := .builtin .append, args := #[s, x], argTypes := #[22, 22] })
    (base : Nat) (v : Value) (l m : List Int) (hs : a.eval s = v) (hown : Own w base v l)
    (n : Nat) (hn : m.length = n) (ad : Option Addr) (cap : Nat) (hx : a.eval x = .slice ad n cap) (hm : Bytes w ad m) (hnil : ad = none → cap = 0)
    (hb : l.length + m.length ≤ 140737488455328) (hbase : base ≤ w.heap.size) (B : Nat) (w0 : World) (hB : B ≤ base) (hbel : Below B w0 w)
    (h : ∀ v' w', Hid (Own w' base v' (l ++ m)) → Below B w0 w' → wpList Tryd.prog ops Q rest (a.put o.dst v') w') : wpList Tryd.prog ops Q (o :: rest) a w := by
  subst hn
  exact wpList_append_bytes hgd s x ho base v l m hs hown ad cap hx hm hnil hb hbase B w0 hB hbel h
theorem own_set {w : World} {base g n cap k : Nat} {l : List Int} {y : Int} (h : Own w base (.slice (some ⟨g, 0, none⟩) n cap) l) (hk : k < l.length) : Own (w.setCell ⟨g, k, none⟩ (.int .u8 y)) base (.slice (some ⟨g, 0, none⟩) n cap) (l.set k y) := by
  obtain ⟨h1, h2⟩ := h
  rcases h2 with ⟨h2, _⟩ | ⟨g', cap', cur, hv, hg, hh, hn, hc, hs, ht⟩
  · cases h2
  · simp only [Value.slice.injEq, Option.some.injEq, Addr.mk.injEq] at hv
    obtain ⟨⟨rfl, _⟩, rfl, rfl⟩ := hv
    refine ⟨by simp, .inr ⟨g, cap, cur.setIfInBounds k (.int .u8 y), by simp, hg, ?_, by simpa using hn, hc, by simpa using hs, ?_⟩⟩
    · simp [World.setCell, Array.getElem?_modify, hh]
    · simp only [List.length_set, Nat.mul_one] at *
      rw [Array.toList_setIfInBounds, List.take_set, ht]
      simp
theorem own_cell {w : World} {base g n cap k : Nat} {l : List Int} (h : Own w base (.slice (some ⟨g, 0, none⟩) n cap) l) (hk : k < l.length) : w.cell? ⟨g, k, none⟩ = some (.int .u8 (l.getD k 0)) ∧ w.frozen? ⟨g, k, none⟩ = false ∧ base ≤ g ∧ n = l.length ∧ n ≤ cap := by
  obtain ⟨h1, h2⟩ := h
  rcases h2 with ⟨h2, _⟩ | ⟨g', cap', cur, hv, hg, hh, hn, hc, hs, ht⟩
  · cases h2
  · simp only [Value.slice.injEq, Option.some.injEq, Addr.mk.injEq] at hv
    obtain ⟨⟨rfl, _⟩, rfl, rfl⟩ := hv
    have hi2 : k < cur.size := by omega
    have e := congrArg (fun q => q[k]?) ht
    simp [hk, hi2] at e
    refine ⟨?_, by simp [World.frozen?, hh], hg, rfl, hn⟩
    simp [World.cell?, hh, hi2, e, List.getD, hk]
theorem own_form {w : World} {base : Nat} {v : Value} {l : List Int} (h : Own w base v l) (hp : 0 < l.length) : ∃ g cap, v = .slice (some ⟨g, 0, none⟩) l.length cap := by
  rcases h.2 with ⟨_, h0⟩ | ⟨g, cap, _, hv, _⟩
  · omega
  · exact ⟨g, cap, hv⟩
theorem own_open {w : World} {base : Nat} {v : Value} {C : List Int} {N : Nat} (h : Own w base v ([] ++ C)) (hN : C.length = N) (hp : 0 < N) : ∃ g cap, v = .slice (some ⟨g, 0, none⟩) N cap ∧ Own w base (.slice (some ⟨g, 0, none⟩) N cap) C ∧ base ≤ g ∧ N ≤ cap ∧ ∀ k, k < N → w.cell? ⟨g, k, none⟩ = some (.int .u8 (C.getD k 0)) ∧ w.frozen? ⟨g, k, none⟩ = false := by
  subst hN
  rw [List.nil_append] at h
  obtain ⟨g, cap, rfl⟩ := own_form h hp
  have h0 := own_cell h hp
  exact ⟨g, cap, rfl, h, h0.2.2.1, h0.2.2.2.2, fun k hk => ⟨(own_cell h hk).1, (own_cell h hk).2.1⟩⟩
theorem flat1 (l : List Int) : [l].flatten = l := by simp
theorem inet_one (a : Option Addr) (cap : Nat) (l : List Int) (w : World) (hl : l.length ≤ 1099511627776) (h : RowsOf w a [l]) :
    Calls Tryd.prog 21 #[.slice a 1 cap] w fun e w' => e = .returned (.int .u16 (65535 - inetFold (wsum 0 l))) ∧ w' = w := by
  have := inet_any a cap [l] w (by simp) (by rw [flat1]; exact hl) h
  rw [flat1] at this
  exact this
theorem crc_one (a : Option Addr) (cap : Nat) (l : List Int) (w : World) (hl : l.length ≤ 1099511627776) (h : RowsOf w a [l]) (hT : Tab w) :
    Calls Tryd.prog 20 #[.slice a 1 cap] w fun e w' => e = .returned (.int .u32 (4294967295 - crcOn 4294967295 l)) ∧ w' = w := by
  have := crc_any a cap [l] w (by simp) (by rw [flat1]; exact hl) h hT
  rw [flat1] at this
  exact this
theorem outBe_one (r : List Int) (v : Int) : outBe r 2 [v] = r ++ [v / 256 % 256, v % 256] := by
  simp [outBe, bytesBe, List.range, List.range.loop]
theorem row_bytes {w : World} {g N : Nat} {l : List Int} (h : w.rowIs g 5 N (fun i => .int .u8 (l.getD i 0))) (hN : l.length ≤ N) (hl : ∀ x ∈ l, IsB x) : Bytes w (some ⟨g, 0, none⟩) l :=
  Bytes.mk_ hl fun i hi => by rw [Nat.zero_add]; exact h.cell (by omega)
/-- An even row behind which its own sum is put sums to nought. -/
theorem inet_nought (r : List Int) (hr : ∀ x ∈ r, IsB x) (he : r.length % 2 = 0) (I : Int) (hI : I = 65535 - inetFold (wsum 0 r)) : inetFold (wsum 0 (r ++ [I / 256 % 256, I % 256])) = 65535 := by
  have hb := wsum_bd 0 r hr
  have hf := inetFold_bd (wsum 0 r) hb.1
  rw [wsum_append]
  have e : wsum (0 + r.length) [I / 256 % 256, I % 256] = I := by
    simp [wsum, he, show (r.length + 1) % 2 = 1 by omega]; omega
  rw [e, hI]
  generalize wsum 0 r = S at *
  unfold inetFold at *
  split at hf <;> split <;> (try split) <;> omega

theorem shl_fact (bit : Int) : ∃ t : Nat, t < 8 ∧ ∀ w : World, (Op.shift .shl .u8 1 .u64 ((IntKind.u64.wrap bit).tmod 8)).run Tryd.prog w = .ok (.int .u8 (2 ^ t)) w := by
  have h0 : (IntKind.u64.wrap bit).tmod 8 = IntKind.u64.wrap bit % 8 := by
    rw [IntKind.wrap_u64]
    exact Int.tmod_eq_emod_of_nonneg (Int.emod_nonneg _ (by decide))
  rw [h0]
  obtain ⟨t, ht⟩ : ∃ t : Nat, IntKind.u64.wrap bit % 8 = t := Int.eq_ofNat_of_zero_le (Int.emod_nonneg _ (by decide))
  have ht8 : t < 8 := by omega
  refine ⟨t, ht8, fun w => ?_⟩
  rw [ht]
  rcases (show t = 0 ∨ t = 1 ∨ t = 2 ∨ t = 3 ∨ t = 4 ∨ t = 5 ∨ t = 6 ∨ t = 7 by omega) with rfl | rfl | rfl | rfl | rfl | rfl | rfl | rfl <;> kernel_rfl
theorem xor_nat_bit : ∀ x, x < 256 → ∀ t, t < 8 → (x ^^^ 2 ^ t = x + 2 ^ t ∨ (x ^^^ 2 ^ t) + 2 ^ t = x) ∧ x ^^^ 2 ^ t < 256 := by decide +kernel
theorem xor_bit (x : Int) (t : Nat) (hx : IsB x) (ht : t < 8) : ∃ y : Int, bits .xor .u8 x (2 ^ t) = y ∧ IsB y ∧ (y = x + 2 ^ t ∨ y = x - 2 ^ t) := by
  unfold IsB at *
  have h := xor_nat_bit x.toNat (by omega) t ht
  have e : ((2 : Int) ^ t) = ((2 ^ t : Nat) : Int) := by simp
  have hp : (2 ^ t : Nat) < 256 := by
    rcases (show t = 0 ∨ t = 1 ∨ t = 2 ∨ t = 3 ∨ t = 4 ∨ t = 5 ∨ t = 6 ∨ t = 7 by omega) with rfl | rfl | rfl | rfl | rfl | rfl | rfl | rfl <;> decide
  rw [e]
  generalize 2 ^ t = p at *
  refine ⟨_, rfl, ?_⟩
  rw [u8_xor x p hx.1 hx.2 (by omega) (by omega)]
  rw [show (p : Int).toNat = p by omega]
  omega
theorem wsum_turn (l m : List Int) (c d : Int) : wsum 0 (l ++ d :: m) = wsum 0 (l ++ c :: m) + (d - c) * (if l.length % 2 = 0 then 256 else 1) := by
  rw [wsum_append, wsum_append]
  simp only [wsum, Nat.zero_add]
  split <;> omega
theorem fold_turn (S : Int) (p : Int) (j : Nat) (hj : j < 16) (h : inetFold S = 65535) (h0 : 0 ≤ S) (hp : p = 2 ^ j ∨ p = -(2 ^ j)) (hS : 0 ≤ S + p) : inetFold (S + p) ≠ 65535 := by
  have hq : ∃ q : Int, (2 : Int) ^ j = q ∧ 1 ≤ q ∧ q ≤ 32768 := by
    rcases (show j = 0 ∨ j = 1 ∨ j = 2 ∨ j = 3 ∨ j = 4 ∨ j = 5 ∨ j = 6 ∨ j = 7 ∨ j = 8 ∨ j = 9 ∨ j = 10 ∨ j = 11 ∨ j = 12 ∨ j = 13 ∨ j = 14 ∨ j = 15 by omega) with rfl | rfl | rfl | rfl | rfl | rfl | rfl | rfl | rfl | rfl | rfl | rfl | rfl | rfl | rfl | rfl <;> exact ⟨_, rfl, by decide, by decide⟩
  obtain ⟨q, hq, h1, h2⟩ := hq
  rw [hq] at hp
  unfold inetFold at *
  split at h <;> split <;> omega
theorem set_split (C : List Int) (k : Nat) (y : Int) (hk : k < C.length) : C = C.take k ++ C.getD k 0 :: C.drop (k + 1) ∧ C.set k y = C.take k ++ y :: C.drop (k + 1) := by
  have e : C.getD k 0 = C[k] := by simp [List.getD, hk]
  constructor
  · rw [e, ← List.drop_eq_getElem_cons hk, List.take_append_drop]
  · exact List.set_eq_take_append_cons_drop.trans (if_pos hk)
theorem turned (C : List Int) (k t : Nat) (y : Int) (hk : k < C.length) (hC : ∀ x ∈ C, IsB x) (ht : t < 8) (hy : IsB y) (hyx : y = C.getD k 0 + 2 ^ t ∨ y = C.getD k 0 - 2 ^ t) (h0 : inetFold (wsum 0 C) = 65535) :
    (65535 - inetFold (wsum 0 (C.set k y)) != 0) = true ∧ (4294967295 - crcOn 4294967295 (C.set k y) != 4294967295 - crcOn 4294967295 C) = true ∧ (∀ x ∈ C.set k y, IsB x) := by
  obtain ⟨e1, e2⟩ := set_split C k y hk
  have hset : ∀ x ∈ C.set k y, IsB x := by
    intro x hx
    rcases List.mem_or_eq_of_mem_set hx with h | h
    · exact hC x h
    · rw [h]; exact hy
  have hl : (C.take k).length = k := by rw [List.length_take]; omega
  have hx := mem_getD C IsB hC k hk
  have hw0 := wsum_bd 0 C hC
  have hw1 := wsum_bd 0 _ hset
  have hT := wsum_turn (C.take k) (C.drop (k + 1)) (C.getD k 0) y
  have hcr := crcOn_turn (C.take k) (C.drop (k + 1)) y (C.getD k 0) 4294967295 (by unfold IsU; decide) (fun x hx => hC x (List.mem_of_mem_take hx)) (fun x hx => hC x (List.mem_of_mem_drop hx)) hy hx (by
    have : (0 : Int) < 2 ^ t := Int.pow_pos (by decide)
    omega)
  rw [← e1, ← e2] at hT hcr
  refine ⟨?_, ?_, hset⟩
  · rw [bne_iff_ne]
    have hne : inetFold (wsum 0 (C.set k y)) ≠ 65535 := by
      rw [hl] at hT
      by_cases hp : k % 2 = 0
      · rw [if_pos hp] at hT
        have e3 : (y - C.getD k 0) * 256 = 2 ^ (t + 8) ∨ (y - C.getD k 0) * 256 = -(2 ^ (t + 8)) := by rw [Int.pow_add]; omega
        rw [hT] at hw1 ⊢
        exact fold_turn _ _ (t + 8) (by omega) h0 hw0.1 e3 hw1.1
      · rw [if_neg hp] at hT
        have e3 : (y - C.getD k 0) * 1 = 2 ^ t ∨ (y - C.getD k 0) * 1 = -(2 ^ t) := by omega
        rw [hT] at hw1 ⊢
        exact fold_turn _ _ t (by omega) h0 hw0.1 e3 hw1.1
    omega
  · rw [bne_iff_ne]
    omega
theorem putBe_at2 (a a2 : Option Addr) (cap cap2 k n : Nat) (b l : List Int) (w : World) (hk : b.length = k) (hb : b.length ≤ 140737488351232) (hl : l.length ≤ 1099511627776) (h : Bytes w a b) (h2 : Words w a2 l) (hn : widB n = true) (hf : fitsB n l = true) :
    Calls Tryd.prog 17 #[.slice a k cap, .int .i64 n, .slice a2 l.length cap2] w fun e w' => e = .returned (.tuple #[.slice (some ⟨w.heap.size, 0, none⟩) (k + n * l.length) (k + n * l.length), .int .i64 0]) ∧
      Below w.heap.size w w' ∧ w'.heap.size = w.heap.size + 1 ∧ w'.rowIs w.heap.size 5 (k + n * l.length) (fun i => .int .u8 ((outBe b n l).getD i 0)) := by
  subst hk; exact putBe_yes a a2 cap cap2 n b l w hb hl h h2 hn hf
end Go.Proofs.YtkmljnjikkmdhaaDoor
