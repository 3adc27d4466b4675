/- DrcKeys: what is pure; bytes as a row of one's own. -/
import Derived.Test.YthgmghfegaemkaaDoorQdA
import Derived.Test.YthgmghfegaemkaaDoorQdB
namespace Go.Proofs.YthgmghfegaemkaaDoor
open Go.RowKit Go.Maps
set_option linter.unusedVariables false

theorem sum_turn (l : List Int) (hl : ∀ x ∈ l, IsB x) (j : Nat) (hj : j < l.length) (y : Int) (hy : IsB y) (hne : y ≠ l.getD j 0) : sumOf (l.set j y) ≠ sumOf l := by
  have e1 : l.getD j 0 = l[j] := by simp [List.getD, hj]
  rw [e1] at hne
  have e2 : l = l.take j ++ l[j] :: l.drop (j + 1) := by rw [List.getElem_cons_drop, List.take_append_drop]
  have e3 : l.set j y = l.take j ++ y :: l.drop (j + 1) := List.set_eq_take_append_cons_drop.trans (by rw [if_pos hj])
  have h := crcOn_turn (l.take j) (l.drop (j + 1)) y l[j] 4294967295 (by unfold IsU; omega) (fun x hx => hl x (List.mem_of_mem_take hx)) (fun x hx => hl x (List.mem_of_mem_drop hx)) hy (hl _ (List.getElem_mem hj)) hne
  rw [← e2, ← e3] at h
  unfold sumOf
  omega
theorem wrap_ofInt (x : Int) : BitVec.ofInt 64 (IntKind.i64.wrap x) = BitVec.ofInt 64 x := by
  apply BitVec.eq_of_toNat_eq
  rw [BitVec.toNat_ofInt, BitVec.toNat_ofInt]
  have : IntKind.i64.wrap x % 18446744073709551616 = x % 18446744073709551616 := by
    rw [IntKind.wrap_i64]; omega
  show (IntKind.i64.wrap x % 18446744073709551616).toNat = (x % 18446744073709551616).toNat
  rw [this]
theorem port_turn (k : Int) : bits .xor .i64 k 1 ≠ k := by
  intro h
  have e : bits .xor .i64 k 1 = IntKind.i64.wrap ((BitVec.ofInt 64 k ^^^ BitVec.ofInt 64 1).toNat : Nat) := rfl
  rw [e] at h
  have h2 := congrArg (BitVec.ofInt 64) h
  rw [wrap_ofInt] at h2
  have h3 : BitVec.ofInt 64 (((BitVec.ofInt 64 k ^^^ BitVec.ofInt 64 1).toNat : Nat) : Int) = BitVec.ofInt 64 k ^^^ BitVec.ofInt 64 1 := by
    apply BitVec.eq_of_toNat_eq
    rw [BitVec.toNat_ofInt]
    have := (BitVec.ofInt 64 k ^^^ BitVec.ofInt 64 1).isLt
    omega
  rw [h3] at h2
  have h4 : (BitVec.ofInt 64 k ^^^ (BitVec.ofInt 64 k ^^^ BitVec.ofInt 64 1)) = BitVec.ofInt 64 k ^^^ BitVec.ofInt 64 k := by rw [h2]
  rw [← BitVec.xor_assoc, BitVec.xor_self, BitVec.zero_xor] at h4
  exact absurd h4 (by decide)
theorem ofK_sum {ip port : Int} {l m : List Int} (h : ¬ l.length < 24) (h' : ¬ m.length < 24) (hs : sumOf m ≠ sumOf l) : ofK ip port m ≠ ofK ip port l := by
  unfold ofK
  rw [if_neg h, if_neg h']
  intro e
  exact hs (Ky.mk.inj e).2.2.2.2
theorem ofK_ip {ip ip' port : Int} {l : List Int} (h : ¬ l.length < 24) (hs : ip' ≠ ip) : ofK ip' port l ≠ ofK ip port l := by
  unfold ofK
  rw [if_neg h, if_neg h]
  intro e
  exact hs (Ky.mk.inj e).1
theorem ofK_port {ip port port' : Int} {l : List Int} (h : ¬ l.length < 24) (hs : port' ≠ port) : ofK ip port' l ≠ ofK ip port l := by
  unfold ofK
  rw [if_neg h, if_neg h]
  intro e
  exact hs (Ky.mk.inj e).2.1
/-- A copy of bytes, as a row of one's own. -/
theorem twinBR (W : World) (a : Option Addr) (n c : Nat) (d : List Int) (hn : d.length = n) (hl : n ≤ 900000) (h : Bytes W a d) (ty : TypeId) :
    ∃ a2 c2 w2, (Builtin.append_ #[23, 23] ty #[.slice (some ⟨W.heap.size, 0, none⟩) 0 0, .slice a n c]).run Tryd.prog (W.alloc (.cells #[] 5)) = .ok (.slice a2 n c2) w2 ∧ RW w2 5 1 (.slice a2 n c2) n (u8s d) ∧ n ≤ c2 ∧ (∀ b, blkV (.slice a2 n c2) = some b → W.heap.size ≤ b) ∧ Below W.heap.size W w2 := by
  obtain ⟨i0, hi, hz0, hz1, hz2⟩ := info5b
  have hb1 : Below W.heap.size W (W.alloc (.cells #[] 5)) := (Below.refl _ _).alloc (Nat.le_refl _) _
  by_cases hp : 0 < n
  · obtain ⟨b0, o0, rfl, hcur⟩ := h.open_ (by omega)
    obtain ⟨v', w', hr, ho, hgr, _, hob⟩ := run_append_own_at (P := Tryd.prog) (W.alloc (.cells #[] 5)) W.heap.size 23 ty 5 i0 _ 1 1 Tryd.underlying23 hi hz0 hz1 hz2 rfl (by omega) (.slice (some ⟨W.heap.size, 0, none⟩) 0 0) 0 [] ⟨by simp, .inr ⟨W.heap.size, 0, #[], rfl, Nat.le_refl _, alloc_new W _, by simp, by simp, by simp, by simp⟩⟩ ⟨b0, o0, none⟩ n c (u8s d) (by simp [hn]) (fun j u hj => by
      have hj2 : j < d.length := by have := (List.getElem?_eq_some_iff.1 hj).1; simpa using this
      rw [u8s_get hj2] at hj
      rw [add_addr]
      refine cell_later hb1 ?_
      rw [hcur j hj2]
      simpa using hj) (by intro u hu; simp at hu; obtain ⟨x, _, rfl⟩ := hu; rfl) (by unfold maxLen; omega) (by first | omega | (unfold maxLen; omega)) (by simp)
    rw [Nat.zero_add, List.nil_append] at ho
    obtain ⟨a2, c2, rfl⟩ := owns_slice ho
    obtain ⟨g', c', e, h1, _, hb, _⟩ := owns_cells ho hp
    simp only [Value.slice.injEq, true_and] at e
    obtain ⟨rfl, rfl⟩ := e
    refine ⟨_, _, w', hr, RW.of_owns ho, h1, fun b hb2 => ?_, ?_⟩
    · simp only [blkV, Option.some.injEq] at hb2
      omega
    · exact ⟨hgr.os.trans hb1.os, hgr.tape.trans hb1.tape, hgr.output.trans hb1.output, Nat.le_trans hb1.size hgr.size, fun b hb => (hgr.block b (Nat.lt_of_lt_of_le hb hb1.size) (by simp [Value.ownBlock]; omega)).trans (hb1.block b hb)⟩
  · obtain rfl : n = 0 := by omega
    obtain rfl : d = [] := List.eq_nil_of_length_eq_zero hn
    have hs : Src Tryd.prog i0.size 23 (.slice a 0 c) 0 [] (W.alloc (.cells #[] 5)) := by
      cases a with
      | none => exact Src.ofNil _ Tryd.underlying23 c
      | some ad => exact Src.ofSlice _ Tryd.underlying23 ad 0 c [] (by simp) (fun j u hj => by simp at hj) (fun u hu => by simp at hu)
    exact ⟨some ⟨W.heap.size, 0, none⟩, 0, _, run_append_nothing _ 23 23 ty 5 i0 Tryd.underlying23 hi _ 0 0 (Nat.le_refl _) _ hs, ⟨by simp, .inr ⟨W.heap.size, 0, 0, #[], rfl, alloc_new W _, by simp, by simp, by simp, fun j hj => by omega⟩⟩, Nat.le_refl _, fun b hb => by simp only [blkV, Option.some.injEq] at hb; omega, hb1⟩
theorem RW.bytes {w : World} {a : Option Addr} {n c : Nat} {d : List Int} (h : RW w 5 1 (.slice a n c) n (u8s d)) (hd : ∀ x ∈ d, IsB x) : Bytes w a d := fun i hi => by
  have hl : d.length = n := by have := h.1; simpa using this
  obtain ⟨b, off, cap, e, _, _, hc, _⟩ := h.at_ (by omega)
  simp only [Value.slice.injEq] at e
  exact ⟨b, off, e.1, hc i _ (u8s_get hi), mem_getD d IsB hd i hi⟩
end Go.Proofs.YthgmghfegaemkaaDoor
