/- Numbers that are read and put; what an echo is answered. -/
import Derived.Test.YteeakkpbpffohaaPbD
namespace Go.Proofs.Yteeakkpbpffohaa
open Go.RowKit Go.Maps
set_option linter.unusedVariables false
/-- The sum of the wire. -/
def inetL (l : List Int) : Int := 65535 - inetFold (wsum 0 l)
theorem inetL_bd (l : List Int) (h : ∀ x ∈ l, IsB x) : 0 ≤ inetL l ∧ inetL l ≤ 65535 := by
  have := inetFold_bd (wsum 0 l) (wsum_bd 0 l h).1
  unfold inetL; omega
theorem wsum_par (n : Nat) (l : List Int) : wsum (n + 2) l = wsum n l := by
  induction l generalizing n with
  | nil => rfl
  | cons x l ih =>
    have e : n + 2 + 1 = n + 1 + 2 := by omega
    simp only [wsum, Nat.add_mod_right]
    rw [e, ih (n + 1)]
theorem fitsB_all (k : Nat) (l : List Int) (h : ∀ v ∈ l, 0 ≤ v ∧ v < 256 ^ k) : fitsB k l = true := by
  unfold fitsB
  rw [List.all_eq_true]
  intro v hv
  obtain ⟨h0, h1⟩ := h v hv
  have : v / 256 ^ k = 0 := Int.ediv_eq_zero_of_lt h0 h1
  simp [fitB, this]
/-- num.PutBe of numbers that fit: bytes of one's own. -/
theorem putBeW (w : World) (a a2 : Option Addr) (n c k m cap : Nat) (b vs : List Int) (hn : b.length = n) (hm : vs.length = m) (hl : n ≤ 900000) (hml : m ≤ 1000) (hk : k = 1 ∨ k = 2 ∨ k = 4) (hv : ∀ v ∈ vs, 0 ≤ v ∧ v < 256 ^ k) (hb : Bytes w a b) (hw : Words w a2 vs) :
    Calls Try.prog 59 #[.slice a n c, .int .i64 k, .slice a2 m cap] w fun e w' => ∃ a3 c3, e = .returned (.tuple #[.slice a3 (n + k * m) c3, .int .i64 0]) ∧ GO w' w.heap.size (.slice a3 (n + k * m) c3) (outBe b k vs) ∧ Below w.heap.size w w' := by
  subst hn hm
  have hI : ∀ x ∈ outBe b k vs, IsB x := by
    intro x hx
    unfold outBe at hx
    rcases List.mem_append.1 hx with h | h
    · exact hb.isB x h
    · obtain ⟨v, _, hv⟩ := List.mem_flatMap.1 h
      exact be_isB k v x hv
  have key : ∀ w' : World, w'.rowIs w.heap.size 5 (b.length + k * vs.length) (fun i => .int .u8 ((outBe b k vs).getD i 0)) → GO w' w.heap.size (.slice (some ⟨w.heap.size, 0, none⟩) (b.length + k * vs.length) (b.length + k * vs.length)) (outBe b k vs) := fun w' ⟨cs, hh, hs, hc⟩ => by
    have hlen := outBe_len b k vs
    refine ⟨hI, ?_⟩
    rw [hlen]
    refine ⟨by simp [hlen], .inr ⟨w.heap.size, _, cs, rfl, Nat.le_refl _, hh, Nat.le_refl _, ?_, by omega, ?_⟩⟩
    · unfold maxLen; rcases hk with rfl | rfl | rfl <;> omega
    · apply List.ext_getElem?
      intro i
      by_cases hi : i < b.length + k * vs.length
      · rw [List.getElem?_take, if_pos (by omega), Array.getElem?_toList, hc i hi, u8s_get (by rw [hlen]; exact hi)]
      · rw [List.getElem?_eq_none (by rw [List.length_take]; omega), List.getElem?_eq_none (by simp [hlen]; omega)]
  rcases hk with rfl | rfl | rfl
  · refine (putBe_1 a a2 c cap b vs w (by omega) (by omega) hb hw (fitsB_all 1 vs hv)).mono ?_
    rintro e w' ⟨rfl, h1, h2, h3⟩
    exact ⟨_, _, rfl, key w' h3, h1⟩
  · refine (putBe_2 a a2 c cap b vs w (by omega) (by omega) hb hw (fitsB_all 2 vs hv)).mono ?_
    rintro e w' ⟨rfl, h1, h2, h3⟩
    exact ⟨_, _, rfl, key w' h3, h1⟩
  · refine (putBe_4 a a2 c cap b vs w (by omega) (by omega) hb hw (fitsB_all 4 vs hv)).mono ?_
    rintro e w' ⟨rfl, h1, h2, h3⟩
    exact ⟨_, _, rfl, key w' h3, h1⟩
/-- A row of words laid anew. -/
theorem words_new (w : World) (t : TypeId) (vs : List Int) (hv : ∀ v ∈ vs, 0 ≤ v ∧ v < 18446744073709551616) : Words (w.alloc (.cells (vs.map (Value.int .u64)).toArray t)) (some ⟨w.heap.size, 0, none⟩) vs := fun i hi => by
  have h1 := alloc_new w (.cells (vs.map (Value.int .u64)).toArray t)
  refine ⟨w.heap.size, 0, rfl, ?_, ?_⟩
  · rw [Nat.zero_add]
    exact cell_of h1 (by simp [List.getD, hi])
  · exact mem_getD vs IsW (fun v hx => hv v hx) i hi
theorem rows2 (w : World) (a1 a2 : Option Addr) (n1 n2 c1 c2 : Nat) (l1 l2 : List Int) (e1 : l1.length = n1) (e2 : l2.length = n2) (h1 : Bytes w a1 l1) (h2 : Bytes w a2 l2) :
    RowsOf (w.alloc (.cells #[.slice a1 n1 c1, .slice a2 n2 c2] 22)) (some ⟨w.heap.size, 0, none⟩) [l1, l2] := by
  have hb : Below w.heap.size w (w.alloc (.cells #[.slice a1 n1 c1, .slice a2 n2 c2] 22)) := below_alloc (Below.refl _ _) (Nat.le_refl _) _
  have h0 := alloc_new w (.cells #[.slice a1 n1 c1, .slice a2 n2 c2] 22)
  subst e1 e2
  intro i hi
  rcases (show i = 0 ∨ i = 1 by simp at hi; omega) with rfl | rfl
  · exact ⟨w.heap.size, 0, a1, c1, rfl, cell_of h0 rfl, h1.later hb⟩
  · exact ⟨w.heap.size, 0, a2, c2, rfl, cell_of h0 rfl, h2.later hb⟩
end Go.Proofs.Yteeakkpbpffohaa
