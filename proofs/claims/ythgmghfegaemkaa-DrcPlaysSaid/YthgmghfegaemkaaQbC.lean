/- Tables of calls: New, Known. -/
import Derived.Test.YthgmghfegaemkaaQbB
import Derived.Test.YthgmghfegaemkaaQaD
namespace Go.Proofs.Ythgmghfegaemkaa
open Go.RowKit Go.Maps
set_option linter.unusedVariables false

theorem MT.nil (w : World) (S : Nat → Prop) : MT w S [] (fun _ => none) := fun k _ => ⟨fun o ho => by simp [fndT] at ho, fun _ => rfl⟩
def newC (n : Int) : Int := if n < 1 ∨ 256 < n then 1 else 0
set_option maxRecDepth 100000 in
set_option maxHeartbeats 1000000 in
theorem dNew_no (w : World) (n : Int) (hn : n < 1 ∨ 256 < n) : Calls Try.prog 6 #[.int .i64 n] w fun e w' => e = .returned (.tuple #[.pointer none, .int .i64 1]) ∧ w' = w := by
  by_cases h : n < 1
  · go_enter Try.func6, Try.ntmps6
    go_wp2
    go_ret2
    exact ⟨rfl, rfl⟩
  · have h2 : 256 < n := by omega
    go_enter Try.func6, Try.ntmps6
    go_wp2
    go_ret2
    exact ⟨rfl, rfl⟩
set_option maxRecDepth 100000 in
set_option maxHeartbeats 1000000 in
theorem dNew_yes (w : World) (n : Nat) (h1 : 1 ≤ n) (h2 : n ≤ 256) : Calls Try.prog 6 #[.int .i64 n] w fun e w' => ∃ p S, e = .returned (.tuple #[.pointer (some ⟨p, 0, none⟩), .int .i64 0]) ∧ TbAt w' p S n [] 0 ∧ Below w.heap.size w w' ∧ ∀ b, S b → w.heap.size ≤ b := by
  obtain ⟨gm, hgm⟩ : ∃ g, w.heap.size = g := ⟨_, rfl⟩
  obtain ⟨W2, hW2⟩ : ∃ W, W = w.alloc (.map #[] 0) := ⟨_, rfl⟩
  have b2 : Below w.heap.size w W2 := by rw [hW2]; exact below_alloc (Below.refl _ _) (Nat.le_refl _) _
  have hM2 : MapK W2 gm 0 (fun _ => none) := by rw [hW2, ← hgm]; exact MapK.made w
  obtain ⟨p, hp⟩ : ∃ g, W2.heap.size = g := ⟨_, rfl⟩
  obtain ⟨W3, hW3⟩ : ∃ W, W = W2.alloc (.cells #[.int .i64 n, .map (some gm), .slice none 0 0] 56) := ⟨_, rfl⟩
  have b23 : Below W2.heap.size W2 W3 := by rw [hW3]; exact below_alloc (Below.refl _ _) (Nat.le_refl _) _
  have h3 : W3.heap[p]? = some (.cells #[.int .i64 n, .map (some gm), .slice none 0 0] 56 (0, 0)) := by rw [hW3, ← hp]; exact alloc_new W2 _
  have hM3 := hM2.keep (b23.block gm hM2.lt)
  have HB3 := hid (b2.trans (b23.mono b2.size))
  have HPE : Hid (TbAt W3 p (fun b => b = p ∨ b = gm) n [] 0) := hid ⟨gm, .slice none 0 0, h3, ⟨_, hM3, MT.nil _ _⟩, RW.nil _ _ _, fun e he => by simp at he, by simp, .inl rfl, .inr rfl, fun b hb => by simp [blkV] at hb, fun b hb => by
    rcases hb with rfl | rfl
    · exact (Array.getElem?_eq_some_iff.1 h3).1
    · exact hM3.lt⟩
  have HSS : Hid (∀ b, b = p ∨ b = gm → w.heap.size ≤ b) := hid (fun b hb => by
    have e3 := b2.size
    rcases hb with rfl | rfl <;> omega)
  have HW := hW2.symm
  have HV := hW3.symm
  clear hW2 hW3 b2 b23 hM2 hM3 h3
  have hmm := @run_makeMap Try.prog
  go_enter Try.func6, Try.ntmps6
  go_wp2
  go_ret2
  exact ⟨p, _, rfl, HPE.out, HB3.out, HSS.out⟩
theorem twinK (W : World) (a : Option Addr) (m c : Nat) (X : List Value) (hX : X.length = m * 5) (hone : ∀ u ∈ X, u.oneCell' = true) (hm : m ≤ 1000) (hg : ∀ j u, X[j]? = some u → ∃ b off, a = some ⟨b, off, none⟩ ∧ W.cell? ⟨b, off + j, none⟩ = some u) (ty : TypeId) :
    ∃ a2 c2 w2, (Builtin.append_ #[44, 44] ty #[.slice (some ⟨W.heap.size, 0, none⟩) 0 0, .slice a m c]).run Try.prog (W.alloc (.cells #[] 33)) = .ok (.slice a2 m c2) w2 ∧ RW w2 33 5 (.slice a2 m c2) m X ∧ (∀ b, blkV (.slice a2 m c2) = some b → W.heap.size ≤ b) ∧ Below W.heap.size W w2 := by
  obtain ⟨i0, hi, hz0, hz1, hz2⟩ := infoK
  have hb1 : Below W.heap.size W (W.alloc (.cells #[] 33)) := (Below.refl _ _).alloc (Nat.le_refl _) _
  by_cases hp : 0 < m
  · obtain ⟨b0, o0, rfl, _⟩ := hg 0 (X[0]'(by omega)) (by simp [show 0 < X.length by omega])
    obtain ⟨v', w', hr, ho, hgr, _, hob⟩ := run_append_own_at (P := Try.prog) (W.alloc (.cells #[] 33)) W.heap.size 44 ty 33 i0 _ 5 32 Try.underlying44 hi hz0 hz1 hz2 rfl (by omega) (.slice (some ⟨W.heap.size, 0, none⟩) 0 0) 0 [] ⟨by simp, .inr ⟨W.heap.size, 0, #[], rfl, Nat.le_refl _, alloc_new W _, by simp, by simp, by simp, by simp⟩⟩ ⟨b0, o0, none⟩ m c X hX (fun j u hj => by
      obtain ⟨b1, o1, e, h1⟩ := hg j u hj
      simp only [Option.some.injEq, Addr.mk.injEq, and_true] at e
      obtain ⟨rfl, rfl⟩ := e
      rw [add_addr]
      exact cell_later hb1 h1) hone (by unfold maxLen; omega) (by have : (0 + m) * 32 ≤ 1000 * 32 := Nat.mul_le_mul_right _ (by omega); first | omega | (unfold maxLen; omega)) (by simp)
    rw [Nat.zero_add, List.nil_append] at ho
    obtain ⟨a2, c2, rfl⟩ := owns_slice ho
    refine ⟨a2, c2, w', hr, RW.of_owns ho, fun b hb => ?_, ?_⟩
    · rcases ho.2 with ⟨_, h0⟩ | ⟨g', cap', cur', e, hge, _⟩
      · omega
      · simp only [Value.slice.injEq, true_and] at e
        obtain ⟨rfl, rfl⟩ := e
        simp only [blkV, Option.some.injEq] at hb
        omega
    · exact ⟨hgr.os.trans hb1.os, hgr.tape.trans hb1.tape, hgr.output.trans hb1.output, Nat.le_trans hb1.size hgr.size, fun b hb => (hgr.block b (Nat.lt_of_lt_of_le hb hb1.size) (by simp [Value.ownBlock]; omega)).trans (hb1.block b hb)⟩
  · obtain rfl : m = 0 := by omega
    obtain rfl : X = [] := List.eq_nil_of_length_eq_zero (by omega)
    have hs : Src Try.prog i0.size 44 (.slice a 0 c) 0 [] (W.alloc (.cells #[] 33)) := by
      cases a with
      | none => exact Src.ofNil _ Try.underlying44 c
      | some ad => exact Src.ofSlice _ Try.underlying44 ad 0 c [] (by simp) (fun j u hj => by simp at hj) (fun u hu => by simp at hu)
    exact ⟨some ⟨W.heap.size, 0, none⟩, 0, _, run_append_nothing _ 44 44 ty 33 i0 Try.underlying44 hi _ 0 0 (Nat.le_refl _) _ hs, ⟨by simp, .inr ⟨W.heap.size, 0, 0, #[], rfl, alloc_new W _, by simp, by simp, by simp, fun j hj => by omega⟩⟩, fun b hb => by simp only [blkV, Option.some.injEq] at hb; omega, hb1⟩
/-- What Known gives: the keys, in memory of one's own. -/
def KnownPost (w : World) (L : Tl) (e : Ending) (w' : World) : Prop :=
  ∃ a c, e = .returned (.slice a L.length c) ∧ RW w' 33 5 (.slice a L.length c) L.length (rowT L) ∧ (∀ b, blkV (.slice a L.length c) = some b → w.heap.size ≤ b) ∧ Below w.heap.size w w'
set_option maxRecDepth 100000 in
set_option maxHeartbeats 1000000 in
theorem CloneK_any (w : World) (a : Option Addr) (m c : Nat) (L : Tl) (hm : L.length = m) (hm2 : m ≤ 1000) (h : RW w 33 5 (.slice a m c) m (rowT L)) :
    Calls Try.prog 16 #[.slice a m c] w (KnownPost w L) := by
  have qT : ∀ (w : World) (a : Option Addr) (n c n' c' : Nat), (binOp .eql 44 (.slice a n c) (.slice none n' c')).run Try.prog w = .ok (.bool a.isNone) w := fun w a n c n' c' => Lib.run_eql_slice_nil w _ _ a n c n' c' Try.underlying44
  have HM := hid hm
  cases a with
  | none =>
    have hm0 : m = 0 := by
      rcases h.2 with ⟨_, h0⟩ | ⟨b, off, cap, cur, e, _⟩
      · exact h0
      · simp at e
    subst hm0
    clear hm h
    go_enter Try.func16, Try.ntmps16
    go_wp2
    go_ret
    refine ⟨none, 0, by rw [HM.out]; rfl, ?_, fun b hb => by simp [blkV] at hb, Below.refl _ _⟩
    rw [HM.out, List.eq_nil_of_length_eq_zero HM.out]
    exact RW.nil _ _ _
  | some ad =>
    obtain ⟨a2, c2, w2, hap, hy, hn, hb2⟩ := twinK w (some ad) m c (rowT L) (by rw [rowT_len, hm]) (rowT_one L) hm2 (fun j u hj => by
      have hj2 := (List.getElem?_eq_some_iff.1 hj).1
      rw [rowT_len, hm] at hj2
      obtain ⟨b, off, cap, e, _, _, hc, _⟩ := h.at_ (by omega)
      simp only [Value.slice.injEq] at e
      exact ⟨b, off, e.1, hc j u hj⟩) 44
    have HY := hid hy
    have HN := hid hn
    have HB2 := hid hb2
    clear hy hn hb2 hm h
    go_enter Try.func16, Try.ntmps16
    go_wp2_with (at_builtin; refine wpList_append_run rfl _ _ 44 rfl rfl rfl hap ?_)
    go_ret
    refine ⟨a2, c2, by rw [HM.out]; rfl, ?_, ?_, HB2.out⟩
    · rw [HM.out]; exact HY.out
    · rw [HM.out]; exact HN.out
set_option maxRecDepth 100000 in
set_option maxHeartbeats 1000000 in
theorem Known_any (w : World) (p : Nat) (S : Nat → Prop) (n : Nat) (L : Tl) (c : Nat) (h : TbAt w p S n L c) (hl : L.length ≤ 1000) : Calls Try.prog 13 #[.pointer (some ⟨p, 0, none⟩)] w (KnownPost w L) := by
  obtain ⟨gm, vo, h⟩ := h
  obtain ⟨m, hm⟩ : ∃ m, L.length = m := ⟨_, rfl⟩
  have hr := h.row
  rw [hm] at hr
  obtain ⟨a, cap, rfl⟩ := hr.shape
  have c2 : w.cell? ⟨p, 2, none⟩ = some (.slice a m cap) := cell_of h.box rfl
  have HC := hid (CloneK_any w a m cap L hm (by omega) hr)
  clear h hm hl hr
  go_enter Try.func13, Try.ntmps13
  go_wp2_with (go_at_call 16; refine HC.out.mono ?_; rintro e w' ⟨a2, c2', rfl, h2, h3, h4⟩; have H2 := hid h2; have H3 := hid h3; have H4 := hid h4; clear h2 h3 h4)
  go_ret
  exact ⟨a2, c2', rfl, H2.out, H3.out, H4.out⟩
theorem sizePr : (Try.prog.info? 58).map (·.size) = some 2 := by kernel_rfl
theorem MT.got {w : World} {S : Nat → Prop} {L : Tl} {M : Ky → Option Value} (h : MT w S L M) {k : Ky} (hk : k.Ok) {o : Option (List Int)} (hf : fndT L k = some o) : ∃ a c, M k = some (.agg #[.int .i64 (stI (some o)), .slice a (o.getD []).length c]) ∧ By w S a (o.getD []) ∧ (o.getD []).length ≤ c := by
  obtain ⟨v, hv, he⟩ := (h k hk).1 o hf
  cases o with
  | none => exact ⟨none, 0, by rw [hv]; exact congrArg some he, By.nil _ _ _, Nat.le_refl _⟩
  | some l => obtain ⟨a, c, e, h1, h2⟩ := he; exact ⟨a, c, by rw [hv]; exact congrArg some e, h1, h2⟩
theorem beC_known {n : Nat} {L : Tl} {k : Ky} {o : Option (List Int)} (h : fndT L k = some o) : beC n L k = stI (some o) ∧ beR L k = o.getD [] ∧ beL n L k = L := by
  unfold beC beR beL
  rw [h]
  cases o <;> exact ⟨rfl, rfl, rfl⟩
end Go.Proofs.Ythgmghfegaemkaa
