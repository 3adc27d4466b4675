/- What is done is a row of one's own; bytes and noughts of which one was turned. -/
import Derived.Test.YteeakkpbpffohaaXeA
namespace Go.Proofs.Yteeakkpbpffohaa
open Go.RowKit Go.Maps
set_option linter.unusedVariables false

/-- 'append([]byte{}, d...)' of some bytes: a row of one's own. -/
theorem twinO (W : World) (a : Option Addr) (n c : Nat) (d : List Int) (hn : d.length = n) (hp : 0 < n) (hl : n ≤ 900000) (h : Bytes W a d) (ty : TypeId) :
    ∃ a2 c2 w2, (Builtin.append_ #[22, 22] ty #[.slice (some ⟨W.heap.size, 0, none⟩) 0 0, .slice a n c]).run Try.prog (W.alloc (.cells #[] 5)) = .ok (.slice a2 n c2) w2 ∧ w2.ownsRow W.heap.size 5 1 (.slice a2 n c2) n (u8s d) ∧ Below W.heap.size W w2 := by
  have hb1 : Below W.heap.size W (W.alloc (.cells #[] 5)) := (Below.refl _ _).alloc (Nat.le_refl _) _
  have hg : Gr (W.alloc (.cells #[] 5)) W.heap.size (.slice (some ⟨W.heap.size, 0, none⟩) 0 0) [] := by
    refine ⟨fun x hx => by simp at hx, .inl ⟨by simp, .inr ⟨W.heap.size, 0, #[], rfl, Nat.le_refl _, alloc_new W _, by simp, by simp, by simp, by simp⟩⟩⟩
  obtain ⟨b, off, rfl, hcur⟩ := h.open_ (by omega)
  obtain ⟨a2, c2, w2, hap, hg2, ho2, hb2, _, _⟩ := hg.push (by simp) d h.isB (by omega) ⟨b, off, none⟩ n c hn (fun j u hj => by
    have hj2 : j < d.length := by have := (List.getElem?_eq_some_iff.1 hj).1; simpa using this
    rw [u8s_get hj2] at hj
    rw [add_addr]
    refine cell_later hb1 ?_
    rw [hcur j hj2]
    simpa using hj) (by simp; omega) ty
  simp only [List.length_nil, Nat.zero_add, List.nil_append] at hap hg2 ho2
  exact ⟨a2, c2, w2, hap, ho2, hb1.trans hb2⟩
set_option maxRecDepth 100000 in
set_option maxHeartbeats 1000000 in
theorem Clone_own (w : World) (a : Option Addr) (n c : Nat) (l : List Int) (hn : l.length = n) (hp : 0 < n) (hl : n ≤ 900000) (hb : Bytes w a l) :
    Calls Try.prog 31 #[.slice a n c] w fun e w' => ∃ a2 c2, e = .returned (.slice a2 n c2) ∧ w'.ownsRow w.heap.size 5 1 (.slice a2 n c2) n (u8s l) ∧ Below w.heap.size w w' := by
  obtain ⟨a2, c2, w2, hap, ho, hb2⟩ := twinO w a n c l hn hp hl hb 22
  obtain ⟨b0, off0, rfl, _⟩ := hb.open_ (by omega)
  have qT : ∀ (w : World) (a : Option Addr) (n c n' c' : Nat), (binOp .eql 22 (.slice a n c) (.slice none n' c')).run Try.prog w = .ok (.bool a.isNone) w := fun w a n c n' c' => Lib.run_eql_slice_nil w _ _ a n c n' c' Try.underlying22
  have HO := hid ho
  have HB2 := hid hb2
  clear ho hb2 hb hn
  go_enter Try.func31, Try.ntmps31
  go_wp2_with (at_builtin; refine wpList_append_run rfl _ _ 22 rfl rfl rfl hap ?_)
  go_ret
  exact ⟨a2, c2, rfl, HO.out, HB2.out⟩
set_option maxRecDepth 100000 in
set_option maxHeartbeats 1000000 in
theorem Done_own {w : World} {p : Nat} {S : Nat → Prop} {l : List Int} (h : WX w 73 p S l) (n : Nat) (hn : l.length = n) (hp : 0 < n) (hl : n ≤ 900000) :
    Calls Try.prog 17 #[.pointer (some ⟨p, 0, none⟩)] w fun e w' => ∃ g c2, e = .returned (.slice (some ⟨g, 0, none⟩) n c2) ∧ w'.ownsRow w.heap.size 5 1 (.slice (some ⟨g, 0, none⟩) n c2) n (u8s l) ∧ n ≤ c2 ∧ w.heap.size ≤ g ∧ g < w'.heap.size ∧ Below w.heap.size w w' := by
  obtain ⟨a, c, h1, hb⟩ := h.row
  rw [hn] at h1
  have c0 := cell_of h1 (i := 0) (v := .slice a n c) rfl
  have HC := hid (Clone_own w a n c l hn hp hl hb)
  clear h h1 hb hn
  go_enter Try.func17, Try.ntmps17
  go_wp2_with (go_at_call 31; refine HC.out.mono ?_; rintro e w2 ⟨a2, c2, rfl, ho, hb2⟩; have HO := hid ho; have HB2 := hid hb2; clear ho hb2)
  go_ret
  obtain ⟨g, cap, e1, h1, _, h2, h3, _, _⟩ := owns_cells HO.out hp
  simp only [Value.slice.injEq, true_and] at e1
  obtain ⟨rfl, rfl⟩ := e1
  exact ⟨g, _, rfl, HO.out, h1, h2, h3, HB2.out⟩
theorem owns_bytes {w : World} {base g n c : Nat} {l : List Int} (h : w.ownsRow base 5 1 (.slice (some ⟨g, 0, none⟩) n c) n (u8s l)) (hl : ∀ x ∈ l, IsB x) : Bytes w (some ⟨g, 0, none⟩) l := by
  obtain ⟨a, c', e, _, _, hb⟩ := By.of_owns (S := fun _ => True) h hl (fun _ _ => trivial)
  simp only [Value.slice.injEq, true_and] at e
  obtain ⟨rfl, _⟩ := e
  exact hb.bytes
theorem cntP_at (S b : List Int) (hb : b.length ≤ 3000) (n : Int) (hn : n = b.length) : cntP (fuL b ++ S) 0 n = ⟨b, 0, 4 + (b.length + pad4 b.length)⟩ := by
  subst hn
  have hq := numQ_at [] (pdL b ++ S) 4 (bytesBe 4 b.length) (len_be _ _) 0 rfl
  rw [be_back_4 _ (by omega) (by omega)] at hq
  unfold cntP
  rw [fuL, List.append_assoc]
  simp only [List.nil_append] at hq
  rw [hq]
  simp only
  rw [if_neg (by omega)]
  exact fixP_at (bytesBe 4 b.length) S b 4 (len_be _ _)
theorem cntP_long (b : List Int) (hb : b.length ≤ 3000) (n : Int) (hn : n < b.length) : cntP (fuL b) 0 n = ⟨[], 5, 0⟩ := by
  have hq := numQ_at [] (pdL b) 4 (bytesBe 4 b.length) (len_be _ _) 0 rfl
  rw [be_back_4 _ (by omega) (by omega)] at hq
  unfold cntP
  rw [fuL]
  simp only [List.nil_append] at hq
  rw [hq]
  simp only
  rw [if_pos hn]
/-- One nought turned. -/
theorem cntP_bad (b : List Int) (hb : b.length ≤ 3000) (n : Int) (hn : n = b.length) (j : Nat) (hj : j < pad4 b.length) (y : Int) (hy : y ≠ 0) : cntP ((fuL b).set (4 + b.length + j) y) 0 n = ⟨[], 15, 4⟩ := by
  subst hn
  have e : (fuL b).set (4 + b.length + j) y = bytesBe 4 b.length ++ (b ++ (List.replicate (pad4 b.length) 0).set j y) := by
    unfold fuL pdL
    rw [List.set_append_right _ _ (by rw [len_be]; omega), List.set_append_right _ _ (by rw [len_be]; omega), len_be, show 4 + b.length + j - 4 - b.length = j by omega]
  rw [e]
  have hq := numQ_at [] (b ++ (List.replicate (pad4 b.length) 0).set j y) 4 (bytesBe 4 b.length) (len_be _ _) 0 rfl
  rw [be_back_4 _ (by omega) (by omega)] at hq
  unfold cntP
  simp only [List.nil_append] at hq
  rw [hq]
  simp only
  rw [if_neg (by omega)]
  unfold fixP
  rw [if_neg (by omega), Int.toNat_natCast, if_neg (by simp [len_be] <;> omega)]
  have e1 : ((bytesBe 4 (b.length : Int) ++ (b ++ (List.replicate (pad4 b.length) (0 : Int)).set j y)).drop (0 + 4 + b.length)).take (pad4 b.length) = (List.replicate (pad4 b.length) (0 : Int)).set j y := by
    rw [← List.append_assoc, List.drop_left' (by rw [List.length_append, len_be]), List.take_of_length_le (by simp)]
  rw [e1, if_neg (by
    intro h
    rw [List.all_eq_true] at h
    have h2 := h y (List.mem_iff_getElem.2 ⟨j, by simpa using hj, by simp⟩)
    exact hy (by simpa using h2))]
theorem fuL_set_isB (b : List Int) (hb : ∀ x ∈ b, IsB x) (j : Nat) (y : Int) (hy : IsB y) : ∀ x ∈ (fuL b).set j y, IsB x := fun x hx => by
  rcases List.mem_or_eq_of_mem_set hx with h | h
  · exact fuL_isB b hb x h
  · rw [h]; exact hy
end Go.Proofs.Yteeakkpbpffohaa
