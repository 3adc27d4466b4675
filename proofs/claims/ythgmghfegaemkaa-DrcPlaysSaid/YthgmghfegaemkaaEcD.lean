/- bytes.Clone; Parse. -/
import Derived.Test.YthgmghfegaemkaaEcC
import Derived.Deep.Upon
namespace Go.Proofs.Ythgmghfegaemkaa
open Go.RowKit Go.Maps
set_option linter.unusedVariables false

abbrev frC (m : Mac) (k : Mac) (kind : Int) (v : Value) : Array Value := #[.int .u8 m.a, .int .u8 m.b, .int .u8 m.c, .int .u8 m.d, .int .u8 m.e, .int .u8 m.f, .int .u8 k.a, .int .u8 k.b, .int .u8 k.c, .int .u8 k.d, .int .u8 k.e, .int .u8 k.f, .int .i64 kind, v]
def mac0 : Mac := ⟨0, 0, 0, 0, 0, 0⟩
theorem frC_one (m k : Mac) (kind : Int) (v : Value) (hv : v.oneCell' = true) : (frC m k kind v).all (·.oneCell') = true := by
  have h1 : (frC m k kind v).all (·.oneCell') = (v.oneCell') := by simp [Value.oneCell']
  rw [h1, hv]
/-- A frame's kind. -/
def kindOf (l : List Int) : Int := beOf ((l.drop 12).take 2)
theorem kindOf_bd (l : List Int) (h : ∀ x ∈ l, IsB x) (hk : 14 ≤ l.length) : 0 ≤ kindOf l ∧ kindOf l < 65536 := by
  have := be_cut_bd l 12 2 h (by omega)
  unfold kindOf; omega
/-- 'append([]byte{}, d...)', whatever d is. -/
theorem twinY (W : World) (a : Option Addr) (n c : Nat) (d : List Int) (hn : d.length = n) (hl : n ≤ 900000) (h : Bytes W a d) (ty : TypeId) :
    ∃ a2 c2 w2, (Builtin.append_ #[34, 34] ty #[.slice (some ⟨W.heap.size, 0, none⟩) 0 0, .slice a n c]).run Try.prog (W.alloc (.cells #[] 5)) = .ok (.slice a2 n c2) w2 ∧ By w2 (New W) a2 d ∧ n ≤ c2 ∧ Below W.heap.size W w2 := by
  have hb1 : Below W.heap.size W (W.alloc (.cells #[] 5)) := (Below.refl _ _).alloc (Nat.le_refl _) _
  by_cases hp : 0 < n
  · have hg : Gr (W.alloc (.cells #[] 5)) W.heap.size (.slice (some ⟨W.heap.size, 0, none⟩) 0 0) [] := by
      refine ⟨fun x hx => by simp at hx, .inl ⟨by simp, .inr ⟨W.heap.size, 0, #[], rfl, Nat.le_refl _, alloc_new W _, by simp, by simp, by simp, by simp⟩⟩⟩
    obtain ⟨b, off, rfl, hcur⟩ := h.open_ (by omega)
    obtain ⟨a2, c2, w2, hap, hg2, ho2, hb2, _, _⟩ := hg.push (by simp) d h.isB (by omega) ⟨b, off, none⟩ n c hn (fun j u hj => by
      have hj2 : j < d.length := by have := (List.getElem?_eq_some_iff.1 hj).1; simpa using this
      rw [u8s_get hj2] at hj
      rw [add_addr]
      refine cell_later hb1 ?_
      rw [hcur j hj2]
      simpa using hj) (by simp; omega) ty
    simp only [List.length_nil, Nat.zero_add, List.nil_append] at hap hg2 ho2
    obtain ⟨a3, c3, e3, h3, _, h4⟩ := By.of_owns (S := New W) ho2 h.isB (fun g hg => (owns_lt ho2 hg).2)
    simp only [Value.slice.injEq, true_and] at e3
    obtain ⟨rfl, rfl⟩ := e3
    exact ⟨a2, c2, w2, hap, h4, h3, hb1.trans hb2⟩
  · obtain rfl : n = 0 := by omega
    obtain rfl : d = [] := List.eq_nil_of_length_eq_zero hn
    refine ⟨some ⟨W.heap.size, 0, none⟩, 0, W.alloc (.cells #[] 5), ?_, By.nil _ _ _, Nat.le_refl _, hb1⟩
    obtain ⟨i0, hi, hz0, hz1, hz2⟩ := info5b
    have hs : Src Try.prog i0.size 34 (.slice a 0 c) 0 [] (W.alloc (.cells #[] 5)) := by
      cases a with
      | none => exact Src.ofNil _ Try.underlying34 c
      | some ad => exact Src.ofSlice _ Try.underlying34 ad 0 c [] (by simp) (fun j u hj => by simp at hj) (fun u hu => by simp at hu)
    exact run_append_nothing _ 34 34 ty 5 i0 Try.underlying34 hi _ 0 0 (Nat.le_refl _) _ hs
set_option maxRecDepth 100000 in
set_option maxHeartbeats 1000000 in
theorem Clone_y (w : World) (a : Addr) (n c : Nat) (l : List Int) (hn : l.length = n) (hl : n ≤ 900000) (hb : Bytes w (some a) l) :
    Calls Try.prog 14 #[.slice (some a) n c] w fun e w' => ∃ a2 c2, e = .returned (.slice a2 n c2) ∧ By w' (New w) a2 l ∧ n ≤ c2 ∧ Below w.heap.size w w' := by
  obtain ⟨a2, c2, w2, hap, hy, hc, hb2⟩ := twinY w (some a) n c l hn hl hb 34
  have qT : ∀ (w : World) (a : Option Addr) (n c n' c' : Nat), (binOp .eql 34 (.slice a n c) (.slice none n' c')).run Try.prog w = .ok (.bool a.isNone) w := fun w a n c n' c' => Lib.run_eql_slice_nil w _ _ a n c n' c' Try.underlying34
  have HY := hid hy
  have HB2 := hid hb2
  clear hy hb2 hb hn
  go_enter Try.func14, Try.ntmps14
  go_wp2_with (at_builtin; refine wpList_append_run rfl _ _ 34 rfl rfl rfl hap ?_)
  go_ret
  exact ⟨a2, c2, rfl, HY.out, hc, HB2.out⟩
end Go.Proofs.Ythgmghfegaemkaa
