/- What both Recovers tell, alike; bytes twinned, none too. -/
import Derived.Test.YtoifeioijoancaaDoorWhA
import Derived.Test.YtoifeioijoancaaDoorWhC
namespace Go.Proofs.YtoifeioijoancaaDoor
open Go.RowKit Go.Maps
set_option linter.unusedVariables false
open Classical in
noncomputable def rM (l : List Int) : List Pt := if l.length = 33792 ∧ RecOk l then recOut l (recN l) else []
open Classical in
noncomputable def rS (l : List Int) : Int := if l.length = 33792 ∧ RecOk l then recSeq l else 0
open Classical in
noncomputable def rE (l : List Int) : Int := if l.length = 33792 then (if RecOk l then 0 else 2) else 14
def Read (w w' : World) (e : Ending) (l : List Int) : Prop :=
  (∃ v M, e = .returned (.tuple #[.int .u64 (rS l), v, .int .i64 (rE l)]) ∧ PO w' (New w) v M ∧ M.map Pw.pt = rM l) ∧ Below w.heap.size w w'
theorem read_size {w : World} {l : List Int} (h : l.length ≠ 33792) : Read w w (.returned (.tuple #[.int .u64 0, .slice none 0 0, .int .i64 14])) l := by
  refine ⟨⟨_, [], ?_, PO.nil _ _, ?_⟩, Below.refl _ _⟩
  · unfold rS rE; rw [if_neg (fun k => h k.1), if_neg h]
  · unfold rM; rw [if_neg (fun k => h k.1)]; rfl
theorem read_any {w w' : World} {e : Ending} {l : List Int} (h : l.length = 33792) (hr : ((RecOk l ∧ ∃ v M, e = .returned (.tuple #[.int .u64 (recSeq l), v, .int .i64 0]) ∧ PO w' (New w) v M ∧ M.map Pw.pt = recOut l (recN l)) ∨ (¬ RecOk l ∧ e = .returned (.tuple #[.int .u64 0, .slice none 0 0, .int .i64 2]))) ∧ Below w.heap.size w w') : Read w w' e l := by
  obtain ⟨⟨h1, v, M, rfl, h2, h3⟩ | ⟨h1, rfl⟩, hb⟩ := hr
  · refine ⟨⟨v, M, ?_, h2, ?_⟩, hb⟩
    · unfold rS rE; rw [if_pos ⟨h, h1⟩, if_pos h, if_pos h1]
    · unfold rM; rw [if_pos ⟨h, h1⟩]; exact h3
  · refine ⟨⟨_, [], ?_, PO.nil _ _, ?_⟩, hb⟩
    · unfold rS rE; rw [if_neg (fun k => h1 k.2), if_pos h, if_neg h1]
    · unfold rM; rw [if_neg (fun k => h1 k.2)]; rfl
theorem Recover_read (w : World) (S : Nat → Prop) (a : Option Addr) (n cap : Nat) (l : List Int) (hl : l.length = n) (hc : n ≤ cap) (h : By w S a l) (hT : Tab w) :
    Calls Tryd.prog 15 #[.slice a n cap] w fun e w' => Read w w' e l := by
  by_cases hn : n = 33792
  · subst hn
    exact (Recover_any w S a cap l hl hc h hT).mono (fun e w' hr => read_any hl hr)
  · refine (Recover_size w a n cap hn).mono ?_
    rintro e w' ⟨rfl, rfl⟩
    exact read_size (by rw [hl]; exact hn)
theorem refRecover_read (w : World) (S : Nat → Prop) (a : Option Addr) (n cap : Nat) (l : List Int) (hl : l.length = n) (hc : n ≤ cap) (h : By w S a l) :
    Calls Tryd.prog 16 #[.slice a n cap] w fun e w' => Read w w' e l := by
  by_cases hn : n = 33792
  · subst hn
    exact (refRecover_any w S a cap l hl hc h).mono (fun e w' hr => read_any hl hr)
  · refine (refRecover_size w a n cap hn).mono ?_
    rintro e w' ⟨rfl, rfl⟩
    exact read_size (by rw [hl]; exact hn)
theorem rM_len (l : List Int) : (rM l).length ≤ 64 := by
  unfold rM
  split
  · rename_i h
    rw [recOut_len]
    have := h.2.head.many
    unfold recN
    omega
  · simp
theorem twin0 (W : World) (T : Nat → Prop) (a : Option Addr) (n c : Nat) (d : List Int) (hn : d.length = n) (hl : n ≤ 900000) (h : By W T a d) (ty : TypeId) :
    ∃ a2 c2 w2, (Builtin.append_ #[27, 27] ty #[.slice (some ⟨W.heap.size, 0, none⟩) 0 0, .slice a n c]).run Tryd.prog (W.alloc (.cells #[] 5)) = .ok (.slice a2 n c2) w2 ∧ By w2 (New W) a2 d ∧ n ≤ c2 ∧ Below W.heap.size W w2 := by
  rcases Nat.eq_zero_or_pos n with rfl | hpos
  · obtain rfl : d = [] := List.eq_nil_of_length_eq_zero hn
    obtain ⟨i0, hi, hz0, hz1, hz2⟩ := info5b
    have hs : Src Tryd.prog i0.size 27 (.slice a 0 c) 0 [] (W.alloc (.cells #[] 5)) := by
      cases a with
      | none => exact Src.ofNil _ Tryd.underlying27 c
      | some ad => exact Src.ofSlice _ Tryd.underlying27 ad 0 c [] (by simp) (fun j u hj => by simp at hj) (fun u hu => by simp at hu)
    exact ⟨_, _, _, run_append_nothing _ 27 27 ty 5 i0 Tryd.underlying27 hi _ 0 0 (Nat.le_refl _) _ hs, ⟨fun x hx => by simp at hx, fun hp => by simp at hp⟩, Nat.le_refl _, (Below.refl _ _).alloc (Nat.le_refl _) _⟩
  · obtain ⟨a2, c2, w2, h1, h2, h3, h4, _⟩ := twinB W T a n c d hn hpos hl h ty
    exact ⟨a2, c2, w2, h1, h2, h3, h4⟩
end Go.Proofs.YtoifeioijoancaaDoor
