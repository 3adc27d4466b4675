/- The document's Answer: kit. -/
import Derived.Test.YtgeecahpfjllgaaGreatDoorYnC
import Derived.Test.YtgeecahpfjllgaaGreatDoorXbC
import Derived.Test.YtgeecahpfjllgaaGreatDoorXfA
import Derived.Test.YtgeecahpfjllgaaGreatDoorYkA
import Derived.OwnWalk
namespace Go.Proofs.YtgeecahpfjllgaaGreatDoor
open Go.RowKit Go.Maps
set_option linter.unusedVariables false

theorem dU32_is {w : World} {p : Nat} {r r' : Rd} {v : Int} (e : rd32 r = (v, r')) (h : RY w 74 p r) : Calls Tryz.prog 32 #[.pointer (some ⟨p, 0, none⟩)] w fun e w' => e = .returned (.int .u32 v) ∧ RY w' 74 p r' ∧ Mods (fun b => b = p) w w' := by
  have h1 : Calls Tryz.prog 32 #[.pointer (some ⟨p, 0, none⟩)] w fun e w' => e = .returned (.int .u32 (rd32 r).1) ∧ RY w' 74 p (rd32 r).2 ∧ Mods (fun b => b = p) w w' := dU32_any h
  rw [e] at h1
  exact h1
theorem dBytes_is {w : World} {p : Nat} {r r' : Rd} {v : List Int} {n : Int} {m : Nat} (e : rdBy n r = (v, r')) (hm : v.length = m) (h : RY w 74 p r) (hn : II16 n) : Calls Tryz.prog 33 #[.pointer (some ⟨p, 0, none⟩), .int .i64 n] w fun e w' => (∃ a2 c2, e = .returned (.slice a2 m c2) ∧ By w' (New w) a2 v ∧ m ≤ c2) ∧ RY w' 74 p r' ∧ Mods (fun b => b = p) w w' := by
  have h1 : Calls Tryz.prog 33 #[.pointer (some ⟨p, 0, none⟩), .int .i64 n] w fun e w' => BytesPost w 74 (fun b => p ≤ b) p (rdBy n r).1 (rdBy n r).2 e w' := dBytes_any h n hn
  rw [e] at h1
  unfold BytesPost at h1
  simp only [hm] at h1
  exact h1
theorem RY.cells {w : World} {p : Nat} {r : Rd} (h : RY w 74 p r) : w.cell? ⟨p, 1, none⟩ = some (.int .i64 r.k) ∧ w.cell? ⟨p, 2, none⟩ = some (.int .i64 r.e) := by
  obtain ⟨a, c, h1, _, _⟩ := h.box
  exact ⟨cell_of h1 (i := 1) (v := .int .i64 r.k) rfl, cell_of h1 (i := 2) (v := .int .i64 r.e) rfl⟩
theorem RY.new {w W1 : World} {a : Option Addr} {n c : Nat} {b : List Int} (hn : b.length = n) (hnc : n ≤ c) (hl : n ≤ 900000) (hb : Bytes w a b) (hW1 : W1 = w.alloc (.cells #[.slice a n c, .int .i64 0, .int .i64 0] 74)) : RY W1 74 w.heap.size ⟨b, 0, 0⟩ := by
  have b1 : Below w.heap.size w W1 := by rw [hW1]; exact below_alloc (Below.refl _ _) (Nat.le_refl _) _
  refine ⟨⟨a, c, by rw [hW1, ← hn]; exact alloc_new w _, by simp only; omega, fun W hm => ?_⟩, Nat.le_refl _, Nat.zero_le _, by simp only; omega⟩
  exact hb.later (hm.to_below b1 b1.size (fun b hb => hb))
/-- 'append' to a new row of none. -/
theorem own_copy (W : World) (a : Option Addr) (n c : Nat) (d : List Int) (hn : d.length = n) (hd : Bytes W a d) (hmx : n ≤ 900000) (ty : TypeId) :
    ∃ a2 c2 w2, (Builtin.append_ #[26, 26] ty #[.slice (some ⟨W.heap.size, 0, none⟩) 0 0, .slice a n c]).run Tryz.prog (W.alloc (.cells #[] 5)) = .ok (.slice a2 n c2) w2 ∧ By w2 (New W) a2 d ∧ n ≤ c2 ∧ Below W.heap.size W w2 := by
  by_cases hp : 0 < n
  · obtain ⟨a2, c2, w2, hr, ho, hB⟩ := twinO W a n c d hn hp hmx hd ty
    obtain ⟨b1, _, b3⟩ := rw_by (S := New W) (RW.of_owns ho) hd.isB (fun b hb2 => by
      rcases ho.2 with ⟨e, _⟩ | ⟨g, cap, cur, e, hge, _⟩
      · rw [e] at hb2; simp [blkV] at hb2
      · rw [e] at hb2; simp [blkV] at hb2; subst hb2; exact hge)
    exact ⟨a2, c2, w2, hr, b1, b3 hp, hB⟩
  · obtain rfl : n = 0 := by omega
    obtain rfl : d = [] := List.eq_nil_of_length_eq_zero hn
    obtain ⟨i0, hi, hz0, hz1, hz2⟩ := info5b
    have hs : Src Tryz.prog i0.size 26 (.slice a 0 c) 0 [] (W.alloc (.cells #[] 5)) := by
      cases a with
      | none => exact Src.ofNil _ Tryz.underlying26 c
      | some ad => exact Src.ofSlice _ Tryz.underlying26 ad 0 c [] (by simp) (fun j u hj => by simp at hj) (fun u hu => by simp at hu)
    exact ⟨some ⟨W.heap.size, 0, none⟩, 0, W.alloc (.cells #[] 5), run_append_nothing _ 26 26 ty 5 i0 Tryz.underlying26 hi _ _ _ (Nat.le_refl _) _ hs, By.nil _ _ _, Nat.le_refl _, (Below.refl _ _).alloc (Nat.le_refl _) _⟩
def finA (x : Int) (r : Rd) (e : Int) : Int × List Int × Int := if r.e ≠ 0 ∨ 0 < r.l.length - r.k ∨ e = 15 then (0, [], 15) else (x, [], e)
theorem AnsPost.fin_ {w w' : World} {x e : Int} {r : Rd} (h1 : r.e = 0) (h2 : r.l.length - r.k = 0) (h3 : e ≠ 15) (hb : Below w.heap.size w w') : AnsPost w (finA x r e) (.returned (.tuple #[.int .u32 x, .slice none 0 0, .int .i64 e])) w' := by
  unfold finA
  rw [if_neg (by rintro (h | h | h); exact h h1; omega; exact h3 h)]
  exact ⟨none, 0, 0, rfl, By.nil _ _ _, rfl, Nat.le_refl _, hb⟩
theorem AnsPost.finb {w w' : World} {x e : Int} {r : Rd} (h : r.e ≠ 0 ∨ 0 < r.l.length - r.k ∨ e = 15) (hb : Below w.heap.size w w') : AnsPost w (finA x r e) (.returned (.tuple #[.int .u32 0, .slice none 0 0, .int .i64 15])) w' := by
  unfold finA
  rw [if_pos h]
  exact AnsPost.bad hb
end Go.Proofs.YtgeecahpfjllgaaGreatDoor
