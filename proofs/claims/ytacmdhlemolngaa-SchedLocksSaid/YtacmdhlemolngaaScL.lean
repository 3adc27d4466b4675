/- A law's own rows of numbers; the idle workers. -/
import Derived.Test.YtacmdhlemolngaaScT
import Derived.Test.YtacmdhlemolngaaScFrame
namespace Go.Proofs.Ytacmdhlemolngaa
open Go.RowKit Go.Maps

/-- What lay there before the law is as it was, and belongs to nobody. -/
def Lb (w0 w : World) (lab : Nat → Own) : Prop := (∀ b, b < w0.heap.size → lab b = .no) ∧ Below w0.heap.size w0 w
theorem Lb.keep {w0 w w' : World} {lab lab' : Nat → Own} (h : Lb w0 w lab) (hk : Keep lab w lab' w') : Lb w0 w' lab' :=
  ⟨fun b hb => hk.lab (Nat.lt_of_lt_of_le hb h.2.size) (h.1 b hb), hk.2.to_below h.2 h.2.size (fun b hb => by
    by_cases e : b < w0.heap.size
    · exact absurd (h.1 b e) hb
    · omega)⟩
theorem Lb.mods {w0 w w' : World} {lab : Nat → Own} (h : Lb w0 w lab) {P : Nat → Prop} (hm : Mods P w w') (hP : ∀ b, P b → w0.heap.size ≤ b) : Lb w0 w' lab := ⟨h.1, hm.to_below h.2 h.2.size hP⟩
/-- A row of numbers of the law's own. -/
def Lr (w0 w : World) (lab : Nat → Own) (v : Value) (l : List Int) : Prop := w.ownsRow 0 3 1 v l.length (ints l) ∧ ∀ g, v.ownBlock = some g → lab g = .no ∧ w0.heap.size ≤ g
theorem Lr.nil (w0 w : World) (lab : Nat → Own) : Lr w0 w lab (.slice none 0 0) [] := ⟨⟨rfl, .inl ⟨rfl, rfl⟩⟩, fun g hg => by simp [Value.ownBlock] at hg⟩
theorem Lr.keep {w0 w w' : World} {lab lab' : Nat → Own} {v : Value} {l : List Int} (h : Lr w0 w lab v l) (hk : Keep lab w lab' w') : Lr w0 w' lab' v l :=
  ⟨owns_keep h.1 (fun g hg => hk.block (owns_lt h.1 hg).1 (h.2 g hg).1), fun g hg => ⟨hk.lab (owns_lt h.1 hg).1 (h.2 g hg).1, (h.2 g hg).2⟩⟩
theorem Lr.mods {w0 w w' : World} {lab : Nat → Own} {v : Value} {l : List Int} (h : Lr w0 w lab v l) {P : Nat → Prop} (hm : Mods P w w') (hn : ∀ g, v.ownBlock = some g → ¬ P g) : Lr w0 w' lab v l := ⟨hm.row h.1 hn, h.2⟩
theorem Lr.push {w0 w : World} {lab : Nat → Own} {v : Value} {l : List Int} (h : Lr w0 w lab v l) (hb : w0.heap.size ≤ w.heap.size) (hlt : ∀ b, lab b ≠ .no → b < w.heap.size) (hl : l.length ≤ 1000000) (x : Int) :
    ∃ v' w', (Builtin.append_ #[31, 31] 31 #[v, .slice (some ⟨w.heap.size, 0, none⟩) 1 1]).run Try.prog (w.alloc (.cells #[.int .i64 x] 3)) = .ok v' w' ∧ Lr w0 w' lab v' (l ++ [x]) ∧ Mods (fun b => v.ownBlock = some b) w w' ∧ (∀ g, v'.ownBlock = some g → v.ownBlock = some g ∨ w.heap.size < g) := by
  obtain ⟨W1, hW1⟩ : ∃ W1, W1 = w.alloc (.cells #[.int .i64 x] 3) := ⟨_, rfl⟩
  have hb1 : Below w.heap.size w W1 := by rw [hW1]; exact (Below.refl _ _).alloc (Nat.le_refl _) _
  have hs1 : W1.heap.size = w.heap.size + 1 := by rw [hW1]; simp
  have hc1 : W1.cell? ⟨w.heap.size, 0, none⟩ = some (.int .i64 x) := cell_of (by rw [hW1]; exact alloc_new w _) rfl
  have hr1 : W1.ownsRow 0 3 1 v l.length (ints l) := owns_keep h.1 (fun g hg => hb1.block g (owns_lt h.1 hg).1)
  obtain ⟨v', w', hap, ho, hm, hob⟩ := app_run W1 v l hr1 w.heap.size 1 1 [x] rfl (one_cell hc1) (by omega) 31
  rw [← hW1]
  have hv : ∀ g, v'.ownBlock = some g → v.ownBlock = some g ∨ w.heap.size < g := fun g hg => by
    rcases hob with e | e
    · exact .inl (by rw [← e]; exact hg)
    · rw [e] at hg
      simp at hg
      exact .inr (by omega)
  refine ⟨v', w', hap, ⟨ho, fun g hg => ?_⟩, (Mods.of_below hb1).tr hm, hv⟩
  rcases hv g hg with e | e
  · exact h.2 g e
  · refine ⟨?_, by omega⟩
    cases e2 : lab g <;> first | rfl | (have := hlt g (by rw [e2]; simp); omega)
theorem Lr.off {w0 w w' : World} {lab : Nat → Own} {v : Value} {l : List Int} {p m : Nat} {A : Ab} (h : Lr w0 w lab v l) (hS : Sc w p lab A m) (hm : Mods (fun b => v.ownBlock = some b) w w') : Sc w' p lab A m := hS.outside hm (fun b e => (h.2 b e).1)
set_option maxRecDepth 100000 in
set_option maxHeartbeats 2000000 in
theorem some_any (w0 : World) (N : Nat) (hN : N ≤ 12) :
    Calls Try.prog 25 #[.int .i64 N] w0 fun e w' => ∃ p lab cs, e = .returned (.pointer (some ⟨p, 0, none⟩)) ∧ Sc w' p lab (tS 106 cs 0) 0 ∧ cs.length = N ∧ Lb w0 w' lab := by
  have HN := hid (New_any w0)
  go_enter Try.func25, Try.ntmps25
  go_wp2_with fail
  refine HN.out.mono ?_
  rintro e w1 ⟨p, lab, rfl, hS, hb1, hl1⟩
  have HS := hid hS
  have HL : Hid (Lb w0 w1 lab) := hid ⟨hl1, hb1⟩
  clear hS hb1 hl1
  go_wp2_with fail
  go_loopw [4] (fun i wr => ∃ (k : Nat) (lab1 : Nat → Own) (cs : List Nat), k ≤ N ∧ i = .int .i64 k ∧ cs.length = k ∧ Sc wr p lab1 (tS 106 cs 0) 0 ∧ Lb w0 wr lab1) (fun i _ => N - (RowKit.intOf i).toNat)
  case atStart => exact ⟨0, lab, [], Nat.zero_le _, rfl, rfl, HS.out, HL.out⟩
  case round =>
    obtain ⟨k, lab1, cs, hk, rfl, hcs, hS1, hL1⟩ := hrel
    by_cases hlt : k < N
    · have hki : (k : Int) < N := by omega
      obtain ⟨W3, hW3⟩ : ∃ W3, W3 = wr.alloc (.cells #[] 108) := ⟨_, rfl⟩
      have hb3 : Below wr.heap.size wr W3 := by rw [hW3]; exact (Below.refl _ _).alloc (Nat.le_refl _) _
      have HSP := hid (Spawn_any (hS1.below hb3) ((tS_inv _ cs 0).fit (by rw [tS_len]; omega)) 106 wr.heap.size)
      rw [tS_spawn, tS_len] at HSP
      have HL3 := hid (hL1.keep (Keep.below hb3))
      have HLN : Hid (∀ z : List Nat, z = cs ++ [wr.heap.size] → z.length = k + 1) := hid (fun z hz => by rw [hz, List.length_append, hcs]; rfl)
      clear hS1 hL1 hb3 hcs
      generalize cs.length = ln at *
      go_wp2_with (go_at_call 13; rw [← hW3]; refine HSP.out.mono ?_; rintro e w6 ⟨rfl, lab6, h6, hK6⟩; have H6 := hid h6; have HL6 := hid (HL3.out.keep hK6); clear h6 hK6)
      go_roundw
      case rel => exact ⟨k + 1, lab6, cs ++ [wr.heap.size], by omega, by go_num, HLN.out _ rfl, H6.out, HL6.out⟩
      case measure => simp [RowKit.intOf]; omega
    · have hki : ¬ ((k : Int) < N) := by omega
      have hki' : decide ((k : Int) < N) = false := decide_eq_false hki
      have HR : Hid (Sc wr p lab1 (tS 106 cs 0) 0 ∧ cs.length = N ∧ Lb w0 wr lab1) := hid ⟨hS1, by omega, hL1⟩
      clear hS1 hL1 hcs
      go_wp2
      go_ret
      exact ⟨p, rfl, lab1, cs, HR.out⟩
end Go.Proofs.Ytacmdhlemolngaa
