/- Records: Add. -/
import Derived.Test.YtbfdkbdjipiliaaDoorYpF
namespace Go.Proofs.YtbfdkbdjipiliaaDoor
open Go.RowKit Go.Maps
set_option linter.unusedVariables false

/-- Bytes m have come since w. -/
structure AdI (w : World) (p : Nat) (S : Nat → Prop) (r : Rc) (m : List Int) (vv : Value) (W : World) : Prop where
  ex : ∃ S1 s1 T, RcAt W p S1 s1 ∧ SR s1 (ruR r m).1 ∧ Kp S w S1 W ∧ ((ruR r m).1.dd = false → OutL W T vv (ruR r m).2) ∧ (∀ b, blkV vv = some b → T b) ∧ ∀ b, T b → (S b ∨ w.heap.size ≤ b) ∧ ¬ S1 b ∧ b < W.heap.size
/-- What Add gives and leaves. -/
def AddP (w : World) (p : Nat) (S : Nat → Prop) (r : Rc) (l : List Int) (e : Ending) (w' : World) : Prop :=
  ∃ v S' s' T, e = .returned (.tuple #[v, .int .i64 (addR r l).2.1]) ∧ RcAt w' p S' s' ∧ SR s' (addR r l).2.2 ∧ Kp S w S' w' ∧ OutL w' T v (addR r l).1 ∧ ∀ b, T b → (S b ∨ w.heap.size ≤ b) ∧ ¬ S' b ∧ b < w'.heap.size
theorem addR_dead {r : Rc} {l m k : List Int} (hl : l = m ++ k) (h : (ruR r m).1.dd = true) : addR r l = ([], 5, (ruR r m).1) := by
  unfold addR
  cases hr : r.dd with
  | true => rw [if_pos rfl, ruR_dead m r hr]
  | false =>
    rw [if_neg (by decide), hl, ruR_app, ruR_dead k _ h, if_pos h]
theorem addR_live {r : Rc} {l : List Int} (h : (ruR r l).1.dd = false) : addR r l = ((ruR r l).2, 0, (ruR r l).1) := by
  have hr : r.dd = false := by
    have := ruR_alive r [] l (by simpa using h)
    simpa [ruR] using this
  unfold addR
  rw [if_neg (by rw [hr]; decide), if_neg (by rw [h]; decide)]
theorem AdI.zero {w : World} {p : Nat} {S : Nat → Prop} {r : Rc} {s : Pc} (h : RcAt w p S s) (hs : SR s r) : AdI w p S r [] (.slice none 0 0) w :=
  ⟨S, s, fun _ => False, h, hs, Kp.refl _ _, fun _ => OutL.nil _ _, fun b hb => by simp [blkV] at hb, fun b hb => hb.elim⟩
/-- At the end of it. -/
theorem AdI.dead {w W : World} {p : Nat} {S : Nat → Prop} {r : Rc} {l m k : List Int} {vv : Value} (h : AdI w p S r m vv W) (hl : l = m ++ k) (hd : (ruR r m).1.dd = true) : AddP w p S r l (.returned (.tuple #[.slice none 0 0, .int .i64 5])) W := by
  obtain ⟨S1, s1, T, h1, h2, h3, h4, h5, h6⟩ := h.ex
  refine ⟨.slice none 0 0, S1, s1, fun _ => False, ?_, h1, ?_, h3, ?_, fun b hb => hb.elim⟩
  · rw [addR_dead hl hd]
  · rw [addR_dead hl hd]; exact h2
  · rw [addR_dead hl hd]; exact OutL.nil _ _
theorem AdI.live {w W : World} {p : Nat} {S : Nat → Prop} {r : Rc} {l : List Int} {vv : Value} (h : AdI w p S r l vv W) (hd : (ruR r l).1.dd = false) : AddP w p S r l (.returned (.tuple #[vv, .int .i64 0])) W := by
  obtain ⟨S1, s1, T, h1, h2, h3, h4, h5, h6⟩ := h.ex
  refine ⟨vv, S1, s1, T, ?_, h1, ?_, h3, ?_, h6⟩
  · rw [addR_live hd]
  · rw [addR_live hd]; exact h2
  · rw [addR_live hd]; exact h4 hd
/-- A round that ends no piece. -/
theorem AdI.on {w W w2 : World} {p : Nat} {S S1 S2 T : Nat → Prop} {r : Rc} {m m2 : List Int} {vv : Value} {s2 : Pc} (h3 : Kp S w S1 W) (h4 : OutL W T vv (ruR r m).2) (h5 : ∀ b, blkV vv = some b → T b) (h6 : ∀ b, T b → (S b ∨ w.heap.size ≤ b) ∧ ¬ S1 b ∧ b < W.heap.size) (hR : RcAt w2 p S2 s2) (hK : Kp S1 W S2 w2) (hS : SR s2 (ruR r (m ++ m2)).1) (hO : (ruR r (m ++ m2)).1.dd = false → (ruR r (m ++ m2)).2 = (ruR r m).2) : AdI w p S r (m ++ m2) vv w2 :=
  ⟨S2, s2, T, hR, hS, h3.trans hK, fun hd => by rw [hO hd]; exact h4.keep (fun b hb hl => hK.block hl (h6 b hb).2.1), h5, fun b hb => ⟨(h6 b hb).1, hK.off (h6 b hb).2.2 (h6 b hb).2.1, Nat.lt_of_lt_of_le (h6 b hb).2.2 hK.2.size⟩⟩
/-- A round that ends one. -/
theorem AdI.put {w W w3 w4 : World} {p : Nat} {S S1 S3 T T3 : Nat → Prop} {r : Rc} {m m2 : List Int} {vv v' : Value} {s3 : Pc} (h3 : Kp S w S1 W) (h5 : ∀ b, blkV vv = some b → T b) (h6 : ∀ b, T b → (S b ∨ w.heap.size ≤ b) ∧ ¬ S1 b ∧ b < W.heap.size) (hR : RcAt w3 p S3 s3) (hK : Kp S1 W S3 w3) (hS : SR s3 (ruR r (m ++ m2)).1)
    (hT3 : ∀ b, T3 b → T b ∨ ((S1 b ∨ W.heap.size ≤ b) ∧ ¬ S3 b ∧ b < w3.heap.size)) (hm : Mods (fun b => blkV vv = some b) w3 w4) (hb : blkV v' = blkV vv ∨ ∃ y, w3.heap.size ≤ y ∧ blkV v' = some y) (hlt : ∀ b, blkV v' = some b → b < w4.heap.size) (hO : (ruR r (m ++ m2)).1.dd = false → OutL w4 (fun b => T3 b ∨ blkV v' = some b) v' (ruR r (m ++ m2)).2) : AdI w p S r (m ++ m2) v' w4 := by
  have hslt : ∀ b, S3 b → b < w3.heap.size := fun b hb2 => by obtain ⟨_, _, hx⟩ := hR; exact hx.slt b hb2
  have hT3' : ∀ b, T3 b → (S b ∨ w.heap.size ≤ b) ∧ ¬ S3 b ∧ b < w3.heap.size := fun b hb2 => by
    rcases hT3 b hb2 with h | ⟨h, h7, h8⟩
    · exact ⟨(h6 b h).1, hK.off (h6 b h).2.2 (h6 b h).2.1, Nat.lt_of_lt_of_le (h6 b h).2.2 hK.2.size⟩
    · refine ⟨?_, h7, h8⟩
      rcases h with h | h
      · exact h3.1 b h
      · exact .inr (Nat.le_trans h3.2.size h)
  have hv : ∀ b, blkV vv = some b → (S b ∨ w.heap.size ≤ b) ∧ ¬ S3 b ∧ b < w3.heap.size := fun b hb2 => ⟨(h6 b (h5 b hb2)).1, hK.off (h6 b (h5 b hb2)).2.2 (h6 b (h5 b hb2)).2.1, Nat.lt_of_lt_of_le (h6 b (h5 b hb2)).2.2 hK.2.size⟩
  refine ⟨S3, s3, fun b => T3 b ∨ blkV v' = some b, hR.keep (fun b hb2 => hm.block b (hslt b hb2) (fun e => (hv b e).2.1 hb2)) hm.size, hS, ⟨(h3.trans hK).1, (h3.trans hK).2.trans hm (fun b hb2 => (hv b hb2).1)⟩, hO, fun b hb2 => .inr hb2, fun b hb2 => ?_⟩
  rcases hb2 with h | h
  · exact ⟨(hT3' b h).1, (hT3' b h).2.1, Nat.lt_of_lt_of_le (hT3' b h).2.2 hm.size⟩
  · refine ⟨?_, ?_, hlt b h⟩
    · rcases hb with e | ⟨y, hy, e⟩
      · exact (hv b (by rw [← e]; exact h)).1
      · rw [e] at h; simp only [Option.some.injEq] at h; have := (h3.trans hK).2.size; right; omega
    · intro hs
      rcases hb with e | ⟨y, hy, e⟩
      · exact (hv b (by rw [← e]; exact h)).2.1 hs
      · rw [e] at h; simp only [Option.some.injEq] at h; have := hslt b hs; omega
theorem OutL.blk {w : World} {T : Nat → Prop} {v : Value} {L : List (List Int)} (h : OutL w T v L) : ∀ b, blkV v = some b → b < w.heap.size := fun b hb => by
  obtain ⟨M, h1, h2, h3, h4⟩ := h
  exact h2.lt hb
end Go.Proofs.YtbfdkbdjipiliaaDoor
