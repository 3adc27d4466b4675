/- The document's queues, told by the same states. -/
import Derived.Test.YtdjghkngiicncaaGreatNetN
import Derived.Test.YtdjghkngiicncaaGreatR5D
import Derived.Test.YtdjghkngiicncaaGreatRefM
import Derived.Test.YtdjghkngiicncaaGreatRefE
namespace Go.Proofs.YtdjghkngiicncaaGreat
open Go.RowKit

theorem rTake_S (w : World) (p g : Nat) (q : Qu) (S : Sd) (hdv : RDev w p g q.N q.N q.base q.n S.o S.u) (hm : Mem w g q.N S.f) :
    Calls Tryz.prog 48 #[.pointer (some ⟨p, 0, none⟩)] w fun e w' => ∃ v, e = .returned (.tuple #[.int .i64 (takeR q S).1, v, .int .i64 (takeR q S).2.2]) ∧ w'.ownsRow w.heap.size 88 3 v (takeR q S).2.1.length (cellsB (takeR q S).2.1) ∧
      RDev w' p g q.N q.N q.base q.n (takeS q S).o (takeS q S).u ∧ Mem w' g q.N S.f ∧ Mods (fun b => b = p) w w' := by
  have hne : g ≠ p := fun e => hdv.2.2.2 e.symm
  have epo := q.geo.epo
  refine (refTake_any w p g q.N q.N q.base q.n q.N S.o S.u S.f hdv hm q.rgeo).mono ?_
  rintro e w' ⟨hmo, hp⟩
  have hm' := hm.mods hmo hne
  unfold RTakePost at hp
  rw [← epo] at hp
  rcases hp with ⟨h1, rfl, hd⟩ | ⟨h1, hd, hx, h2, _, hr⟩
  · have hR : takeR q S = (0, [], 2) := by simp [takeR, h1]
    have hS : takeS q S = S := by simp [takeS, h1]
    rw [hR, hS]
    exact ⟨.slice none 0 0, rfl, ⟨rfl, .inl ⟨rfl, rfl⟩⟩, hd, hm', hmo⟩
  · have hS : takeS q S = { S with o := (S.o + 1) % 65536 } := by simp [takeS, h1]
    rw [hS]
    have hx2 : (rd S.f (q.po + (4 + S.o % q.n * 2)) 2).toNat = hx := by rw [h2]; exact Int.toNat_natCast hx
    rcases hr with ⟨h3, rfl⟩ | ⟨L, v, h3, rfl, hown⟩
    · have ht : takeR q S = (0, [], 15) := by simp [takeR, h1, hx2, h3]
      rw [ht]
      exact ⟨.slice none 0 0, rfl, ⟨rfl, .inl ⟨rfl, rfl⟩⟩, hd, hm', hmo⟩
    · have ht : takeR q S = ((hx : Int), L, 0) := by simp [takeR, h1, hx2, h3]
      rw [ht]
      exact ⟨v, rfl, hown, hd, hm', hmo⟩
theorem rGive_S (w : World) (p g : Nat) (q : Qu) (S : Sd) (hdv : RDev w p g q.N q.N q.base q.n S.o S.u) (hm : Mem w g q.N S.f) (hd len : Int) :
    Calls Tryz.prog 50 #[.pointer (some ⟨p, 0, none⟩), .int .i64 hd, .int .i64 len] w fun e w' => e = .returned (.int .i64 (giveR q hd len)) ∧
      RDev w' p g q.N q.N q.base q.n (giveS q S hd len).o (giveS q S hd len).u ∧ Mem w' g q.N (giveS q S hd len).f ∧ Mods (fun b => b = p ∨ b = g) w w' := by
  have epu := q.geo.epu
  unfold giveR giveS
  cases hb : giveB q.n hd len with
  | false =>
    refine (refGive_bad w p g q.N q.N q.base q.n S.o S.u hdv hd len hb).mono ?_
    rintro e w' ⟨rfl, rfl⟩
    exact ⟨rfl, hdv, hm, Mods.refl _ _⟩
  | true =>
    refine (refGive_ok w p g q.N q.N q.base q.n q.N S.o S.u S.f hdv hm q.rgeo hd len hb).mono ?_
    rintro e w' ⟨rfl, hmo, hdv, hm⟩
    rw [← epu] at hm
    exact ⟨rfl, hdv, hm, hmo⟩
theorem rUsed_S (w : World) (p g : Nat) (q : Qu) (S : Sd) (ar : Nat → Prop) (hdr : RDrv w p g q S.A ar) (hwf : Wf q.n S.A) (hm : Mem w g q.N S.f) :
    Calls Tryz.prog 36 #[.pointer (some ⟨p, 0, none⟩)] w fun e w' => e = .returned (.tuple #[.int .i64 (usedR q S).1, .int .i64 (usedR q S).2.1, .int .i64 (usedR q S).2.2]) ∧
      RStep w w' p g q (usedS q S).A ar ∧ Mem w' g q.N (usedS q S).f := by
  refine (refUsed_any w p g q S.A ar S.f hdr hwf hm).mono ?_
  rintro e w' ⟨hm, hp⟩
  rcases hp with ⟨h1, rfl, hs⟩ | ⟨h1, ⟨h2, rfl, hs⟩ | ⟨ch, h2, rfl, hs⟩⟩
  · rw [show usedR q S = (0, 0, 2) by simp [usedR, h1], show usedS q S = S by simp [usedS, h1]]
    exact ⟨rfl, hs, hm⟩
  · rw [show usedR q S = (0, 0, 15) by simp [usedR, h1, h2], show usedS q S = { S with A := BadA S.A } by simp [usedS, h1, h2]]
    exact ⟨rfl, hs, hm⟩
  · rw [show usedR q S = (rd S.f (q.pu + (4 + S.A.uses % q.n * 8)) 4, rd S.f (q.pu + (4 + S.A.uses % q.n * 8) + 4) 4, 0) by simp [usedR, h1, h2], show usedS q S = { S with A := UseA S.A (rd S.f (q.pu + (4 + S.A.uses % q.n * 8)) 4) ch } by simp [usedS, h1, h2]]
    exact ⟨rfl, hs, hm⟩
theorem rAdd_S (w w1 : World) (p g : Nat) (q : Qu) (S : Sd) (ar : Nat → Prop) (b : Bf) (hw : w1 = w.alloc (.cells #[.int .i64 b.addr, .int .i64 b.len, .bool b.wt] 88)) (hdr : RDrv w p g q S.A ar) (hwf : Wf q.n S.A) (hm : Mem w g q.N S.f) (hok : okB b) (hf : 0 < S.A.free.length) :
    Calls Tryz.prog 39 #[.pointer (some ⟨p, 0, none⟩), .slice (some ⟨w.heap.size, 0, none⟩) 1 1] w1 fun e w' => e = .returned (.tuple #[.int .i64 (S.A.free.getD 0 0 : Nat), .int .i64 0]) ∧ RStep w w' p g q (addS q S b).A ar ∧ Mem w' g q.N (addS q S b).f := by
  subst hw
  have hb : Below w.heap.size w (w.alloc (.cells #[.int .i64 b.addr, .int .i64 b.len, .bool b.wt] 88)) := (Below.refl _ _).alloc (Nat.le_refl _) _
  refine (rAdd_ok _ p g q S.A ar S.f (hdr.below hb) hwf (hm.below hb) (some ⟨w.heap.size, 0, none⟩) 1 1 [b] rfl (one_buf w b.addr b.len b.wt g hm.lt) (fun b2 off e => ?_) (fun b2 hb2 => ?_) (by omega) hf).mono ?_
  · simp at e
    obtain ⟨e, _⟩ := e
    subst e
    exact ⟨by simp, fun h => Nat.lt_irrefl _ (hdr.lt _ h)⟩
  · simp at hb2
    subst hb2
    exact hok
  · rintro e w' ⟨rfl, hs, hm'⟩
    obtain ⟨ar', h1, h2, h3⟩ := hs
    refine ⟨rfl, ⟨ar', h1, fun x hx => ?_, (Mods.of_below hb).tr h3⟩, hm'⟩
    rcases h2 x hx with e | e
    · exact .inl e
    · exact .inr (Nat.le_trans hb.size e)
theorem RDrv.up {w : World} {p g : Nat} {q : Qu} {A : Abs} {ar ar' : Nat → Prop} (h : RDrv w p g q A ar) (h1 : ∀ b, ar b → ar' b) (h2 : ∀ b, ar' b → b < w.heap.size) (h3 : ¬ ar' g) : RDrv w p g q A ar' := by
  obtain ⟨gt, vf, F, d⟩ := h
  exact ⟨gt, vf, F, h2, d.box, d.tk, d.row, d.fl, h1 _ d.ap, h1 _ d.agt, fun b hb => h1 _ (d.avf b hb), fun x hx b hb => h1 _ (d.ach x hx b hb), h3⟩
theorem RDrv.uses {w : World} {p g : Nat} {q : Qu} {A : Abs} {ar : Nat → Prop} (h : RDrv w p g q A ar) : cellN w p 5 = A.uses := by
  obtain ⟨gt, vf, F, d⟩ := h
  obtain ⟨_, _, _, _, _, h5, _⟩ := d.box.cells
  unfold cellN
  rw [h5]
  simp
theorem RDev.offs {w : World} {p g len cap base n o u : Nat} (h : RDev w p g len cap base n o u) : cellN w p 3 = o := by
  obtain ⟨_, _, _, h3, _⟩ := h.cells
  unfold cellN
  rw [h3]
  simp
end Go.Proofs.YtdjghkngiicncaaGreat
