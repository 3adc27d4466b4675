/- The calls of both sides, told by one state each. -/
import Derived.Test.YtjnhcbompgmknaaBothA
namespace Go.Proofs.Ytjnhcbompgmknaa
open Go.RowKit

/-- What Take tells, and what it leaves. -/
def takeR (q : Qu) (S : Sd) : Int × List Bf × Int :=
  if rd S.f (q.po + 2) 2 = S.o then (0, [], 2)
  else match rch S.f q.base q.n (q.n + 1) (rd S.f (q.po + (4 + S.o % q.n * 2)) 2).toNat [] with
    | none => (0, [], 15)
    | some L => (((rd S.f (q.po + (4 + S.o % q.n * 2)) 2).toNat : Nat), L, 0)
def takeS (q : Qu) (S : Sd) : Sd := if rd S.f (q.po + 2) 2 = S.o then S else { S with o := (S.o + 1) % 65536 }
def giveR (q : Qu) (hd len : Int) : Int := if giveB q.n hd len then 0 else 1
def giveS (q : Qu) (S : Sd) (hd len : Int) : Sd := if giveB q.n hd len then { S with f := given S.f q.pu q.n S.u hd len, u := (S.u + 1) % 65536 } else S
def usedR (q : Qu) (S : Sd) : Int × Int × Int :=
  if rd S.f (q.pu + 2) 2 = S.A.uses then (0, 0, 2)
  else match look S.A.fl (rd S.f (q.pu + (4 + S.A.uses % q.n * 8)) 4) with
    | none => (0, 0, 15)
    | some _ => (rd S.f (q.pu + (4 + S.A.uses % q.n * 8)) 4, rd S.f (q.pu + (4 + S.A.uses % q.n * 8) + 4) 4, 0)
def usedS (q : Qu) (S : Sd) : Sd :=
  if rd S.f (q.pu + 2) 2 = S.A.uses then S
  else match look S.A.fl (rd S.f (q.pu + (4 + S.A.uses % q.n * 8)) 4) with
    | none => { S with A := BadA S.A }
    | some ch => { S with A := UseA S.A (rd S.f (q.pu + (4 + S.A.uses % q.n * 8)) 4) ch }

section
variable {w0 w : World} {H : Hd} {c : Nat} {S S2 : Sd} {T : List Int} {Z : Nat → Prop}

theorem Both.take1 (h : Both Z w0 w H c S S2 T) : Calls Try.prog 21 #[.pointer (some ⟨H.pv, 0, none⟩)] w fun e w' => ∃ v, e = .returned (.tuple #[.int .i64 (takeR H.q S).1, v, .int .i64 (takeR H.q S).2.2]) ∧ w'.ownsRow w.heap.size 51 3 v (takeR H.q S).2.1.length (cellsB (takeR H.q S).2.1) ∧ Goes Z w0 w w' H c (takeS H.q S) S2 T ∧ Mods (fun b => b = H.pv) w w' := by
  obtain ⟨vt, al, ar, lab, b, hZ⟩ := h
  have hne : H.q.g ≠ H.pv := fun e => b.dev.2.2.2 e.symm
  refine (Take_any w H.pv H.q S.o S.u S.f b.dev b.mem).mono ?_
  rintro e w' ⟨hmo, hp⟩
  have hmo2 : Mods (fun b => b = H.pv ∨ b = H.q.g) w w' := hmo.weak (fun b e => .inl (.inl e))
  have hm := b.mem.mods hmo hne
  rcases hp with ⟨h1, rfl, hd⟩ | ⟨h1, hd, hx, h2, _, hr⟩
  · refine ⟨.slice none 0 0, ?_, ?_, ?_, hmo⟩
    · simp [takeR, h1]
    · rw [show (takeR H.q S).2.1 = [] by simp [takeR, h1]]
      exact ⟨rfl, .inl ⟨rfl, rfl⟩⟩
    · rw [show takeS H.q S = S by simp [takeS, h1]]
      exact b.toDev hZ hmo2 hd hm
  · have hB := b.toDev hZ hmo2 hd hm
    have hS : takeS H.q S = { S with o := (S.o + 1) % 65536 } := by simp [takeS, h1]
    rw [hS]
    have hx2 : (rd S.f (H.q.po + (4 + S.o % H.q.n * 2)) 2).toNat = hx := by rw [h2]; exact Int.toNat_natCast hx
    rcases hr with ⟨h3, rfl⟩ | ⟨L, v, h3, rfl, hown⟩
    · have ht : takeR H.q S = (0, [], 15) := by simp [takeR, h1, hx2, h3]
      rw [ht]
      exact ⟨.slice none 0 0, rfl, ⟨rfl, .inl ⟨rfl, rfl⟩⟩, hB, hmo⟩
    · have ht : takeR H.q S = ((hx : Int), L, 0) := by simp [takeR, h1, hx2, h3]
      rw [ht]
      exact ⟨v, rfl, hown, hB, hmo⟩
theorem Both.take2 (h : Both Z w0 w H c S S2 T) : Calls Try.prog 29 #[.pointer (some ⟨H.py, 0, none⟩)] w fun e w' => ∃ v, e = .returned (.tuple #[.int .i64 (takeR H.q S2).1, v, .int .i64 (takeR H.q S2).2.2]) ∧ w'.ownsRow w.heap.size 51 3 v (takeR H.q S2).2.1.length (cellsB (takeR H.q S2).2.1) ∧ Goes Z w0 w w' H c S (takeS H.q S2) T ∧ Mods (fun b => b = H.py) w w' := by
  obtain ⟨vt, al, ar, lab, b, hZ⟩ := h
  have hne : H.g ≠ H.py := fun e => b.rdev.2.2.2 e.symm
  have epo := H.q.geo.epo
  refine (refTake_any w H.py H.g H.q.N H.q.N H.q.base H.q.n H.q.N S2.o S2.u S2.f b.rdev b.rmem H.q.rgeo).mono ?_
  rintro e w' ⟨hmo, hp⟩
  have hmo2 : Mods (fun b => b = H.py ∨ b = H.g) w w' := hmo.weak (fun b e => .inl (.inl e))
  have hm := b.rmem.mods hmo hne
  unfold RTakePost at hp
  rw [← epo] at hp
  rcases hp with ⟨h1, rfl, hd⟩ | ⟨h1, hd, hx, h2, _, hr⟩
  · refine ⟨.slice none 0 0, ?_, ?_, ?_, hmo⟩
    · simp [takeR, h1]
    · rw [show (takeR H.q S2).2.1 = [] by simp [takeR, h1]]
      exact ⟨rfl, .inl ⟨rfl, rfl⟩⟩
    · rw [show takeS H.q S2 = S2 by simp [takeS, h1]]
      exact b.toRdev hZ hmo2 hd hm
  · have hB := b.toRdev hZ hmo2 hd hm
    have hS : takeS H.q S2 = { S2 with o := (S2.o + 1) % 65536 } := by simp [takeS, h1]
    rw [hS]
    have hx2 : (rd S2.f (H.q.po + (4 + S2.o % H.q.n * 2)) 2).toNat = hx := by rw [h2]; exact Int.toNat_natCast hx
    rcases hr with ⟨h3, rfl⟩ | ⟨L, v, h3, rfl, hown⟩
    · have ht : takeR H.q S2 = (0, [], 15) := by simp [takeR, h1, hx2, h3]
      rw [ht]
      exact ⟨.slice none 0 0, rfl, ⟨rfl, .inl ⟨rfl, rfl⟩⟩, hB, hmo⟩
    · have ht : takeR H.q S2 = ((hx : Int), L, 0) := by simp [takeR, h1, hx2, h3]
      rw [ht]
      exact ⟨v, rfl, hown, hB, hmo⟩
theorem Both.give1 (h : Both Z w0 w H c S S2 T) (hd len : Int) (hl : Is64 len) : Calls Try.prog 22 #[.pointer (some ⟨H.pv, 0, none⟩), .int .i64 hd, .int .i64 len] w fun e w' => e = .returned (.int .i64 (giveR H.q hd len)) ∧ Goes Z w0 w w' H c (giveS H.q S hd len) S2 T := by
  obtain ⟨vt, al, ar, lab, b, hZ⟩ := h
  unfold giveR giveS
  cases hb : giveB H.q.n hd len with
  | false =>
    refine (Give_bad w H.pv H.q S.o S.u b.dev hd len hl hb).mono ?_
    rintro e w' ⟨rfl, rfl⟩
    exact ⟨rfl, ⟨vt, al, ar, lab, b, hZ⟩, fun _ _ => rfl⟩
  | true =>
    refine (Give_ok w H.pv H.q S.o S.u S.f b.dev b.mem hd len hb).mono ?_
    rintro e w' ⟨rfl, hmo, hdv, hm⟩
    exact ⟨rfl, b.toDev hZ hmo hdv hm⟩
theorem Both.give2 (h : Both Z w0 w H c S S2 T) (hd len : Int) : Calls Try.prog 30 #[.pointer (some ⟨H.py, 0, none⟩), .int .i64 hd, .int .i64 len] w fun e w' => e = .returned (.int .i64 (giveR H.q hd len)) ∧ Goes Z w0 w w' H c S (giveS H.q S2 hd len) T := by
  obtain ⟨vt, al, ar, lab, b, hZ⟩ := h
  have epu := H.q.geo.epu
  unfold giveR giveS
  cases hb : giveB H.q.n hd len with
  | false =>
    refine (refGive_bad w H.py H.g H.q.N H.q.N H.q.base H.q.n S2.o S2.u b.rdev hd len hb).mono ?_
    rintro e w' ⟨rfl, rfl⟩
    exact ⟨rfl, ⟨vt, al, ar, lab, b, hZ⟩, fun _ _ => rfl⟩
  | true =>
    refine (refGive_ok w H.py H.g H.q.N H.q.N H.q.base H.q.n H.q.N S2.o S2.u S2.f b.rdev b.rmem H.q.rgeo hd len hb).mono ?_
    rintro e w' ⟨rfl, hmo, hdv, hm⟩
    rw [← epu] at hm
    exact ⟨rfl, b.toRdev hZ hmo hdv hm⟩
theorem Both.used1 (h : Both Z w0 w H c S S2 T) : Calls Try.prog 23 #[.pointer (some ⟨H.pd, 0, none⟩)] w fun e w' => e = .returned (.tuple #[.int .i64 (usedR H.q S).1, .int .i64 (usedR H.q S).2.1, .int .i64 (usedR H.q S).2.2]) ∧ Goes Z w0 w w' H c (usedS H.q S) S2 T := by
  obtain ⟨vt, al, ar, lab, b, hZ⟩ := h
  refine (Used_any w H.pd H.q S.A c al S.f b.drv b.mem).mono ?_
  rintro e w' ⟨hm, hp⟩
  rcases hp with ⟨h1, rfl, hs⟩ | ⟨h1, ⟨h2, rfl, hs⟩ | ⟨ch, h2, rfl, hs⟩⟩
  · rw [show usedR H.q S = (0, 0, 2) by simp [usedR, h1], show usedS H.q S = S by simp [usedS, h1]]
    exact ⟨rfl, b.toDrv hZ hs hm⟩
  · rw [show usedR H.q S = (0, 0, 15) by simp [usedR, h1, h2], show usedS H.q S = { S with A := BadA S.A } by simp [usedS, h1, h2]]
    exact ⟨rfl, b.toDrv hZ hs hm⟩
  · rw [show usedR H.q S = (rd S.f (H.q.pu + (4 + S.A.uses % H.q.n * 8)) 4, rd S.f (H.q.pu + (4 + S.A.uses % H.q.n * 8) + 4) 4, 0) by simp [usedR, h1, h2], show usedS H.q S = { S with A := UseA S.A (rd S.f (H.q.pu + (4 + S.A.uses % H.q.n * 8)) 4) ch } by simp [usedS, h1, h2]]
    exact ⟨rfl, b.toDrv hZ hs hm⟩
theorem Both.used2 (h : Both Z w0 w H c S S2 T) (hwf : Wf H.q.n S2.A) : Calls Try.prog 31 #[.pointer (some ⟨H.px, 0, none⟩)] w fun e w' => e = .returned (.tuple #[.int .i64 (usedR H.q S2).1, .int .i64 (usedR H.q S2).2.1, .int .i64 (usedR H.q S2).2.2]) ∧ Goes Z w0 w w' H c S (usedS H.q S2) T := by
  obtain ⟨vt, al, ar, lab, b, hZ⟩ := h
  refine (refUsed_any w H.px H.g H.q S2.A ar S2.f b.rdrv hwf b.rmem).mono ?_
  rintro e w' ⟨hm, hp⟩
  rcases hp with ⟨h1, rfl, hs⟩ | ⟨h1, ⟨h2, rfl, hs⟩ | ⟨ch, h2, rfl, hs⟩⟩
  · rw [show usedR H.q S2 = (0, 0, 2) by simp [usedR, h1], show usedS H.q S2 = S2 by simp [usedS, h1]]
    exact ⟨rfl, b.toRdrv hZ hs hm⟩
  · rw [show usedR H.q S2 = (0, 0, 15) by simp [usedR, h1, h2], show usedS H.q S2 = { S2 with A := BadA S2.A } by simp [usedS, h1, h2]]
    exact ⟨rfl, b.toRdrv hZ hs hm⟩
  · rw [show usedR H.q S2 = (rd S2.f (H.q.pu + (4 + S2.A.uses % H.q.n * 8)) 4, rd S2.f (H.q.pu + (4 + S2.A.uses % H.q.n * 8) + 4) 4, 0) by simp [usedR, h1, h2], show usedS H.q S2 = { S2 with A := UseA S2.A (rd S2.f (H.q.pu + (4 + S2.A.uses % H.q.n * 8)) 4) ch } by simp [usedS, h1, h2]]
    exact ⟨rfl, b.toRdrv hZ hs hm⟩
end
end Go.Proofs.Ytjnhcbompgmknaa
