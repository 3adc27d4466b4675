/- vnet: the state of one queue, and what each call of virtq makes of it. -/
import Derived.Test.YtdjghkngiicncaaGreatRunA
namespace Go.Proofs.YtdjghkngiicncaaGreat
open Go.RowKit

structure Sd where
  A : Abs
  f : Nat → Int
  o : Nat
  u : Nat
/-- What Take tells, and what it leaves. -/
def takeR (q : Qu) (S : Sd) : Int × List Bf × Int :=
  if rd S.f (q.po + 2) 2 = S.o then (0, [], 2)
  else match rch S.f q.base q.n (q.n + 1) (rd S.f (q.po + (4 + S.o % q.n * 2)) 2).toNat [] with
    | none => (0, [], 15)
    | some L => (((rd S.f (q.po + (4 + S.o % q.n * 2)) 2).toNat : Nat), L, 0)
def takeS (q : Qu) (S : Sd) : Sd := if rd S.f (q.po + 2) 2 = S.o then S else { S with o := (S.o + 1) % 65536 }
def giveR (q : Qu) (hd len : Int) : Int := if giveB q.n hd len then 0 else 1
def giveS (q : Qu) (S : Sd) (hd len : Int) : Sd := if giveB q.n hd len then { S with f := given S.f q.pu q.n S.u hd len, u := (S.u + 1) % 65536 } else S
def usedR (q : Qu) (S : Sd) : Int × Int × Int :=
  if rd S.f (q.pu + 2) 2 = S.A.uses then (0, 0, 2)
  else match look S.A.fl (rd S.f (q.pu + (4 + S.A.uses % q.n * 8)) 4) with
    | none => (0, 0, 15)
    | some _ => (rd S.f (q.pu + (4 + S.A.uses % q.n * 8)) 4, rd S.f (q.pu + (4 + S.A.uses % q.n * 8) + 4) 4, 0)
def usedS (q : Qu) (S : Sd) : Sd :=
  if rd S.f (q.pu + 2) 2 = S.A.uses then S
  else match look S.A.fl (rd S.f (q.pu + (4 + S.A.uses % q.n * 8)) 4) with
    | none => { S with A := BadA S.A }
    | some ch => { S with A := UseA S.A (rd S.f (q.pu + (4 + S.A.uses % q.n * 8)) 4) ch }
def addS (q : Qu) (S : Sd) (b : Bf) : Sd := { S with A := AddA S.A 1, f := addF S.f q S.A [b] }

theorem Take_S (w : World) (pv : Nat) (q : Qu) (S : Sd) (hdv : Dev w pv q S.o S.u) (hm : Mem w q.g q.N S.f) :
    Calls Tryz.prog 67 #[.pointer (some ⟨pv, 0, none⟩)] w fun e w' => ∃ v, e = .returned (.tuple #[.int .i64 (takeR q S).1, v, .int .i64 (takeR q S).2.2]) ∧ w'.ownsRow w.heap.size 88 3 v (takeR q S).2.1.length (cellsB (takeR q S).2.1) ∧
      Dev w' pv q (takeS q S).o (takeS q S).u ∧ Mem w' q.g q.N S.f ∧ Mods (fun b => b = pv) w w' := by
  have hne : q.g ≠ pv := fun e => hdv.2.2.2 e.symm
  refine (Take_any w pv q S.o S.u S.f hdv hm).mono ?_
  rintro e w' ⟨hmo, hp⟩
  have hm' := hm.mods hmo hne
  rcases hp with ⟨h1, rfl, hd⟩ | ⟨h1, hd, hx, h2, _, hr⟩
  · have hR : takeR q S = (0, [], 2) := by simp [takeR, h1]
    have hS : takeS q S = S := by simp [takeS, h1]
    rw [hR, hS]
    exact ⟨.slice none 0 0, rfl, ⟨rfl, .inl ⟨rfl, rfl⟩⟩, hd, hm', hmo⟩
  · have hS : takeS q S = { S with o := (S.o + 1) % 65536 } := by simp [takeS, h1]
    rw [hS]
    have hx2 : (rd S.f (q.po + (4 + S.o % q.n * 2)) 2).toNat = hx := by rw [h2]; exact Int.toNat_natCast hx
    rcases hr with ⟨h3, rfl⟩ | ⟨L, v, h3, rfl, hown⟩
    · have ht : takeR q S = (0, [], 15) := by simp [takeR, h1, hx2, h3]
      rw [ht]
      exact ⟨.slice none 0 0, rfl, ⟨rfl, .inl ⟨rfl, rfl⟩⟩, hd, hm', hmo⟩
    · have ht : takeR q S = ((hx : Int), L, 0) := by simp [takeR, h1, hx2, h3]
      rw [ht]
      exact ⟨v, rfl, hown, hd, hm', hmo⟩
theorem Give_S (w : World) (pv : Nat) (q : Qu) (S : Sd) (hdv : Dev w pv q S.o S.u) (hm : Mem w q.g q.N S.f) (hd len : Int) (hl : Is64 len) :
    Calls Tryz.prog 47 #[.pointer (some ⟨pv, 0, none⟩), .int .i64 hd, .int .i64 len] w fun e w' => e = .returned (.int .i64 (giveR q hd len)) ∧
      Dev w' pv q (giveS q S hd len).o (giveS q S hd len).u ∧ Mem w' q.g q.N (giveS q S hd len).f ∧ Mods (fun b => b = pv ∨ b = q.g) w w' := by
  unfold giveR giveS
  cases hb : giveB q.n hd len with
  | false =>
    refine (Give_bad w pv q S.o S.u hdv hd len hl hb).mono ?_
    rintro e w' ⟨rfl, rfl⟩
    exact ⟨rfl, hdv, hm, Mods.refl _ _⟩
  | true =>
    refine (Give_ok w pv q S.o S.u S.f hdv hm hd len hb).mono ?_
    rintro e w' ⟨rfl, hmo, hdv, hm⟩
    exact ⟨rfl, hdv, hm, hmo⟩
theorem Used_S (w : World) (pd : Nat) (q : Qu) (S : Sd) (c : Nat) (al : Nat → Prop) (hdr : Drv w pd q S.A c al) (hm : Mem w q.g q.N S.f) :
    Calls Tryz.prog 40 #[.pointer (some ⟨pd, 0, none⟩)] w fun e w' => e = .returned (.tuple #[.int .i64 (usedR q S).1, .int .i64 (usedR q S).2.1, .int .i64 (usedR q S).2.2]) ∧
      Step w w' pd q (usedS q S).A c al ∧ Mem w' q.g q.N (usedS q S).f := by
  refine (Used_any w pd q S.A c al S.f hdr hm).mono ?_
  rintro e w' ⟨hm, hp⟩
  rcases hp with ⟨h1, rfl, hs⟩ | ⟨h1, ⟨h2, rfl, hs⟩ | ⟨ch, h2, rfl, hs⟩⟩
  · rw [show usedR q S = (0, 0, 2) by simp [usedR, h1], show usedS q S = S by simp [usedS, h1]]
    exact ⟨rfl, hs, hm⟩
  · rw [show usedR q S = (0, 0, 15) by simp [usedR, h1, h2], show usedS q S = { S with A := BadA S.A } by simp [usedS, h1, h2]]
    exact ⟨rfl, hs, hm⟩
  · rw [show usedR q S = (rd S.f (q.pu + (4 + S.A.uses % q.n * 8)) 4, rd S.f (q.pu + (4 + S.A.uses % q.n * 8) + 4) 4, 0) by simp [usedR, h1, h2], show usedS q S = { S with A := UseA S.A (rd S.f (q.pu + (4 + S.A.uses % q.n * 8)) 4) ch } by simp [usedS, h1, h2]]
    exact ⟨rfl, hs, hm⟩

/-- How many chains are offered and not yet taken; how many are used and not yet taken back. -/
def left (q : Qu) (S : Sd) : Nat := ((rd S.f (q.po + 2) 2 - S.o) % 65536).toNat
def more (q : Qu) (S : Sd) : Nat := ((rd S.f (q.pu + 2) 2 - S.A.uses) % 65536).toNat
/-- A piece that is asked for. -/
def pcB (N : Nat) (P : Bf → Bool) : List Bf → Bool
  | [b] => P b && decide (b.addr ≤ N - b.len)
  | _ => false
/-- next: the next chain that is such a piece. -/
def nextN (q : Qu) (P : Bf → Bool) : Nat → Sd → Sd × Option (Int × Bf)
  | 0, S => (S, none)
  | k + 1, S =>
    if (takeR q S).2.2 = 15 then nextN q P k (takeS q S)
    else if pcB q.N P (takeR q S).2.1 then (takeS q S, some ((takeR q S).1, (takeR q S).2.1.headD default))
    else nextN q P k (giveS q (takeS q S) (takeR q S).1 0)
def nextS (q : Qu) (P : Bf → Bool) (S : Sd) : Sd × Option (Int × Bf) := nextN q P (left q S) S

theorem given_po (f : Nat → Int) (q : Qu) (u : Nat) (hd len : Int) : rd (given f q.pu q.n u hd len) (q.po + 2) 2 = rd f (q.po + 2) 2 := given_low f q u hd len _ _ (by have := q.geo.epo; have := q.geo.epu; omega)
/-- The state's numbers are in bounds. -/
structure Ok (q : Qu) (S : Sd) : Prop where
  b : ∀ i, i < q.N → IsB (S.f i)
  o : S.o < 65536
  u : S.u < 65536
  wf : Wf q.n S.A
theorem rd_bd' {f : Nat → Int} {N : Nat} (h : ∀ i, i < N → IsB (f i)) (a n : Nat) (hn : a + n ≤ N) : 0 ≤ rd f a n ∧ rd f a n < 256 ^ n := by
  have := leOf_bd (at_ f a n) (fun x hx => by
    simp only [at_, List.mem_map, List.mem_range] at hx
    obtain ⟨i, hi, rfl⟩ := hx
    exact h _ (by omega))
  rw [at_len] at this
  exact this
theorem Ok.rdo {q : Qu} {S : Sd} (h : Ok q S) : 0 ≤ rd S.f (q.po + 2) 2 ∧ rd S.f (q.po + 2) 2 < 65536 := by
  have := q.geo.epo; have := q.geo.fit; have := q.geo.n1
  simpa using rd_bd' h.b (q.po + 2) 2 (by omega)
theorem Ok.rdu {q : Qu} {S : Sd} (h : Ok q S) : 0 ≤ rd S.f (q.pu + 2) 2 ∧ rd S.f (q.pu + 2) 2 < 65536 := by
  have := q.geo.epu; have := q.geo.fit; have := q.geo.n1
  simpa using rd_bd' h.b (q.pu + 2) 2 (by omega)
theorem Ok.left0 {q : Qu} {S : Sd} (h : Ok q S) : left q S = 0 ↔ rd S.f (q.po + 2) 2 = S.o := by
  have := h.rdo; have := h.o; unfold left; omega
theorem Ok.more0 {q : Qu} {S : Sd} (h : Ok q S) : more q S = 0 ↔ rd S.f (q.pu + 2) 2 = S.A.uses := by
  have := h.rdu; have := h.wf.u; unfold more; omega
theorem takeS_step {q : Qu} {S : Sd} (h : Ok q S) (hne : ¬ rd S.f (q.po + 2) 2 = S.o) : left q S = left q (takeS q S) + 1 := by
  have := h.rdo; have := h.o
  rw [show takeS q S = { S with o := (S.o + 1) % 65536 } by simp [takeS, hne]]
  unfold left
  simp only
  omega
theorem giveS_left (q : Qu) (S : Sd) (hd len : Int) : left q (giveS q S hd len) = left q S := by
  unfold giveS left
  split
  · simp only [given_po]
  · rfl
theorem takeR_none {q : Qu} {S : Sd} : (takeR q S).2.2 = 2 ↔ rd S.f (q.po + 2) 2 = S.o := by
  unfold takeR
  split
  · simp [*]
  · split <;> simp [*]
theorem takeR_kind (q : Qu) (S : Sd) : (takeR q S).2.2 = 2 ∨ (takeR q S).2.2 = 15 ∨ (takeR q S).2.2 = 0 := by
  unfold takeR
  split
  · simp
  · split <;> simp
theorem Ok.take {q : Qu} {S : Sd} (h : Ok q S) : Ok q (takeS q S) := by
  unfold takeS
  split
  · exact h
  · exact ⟨h.b, Nat.mod_lt _ (by omega), h.u, h.wf⟩
theorem wr_b {f : Nat → Int} {N a n : Nat} {v : Int} (h : ∀ i, i < N → IsB (f i)) : ∀ i, i < N → IsB (wr f a n v i) := wr_isB h
theorem Ok.give {q : Qu} {S : Sd} (h : Ok q S) (hd len : Int) : Ok q (giveS q S hd len) := by
  unfold giveS
  split
  · exact ⟨wr_b (wr_b (wr_b h.b)), h.o, Nat.mod_lt _ (by omega), h.wf⟩
  · exact h
theorem Ok.used {q : Qu} {S : Sd} (h : Ok q S) : Ok q (usedS q S) := by
  unfold usedS
  split
  · exact h
  · split
    · exact ⟨h.b, h.o, h.u, BadA_wf h.wf⟩
    · rename_i hl
      exact ⟨h.b, h.o, h.u, UseA_wf h.wf hl⟩

theorem next_none {q : Qu} {P : Bf → Bool} {S : Sd} (h : Ok q S) (he : (takeR q S).2.2 = 2) : nextS q P S = (S, none) := by
  unfold nextS
  rw [h.left0.2 (takeR_none.1 he)]
  rfl
theorem next_bad {q : Qu} {P : Bf → Bool} {S : Sd} (h : Ok q S) (he : (takeR q S).2.2 = 15) : nextS q P S = nextS q P (takeS q S) := by
  unfold nextS
  rw [takeS_step h (fun e => by rw [takeR_none.2 e] at he; omega)]
  rw [nextN, if_pos he]
theorem next_some {q : Qu} {P : Bf → Bool} {S : Sd} (h : Ok q S) (he : (takeR q S).2.2 = 0) (hf : pcB q.N P (takeR q S).2.1 = true) : nextS q P S = (takeS q S, some ((takeR q S).1, (takeR q S).2.1.headD default)) := by
  unfold nextS
  rw [takeS_step h (fun e => by rw [takeR_none.2 e] at he; omega)]
  rw [nextN, if_neg (by omega), if_pos hf]
theorem next_skip {q : Qu} {P : Bf → Bool} {S : Sd} (h : Ok q S) (he : (takeR q S).2.2 = 0) (hf : pcB q.N P (takeR q S).2.1 = false) : nextS q P S = nextS q P (giveS q (takeS q S) (takeR q S).1 0) := by
  unfold nextS
  rw [takeS_step h (fun e => by rw [takeR_none.2 e] at he; omega), giveS_left]
  rw [nextN, if_neg (by omega), hf]
  simp

/-- takeBack: all that was used. -/
def backN (q : Qu) : Nat → Sd → Sd
  | 0, S => S
  | k + 1, S => backN q k (usedS q S)
def backS (q : Qu) (S : Sd) : Sd := backN q (more q S) S
theorem usedR_none {q : Qu} {S : Sd} : (usedR q S).2.2 = 2 ↔ rd S.f (q.pu + 2) 2 = S.A.uses := by
  unfold usedR
  split
  · simp [*]
  · split <;> simp [*]
theorem usedR_kind (q : Qu) (S : Sd) : (usedR q S).2.2 = 2 ∨ (usedR q S).2.2 = 15 ∨ (usedR q S).2.2 = 0 := by
  unfold usedR
  split
  · simp
  · split <;> simp
theorem usedS_f (q : Qu) (S : Sd) : (usedS q S).f = S.f := by
  unfold usedS
  split
  · rfl
  · split <;> rfl
theorem usedS_o (q : Qu) (S : Sd) : (usedS q S).o = S.o ∧ (usedS q S).u = S.u := by
  unfold usedS
  split
  · exact ⟨rfl, rfl⟩
  · split <;> exact ⟨rfl, rfl⟩
theorem usedS_step {q : Qu} {S : Sd} (h : Ok q S) (hne : ¬ rd S.f (q.pu + 2) 2 = S.A.uses) : more q S = more q (usedS q S) + 1 := by
  have := h.rdu; have := h.wf.u
  have hu : (usedS q S).A.uses = (S.A.uses + 1) % 65536 := by
    unfold usedS
    rw [if_neg hne]
    split <;> rfl
  unfold more
  rw [usedS_f, hu]
  omega
theorem back_none {q : Qu} {S : Sd} (h : Ok q S) (he : (usedR q S).2.2 = 2) : backS q S = S := by
  unfold backS
  rw [h.more0.2 (usedR_none.1 he)]
  rfl
theorem back_more {q : Qu} {S : Sd} (h : Ok q S) (he : ¬ (usedR q S).2.2 = 2) : backS q S = backS q (usedS q S) := by
  unfold backS
  rw [usedS_step h (fun e => he (usedR_none.2 e))]
  rfl
end Go.Proofs.YtdjghkngiicncaaGreat
