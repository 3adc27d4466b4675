/- The document's port: its two devices, and the pieces that it takes. -/
import Derived.Test.YtdjghkngiicncaaGreatR5F
import Derived.Test.YtdjghkngiicncaaGreatNetI
import Derived.Test.YtdjghkngiicncaaGreatNetM
namespace Go.Proofs.YtdjghkngiicncaaGreat
open Go.RowKit

theorem pcB_in {N rl : Nat} {L : List Bf} : pcB N (inP rl) L = rpB N rl true L := by
  unfold pcB rpB
  split
  · rename_i b
    unfold inP
    rw [Bool.eq_iff_iff]
    simp only [Bool.and_eq_true, decide_eq_true_eq, beq_iff_eq]
    constructor
    · rintro ⟨⟨h1, h2⟩, h3⟩
      exact ⟨h2, h1, by omega, by omega⟩
    · rintro ⟨h1, h2, h3, h4⟩
      exact ⟨⟨h2, h1⟩, by omega⟩
  · split
    · simp_all
    · rfl
theorem pcB_out {N : Nat} {L : List Bf} : pcB N outP L = (rpB N 26 false L && decide ((L.headD default).len ≤ 1526)) := by
  unfold pcB rpB
  split
  · rename_i b
    unfold outP fdB
    rw [Bool.eq_iff_iff]
    simp only [Bool.and_eq_true, decide_eq_true_eq, beq_iff_eq, Bool.not_eq_true', List.headD_cons]
    constructor
    · rintro ⟨⟨h1, h2, h3⟩, h4⟩
      exact ⟨⟨h2, h1, by omega, by omega⟩, decide_eq_true h3⟩
    · rintro ⟨⟨h1, h2, h3, h4⟩, h5⟩
      exact ⟨⟨h2, h1, of_decide_eq_true h5⟩, by omega⟩
  · split
    · simp_all
    · rfl
theorem pcB_true {N : Nat} {P : Bf → Bool} {L : List Bf} (h : pcB N P L = true) : ∃ b, L = [b] ∧ P b = true ∧ b.addr ≤ N - b.len := by
  unfold pcB at h
  split at h
  · rename_i b
    simp only [Bool.and_eq_true, decide_eq_true_eq] at h
    exact ⟨b, rfl, h.1, h.2⟩
  · simp at h
theorem RNetAt.takeI {w : World} {lab : Nat → Nat} {B : Rb} {H : Nh} {S : Ns} {v1 v2 : Value} {l1 l2 : List Nat} {T : Sd} (h : RNetAt w lab B H (S.setI T) v1 v2 l1 l2) :
    Calls Tryz.prog 48 #[.pointer (some ⟨B.vi, 0, none⟩)] w fun e w' => ∃ v, e = .returned (.tuple #[.int .i64 (takeR H.qi T).1, v, .int .i64 (takeR H.qi T).2.2]) ∧ w'.ownsRow w.heap.size 88 3 v (takeR H.qi T).2.1.length (cellsB (takeR H.qi T).2.1) ∧ ∃ lab', RNetAt w' lab' B H (S.setI (takeS H.qi T)) v1 v2 l1 l2 ∧ Keep lab w lab' w' := by
  refine (rTake_S w B.vi B.g H.qi T h.vi h.mem).mono ?_
  rintro e w' ⟨v, rfl, ho, hd, hm, hmo⟩
  obtain ⟨lab', h1, h2⟩ := h.toVI hd hm (hmo.weak (fun b e => .inl (.inl e)))
  refine ⟨v, rfl, ho, lab', ?_, h2⟩
  have he : S.setI (takeS H.qi T) = { S.setI T with oi := (takeS H.qi T).o, ui := (takeS H.qi T).u, f := T.f } := by
    unfold Ns.setI
    rw [takeS_A, takeS_f]
  rw [he]
  exact h1
theorem RNetAt.giveI {w : World} {lab : Nat → Nat} {B : Rb} {H : Nh} {S : Ns} {v1 v2 : Value} {l1 l2 : List Nat} {T : Sd} (h : RNetAt w lab B H (S.setI T) v1 v2 l1 l2) (hd len : Int) :
    Calls Tryz.prog 50 #[.pointer (some ⟨B.vi, 0, none⟩), .int .i64 hd, .int .i64 len] w fun e w' => e = .returned (.int .i64 (giveR H.qi hd len)) ∧ ∃ lab', RNetAt w' lab' B H (S.setI (giveS H.qi T hd len)) v1 v2 l1 l2 ∧ Keep lab w lab' w' := by
  refine (rGive_S w B.vi B.g H.qi T h.vi h.mem hd len).mono ?_
  rintro e w' ⟨rfl, hd', hm, hmo⟩
  obtain ⟨lab', h1, h2⟩ := h.toVI hd' hm hmo
  refine ⟨rfl, lab', ?_, h2⟩
  have he : S.setI (giveS H.qi T hd len) = { S.setI T with oi := (giveS H.qi T hd len).o, ui := (giveS H.qi T hd len).u, f := (giveS H.qi T hd len).f } := by
    unfold Ns.setI
    rw [giveS_A]
  rw [he]
  exact h1
theorem RNetAt.takeO {w : World} {lab : Nat → Nat} {B : Rb} {H : Nh} {S : Ns} {v1 v2 : Value} {l1 l2 : List Nat} {T : Sd} (h : RNetAt w lab B H (S.setO T) v1 v2 l1 l2) :
    Calls Tryz.prog 48 #[.pointer (some ⟨B.vo, 0, none⟩)] w fun e w' => ∃ v, e = .returned (.tuple #[.int .i64 (takeR H.qo T).1, v, .int .i64 (takeR H.qo T).2.2]) ∧ w'.ownsRow w.heap.size 88 3 v (takeR H.qo T).2.1.length (cellsB (takeR H.qo T).2.1) ∧ ∃ lab', RNetAt w' lab' B H (S.setO (takeS H.qo T)) v1 v2 l1 l2 ∧ Keep lab w lab' w' := by
  refine (rTake_S w B.vo B.g H.qo T h.vo h.mem).mono ?_
  rintro e w' ⟨v, rfl, ho, hd, hm, hmo⟩
  obtain ⟨lab', h1, h2⟩ := h.toVO hd hm (hmo.weak (fun b e => .inl (.inl e)))
  refine ⟨v, rfl, ho, lab', ?_, h2⟩
  have he : S.setO (takeS H.qo T) = { S.setO T with oo := (takeS H.qo T).o, uo := (takeS H.qo T).u, f := T.f } := by
    unfold Ns.setO
    rw [takeS_A, takeS_f]
  rw [he]
  exact h1
theorem RNetAt.giveO {w : World} {lab : Nat → Nat} {B : Rb} {H : Nh} {S : Ns} {v1 v2 : Value} {l1 l2 : List Nat} {T : Sd} (h : RNetAt w lab B H (S.setO T) v1 v2 l1 l2) (hd len : Int) :
    Calls Tryz.prog 50 #[.pointer (some ⟨B.vo, 0, none⟩), .int .i64 hd, .int .i64 len] w fun e w' => e = .returned (.int .i64 (giveR H.qo hd len)) ∧ ∃ lab', RNetAt w' lab' B H (S.setO (giveS H.qo T hd len)) v1 v2 l1 l2 ∧ Keep lab w lab' w' := by
  refine (rGive_S w B.vo B.g H.qo T h.vo h.mem hd len).mono ?_
  rintro e w' ⟨rfl, hd', hm, hmo⟩
  obtain ⟨lab', h1, h2⟩ := h.toVO hd' hm hmo
  refine ⟨rfl, lab', ?_, h2⟩
  have he : S.setO (giveS H.qo T hd len) = { S.setO T with oo := (giveS H.qo T hd len).o, uo := (giveS H.qo T hd len).u, f := (giveS H.qo T hd len).f } := by
    unfold Ns.setO
    rw [giveS_A]
  rw [he]
  exact h1
end Go.Proofs.YtdjghkngiicncaaGreat
