/- YaA, YaG in one text. -/
import Derived.Test.YtbfdkbdjipiliaaDoorXaE
/- A stream taken to records, byte by byte: pure. -/
namespace Go.Proofs.YtbfdkbdjipiliaaDoor
open Go.RowKit Go.Maps
set_option linter.unusedVariables false

/-- What is kept of a stream: the head's bytes, how many are left of the piece, is it the last one, is a piece under way, the record so far, is it dead. -/
structure Rc where
  h : List Int
  lf : Nat
  la : Bool
  pc : Bool
  b : List Int
  dd : Bool
  deriving DecidableEq
def Rc0 : Rc := ⟨[], 0, false, false, [], false⟩
/-- A piece has come to its end. -/
def clsR (s : Rc) : Rc × List (List Int) := if s.la then ({ s with pc := false, b := [] }, [s.b]) else ({ s with pc := false }, [])
/-- A head is whole. -/
def hdR (s : Rc) (v : Int) : Rc × List (List Int) :=
  if 16384 < (v % 2147483648).toNat + s.b.length then ({ s with h := [], la := decide (2147483648 ≤ v), lf := (v % 2147483648).toNat, pc := true, dd := true }, [])
  else if (v % 2147483648).toNat = 0 then clsR { s with h := [], la := decide (2147483648 ≤ v), lf := 0, pc := true }
  else ({ s with h := [], la := decide (2147483648 ≤ v), lf := (v % 2147483648).toNat, pc := true }, [])
def stR (s : Rc) (x : Int) : Rc × List (List Int) :=
  if s.dd then (s, [])
  else if s.pc then (if s.lf ≤ 1 then clsR { s with b := s.b ++ [x], lf := 0 } else ({ s with b := s.b ++ [x], lf := s.lf - 1 }, []))
  else if (s.h ++ [x]).length < 4 then ({ s with h := s.h ++ [x] }, []) else hdR s (beOf (s.h ++ [x]))
def ruR : Rc → List Int → Rc × List (List Int)
  | s, [] => (s, [])
  | s, x :: l => ((ruR (stR s x).1 l).1, (stR s x).2 ++ (ruR (stR s x).1 l).2)
/-- What a call answers, and what it leaves. -/
def addR (s : Rc) (l : List Int) : List (List Int) × Int × Rc := if s.dd then ([], 5, s) else if (ruR s l).1.dd then ([], 5, (ruR s l).1) else ((ruR s l).2, 0, (ruR s l).1)
theorem ruR_app (l m : List Int) (s : Rc) : ruR s (l ++ m) = ((ruR (ruR s l).1 m).1, (ruR s l).2 ++ (ruR (ruR s l).1 m).2) := by
  induction l generalizing s with
  | nil => simp [ruR]
  | cons x l ih => simp only [List.cons_append, ruR, ih, List.append_assoc]
theorem ruR_dead (l : List Int) (s : Rc) (h : s.dd = true) : ruR s l = (s, []) := by
  induction l with
  | nil => rfl
  | cons x l ih =>
    have e : stR s x = (s, []) := by unfold stR; rw [if_pos h]
    simp only [ruR, e, ih, List.append_nil]
/-- Bytes of a piece that do not end it. -/
theorem ruR_part (p : List Int) (s : Rc) (hd : s.dd = false) (hp : s.pc = true) (hl : p.length < s.lf) : ruR s p = ({ s with b := s.b ++ p, lf := s.lf - p.length }, []) := by
  induction p generalizing s with
  | nil => simp [ruR]
  | cons x p ih =>
    simp only [List.length_cons] at hl
    have e : stR s x = ({ s with b := s.b ++ [x], lf := s.lf - 1 }, []) := by
      unfold stR; rw [if_neg (by simp [hd]), if_pos hp, if_neg (by omega)]
    simp only [ruR, e]
    rw [ih _ (by exact hd) (by exact hp) (by show p.length < s.lf - 1; omega)]
    simp only [List.length_cons, List.append_assoc, List.singleton_append, List.nil_append]
    rw [show s.lf - 1 - p.length = s.lf - (p.length + 1) by omega]
/-- Bytes that end a piece. -/
theorem ruR_end (p : List Int) (s : Rc) (hd : s.dd = false) (hp : s.pc = true) (h0 : 0 < p.length) (hl : p.length = s.lf) : ruR s p = clsR { s with b := s.b ++ p, lf := 0 } := by
  have hne : p ≠ [] := by intro e; simp [e] at h0
  obtain ⟨m, x, rfl⟩ : ∃ m x, p = m ++ [x] := ⟨p.dropLast, p.getLast hne, (List.dropLast_concat_getLast hne).symm⟩
  simp only [List.length_append, List.length_singleton] at hl
  rw [ruR_app, ruR_part m s hd hp (by omega)]
  have e : stR { s with b := s.b ++ m, lf := s.lf - m.length } x = clsR { s with b := s.b ++ m ++ [x], lf := 0 } := by
    unfold stR; rw [if_neg (by simp [hd]), if_pos (by exact hp), if_pos (by show s.lf - m.length ≤ 1; omega)]
  simp only [ruR, e, List.append_nil, List.nil_append, List.append_assoc]
/-- A head of four bytes. -/
theorem ruR_head (s : Rc) (hd : s.dd = false) (hp : s.pc = false) (hh : s.h = []) (v : Int) (h0 : 0 ≤ v) (h1 : v < 4294967296) : ruR s (bytesBe 4 v) = hdR s v := by
  obtain ⟨h, lf, la, pc, b, dd⟩ := s
  simp only at hd hp hh
  subst hd hp hh
  have e4 : ∃ x0 x1 x2 x3, bytesBe 4 v = [x0, x1, x2, x3] := ⟨_, _, _, _, rfl⟩
  obtain ⟨x0, x1, x2, x3, e⟩ := e4
  have hv : beOf [x0, x1, x2, x3] = v := by rw [← e]; exact be_back_4 v h0 h1
  rw [e]
  simp [ruR, stR, hv, hdR]
def mkV (n : Nat) (f : Bool) : Int := n + if f then 2147483648 else 0
theorem mkV_f (n : Nat) : mkV n false = n := by unfold mkV; rw [if_neg (by decide)]; omega
theorem mkV_t (n : Nat) : mkV n true = n + 2147483648 := by unfold mkV; rw [if_pos rfl]
theorem mkV_n (n : Nat) (f : Bool) (hn : n < 2147483648) : (mkV n f % 2147483648).toNat = n := by
  have : mkV n f % 2147483648 = n := by cases f; rw [mkV_f]; omega; rw [mkV_t]; omega
  rw [this]; omega
theorem mkV_la (n : Nat) (f : Bool) (hn : n < 2147483648) : decide (2147483648 ≤ mkV n f) = f := by
  cases f
  · rw [mkV_f]; exact decide_eq_false (by omega)
  · rw [mkV_t]; exact decide_eq_true (by omega)
theorem mkV_b (n : Nat) (f : Bool) (hn : n < 2147483648) : 0 ≤ mkV n f ∧ mkV n f < 4294967296 := by cases f; rw [mkV_f]; omega; rw [mkV_t]; omega
/-- A piece as it is written, fed to what is at its beginning. -/
theorem ruR_piece (s : Rc) (hd : s.dd = false) (hp : s.pc = false) (hh : s.h = []) (p : List Int) (f : Bool) (hl : p.length + s.b.length ≤ 16384) :
    ruR s (bytesBe 4 (mkV p.length f) ++ p) = clsR { s with h := [], la := f, lf := 0, pc := true, b := s.b ++ p } := by
  have hv : (mkV p.length f % 2147483648).toNat = p.length := mkV_n _ _ (by omega)
  have hla : decide (2147483648 ≤ mkV p.length f) = f := mkV_la _ _ (by omega)
  have hb := mkV_b p.length f (by omega)
  rw [ruR_app, ruR_head s hd hp hh _ hb.1 hb.2]
  unfold hdR
  rw [hv, hla, if_neg (by omega)]
  by_cases h0 : p.length = 0
  · have e : p = [] := List.eq_nil_of_length_eq_zero h0
    rw [if_pos h0]
    subst e
    simp [ruR]
  · rw [if_neg h0]
    simp only [List.nil_append]
    rw [ruR_end p _ (by exact hd) rfl (by omega) rfl]
/-- At a record's beginning. -/
def Fresh (s : Rc) : Prop := s.dd = false ∧ s.pc = false ∧ s.h = [] ∧ s.b = []
theorem ruR_mark (s : Rc) (h : Fresh s) (p : List Int) (hl : p.length ≤ 16384) : (ruR s (bytesBe 4 (mkV p.length true) ++ p)).2 = [p] ∧ Fresh (ruR s (bytesBe 4 (mkV p.length true) ++ p)).1 := by
  obtain ⟨h1, h2, h3, h4⟩ := h
  rw [ruR_piece s h1 h2 h3 p true (by rw [h4]; simpa using hl)]
  unfold clsR Fresh
  simp [h1, h4]
theorem ruR_mark2 (s : Rc) (h : Fresh s) (p q A B : List Int) (hA : A = bytesBe 4 (mkV p.length false) ++ p) (hB : B = bytesBe 4 (mkV q.length true) ++ q) (hl : p.length + q.length ≤ 16384) : (ruR s (A ++ B)).2 = [p ++ q] ∧ Fresh (ruR s (A ++ B)).1 := by
  obtain ⟨h1, h2, h3, h4⟩ := h
  obtain ⟨hd, lf, la, pc, b, dd⟩ := s
  simp only at h1 h2 h3 h4
  subst h1 h2 h3 h4
  have e1 : ruR ⟨[], lf, la, false, [], false⟩ A = (⟨[], 0, false, false, p, false⟩, []) := by
    have := ruR_piece ⟨[], lf, la, false, [], false⟩ rfl rfl rfl p false (by show p.length + 0 ≤ 16384; omega)
    rw [hA, this]
    rfl
  have e2 : ruR ⟨[], 0, false, false, p, false⟩ B = (⟨[], 0, true, false, [], false⟩, [p ++ q]) := by
    have := ruR_piece ⟨[], 0, false, false, p, false⟩ rfl rfl rfl q true (by show q.length + p.length ≤ 16384; omega)
    rw [hB, this]
    rfl
  rw [ruR_app, e1]
  show ([] : List (List Int)) ++ (ruR ⟨[], 0, false, false, p, false⟩ B).2 = [p ++ q] ∧ Fresh (ruR ⟨[], 0, false, false, p, false⟩ B).1
  rw [e2]
  exact ⟨rfl, rfl, rfl, rfl, rfl⟩
/-- A head that says too much. -/
theorem ruR_long (s : Rc) (hd : s.dd = false) (hp : s.pc = false) (hh : s.h = []) (n : Nat) (f : Bool) (r : List Int) (hn : n < 2147483648) (hl : 16384 < n + s.b.length) : (ruR s (bytesBe 4 (mkV n f) ++ r)).1.dd = true := by
  have hv : (mkV n f % 2147483648).toNat = n := mkV_n _ _ hn
  have hb := mkV_b n f hn
  rw [ruR_app, ruR_head s hd hp hh _ hb.1 hb.2]
  have e : ∃ s', hdR s (mkV n f) = (s', []) ∧ s'.dd = true := by
    unfold hdR
    rw [hv, if_pos hl]
    exact ⟨_, rfl, rfl⟩
  obtain ⟨s', e1, e2⟩ := e
  rw [e1]
  show (ruR s' r).1.dd = true
  rw [ruR_dead r s' e2]
  exact e2
end Go.Proofs.YtbfdkbdjipiliaaDoor

/- A stream of records: pure. -/
namespace Go.Proofs.YtbfdkbdjipiliaaDoor
open Go.RowKit Go.Maps
set_option linter.unusedVariables false

/-- A record as it is written: in one piece, or in two. -/
def recM (x : List Int × Option Nat) : List Int := match x.2 with
  | none => bytesBe 4 (mkV x.1.length true) ++ x.1
  | some k => bytesBe 4 (mkV (x.1.take k).length false) ++ x.1.take k ++ (bytesBe 4 (mkV (x.1.drop k).length true) ++ x.1.drop k)
theorem ruR_rec (s : Rc) (h : Fresh s) (x : List Int × Option Nat) (hl : x.1.length ≤ 16384) : (ruR s (recM x)).2 = [x.1] ∧ Fresh (ruR s (recM x)).1 := by
  obtain ⟨p, k⟩ := x
  cases k with
  | none => exact ruR_mark s h p hl
  | some k =>
    have := ruR_mark2 s h (p.take k) (p.drop k) _ _ rfl rfl (by rw [← List.length_append, List.take_append_drop]; exact hl)
    rw [List.take_append_drop] at this
    exact this
/-- A stream of records is taken to just these. -/
theorem ruR_all (ls : List (List Int × Option Nat)) (hl : ∀ x ∈ ls, x.1.length ≤ 16384) : ∀ s : Rc, Fresh s → (ruR s (ls.flatMap recM)).2 = ls.map Prod.fst ∧ Fresh (ruR s (ls.flatMap recM)).1 := by
  induction ls with
  | nil => intro s h; exact ⟨rfl, h⟩
  | cons x ls ih =>
    intro s h
    obtain ⟨a1, a2⟩ := ruR_rec s h x (hl x (by simp))
    obtain ⟨b1, b2⟩ := ih (fun y hy => hl y (by simp [hy])) _ a2
    rw [List.flatMap_cons, ruR_app, a1, b1]
    exact ⟨rfl, b2⟩
/-- Ahead of what leaves it alive it was alive. -/
theorem ruR_alive (s : Rc) (l m : List Int) (h : (ruR s (l ++ m)).1.dd = false) : (ruR s l).1.dd = false := by
  rw [ruR_app] at h
  simp only at h
  cases hd : (ruR s l).1.dd with
  | false => rfl
  | true => rw [ruR_dead m _ hd] at h; simp only at h; rw [hd] at h; cases h
/-- One more piece of a stream, whatever came ahead of it. -/
theorem addR_next (s : Rc) (l m r : List Int) (h : (ruR s (l ++ m ++ r)).1.dd = false) : addR (ruR s l).1 m = ((ruR (ruR s l).1 m).2, 0, (ruR s (l ++ m)).1) ∧ (ruR s (l ++ m)).2 = (ruR s l).2 ++ (ruR (ruR s l).1 m).2 := by
  have h1 := ruR_alive s (l ++ m) r h
  have h2 := ruR_alive s l m h1
  have e := ruR_app l m s
  unfold addR
  rw [if_neg (by rw [h2]; decide)]
  have h3 : (ruR (ruR s l).1 m).1.dd = false := by rw [e] at h1; exact h1
  rw [if_neg (by rw [h3]; decide), e]
  exact ⟨rfl, rfl⟩
theorem Rc0_fresh : Fresh Rc0 := ⟨rfl, rfl, rfl, rfl⟩
end Go.Proofs.YtbfdkbdjipiliaaDoor
