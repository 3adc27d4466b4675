/- A stream taken to records by rows of bytes at once: pure. -/
import Derived.Test.YtbfdkbdjipiliaaDoorYaG
namespace Go.Proofs.YtbfdkbdjipiliaaDoor
open Go.RowKit Go.Maps
set_option linter.unusedVariables false

/-- What the program keeps of a stream: the mark so far, how many bytes are left of its piece, is it the last one, the record so far, is it too long. -/
structure Pc where
  mr : List Int
  lf : Nat
  la : Bool
  b : List Int
  dd : Bool
def Pc0 : Pc := ⟨[], 0, false, [], false⟩
def PcD : Pc := ⟨[], 0, false, [], true⟩
/-- A mark's bytes are taken. -/
def rmS (s : Pc) (k : Nat) (l : List Int) : Pc := if s.mr.length + k = 4 then { s with mr := s.mr ++ l.take k, lf := (beOf (s.mr ++ l.take k) % 2147483648).toNat, la := decide (2147483648 ≤ beOf (s.mr ++ l.take k)) } else { s with mr := s.mr ++ l.take k }
/-- How many bytes of a mark are taken. -/
def rmK (s : Pc) (l : List Int) : Nat := if s.mr.length = 4 then 0 else min (4 - s.mr.length) l.length
def mkS (s : Pc) (l : List Int) : Pc := if s.mr.length = 4 then s else rmS s (rmK s l) l
/-- What is taken of the piece. -/
def tkS (s : Pc) (l : List Int) : Pc × Nat :=
  if 16384 < (mkS s l).lf + s.b.length then (PcD, l.length)
  else ({ mkS s l with b := s.b ++ (l.drop (rmK s l)).take (min (mkS s l).lf (l.length - rmK s l)), lf := (mkS s l).lf - min (mkS s l).lf (l.length - rmK s l) }, rmK s l + min (mkS s l).lf (l.length - rmK s l))
def enS (s : Pc) : Pc := ⟨[], 0, false, if s.la then [] else s.b, s.dd⟩
def enO (s : Pc) : List (List Int) := if s.la then [s.b] else []
/-- One round. -/
def itS (s : Pc) (l : List Int) : Pc := if (tkS s l).1.mr.length = 4 ∧ (tkS s l).1.lf = 0 then enS (tkS s l).1 else (tkS s l).1
def itO (s : Pc) (l : List Int) : List (List Int) := if (tkS s l).1.mr.length = 4 ∧ (tkS s l).1.lf = 0 then enO (tkS s l).1 else []
def itK (s : Pc) (l : List Int) : Nat := (tkS s l).2
/-- Both tell the same of a stream. -/
structure SR (s : Pc) (r : Rc) : Prop where
  dd : s.dd = r.dd
  dead : r.dd = true → s = PcD
  b : r.dd = false → s.b = r.b ∧ s.b.length ≤ 16384
  pc : r.dd = false → r.pc = true → s.mr.length = 4 ∧ s.lf = r.lf ∧ s.la = r.la ∧ r.h = [] ∧ 0 < r.lf ∧ r.lf + s.b.length ≤ 16384
  np : r.dd = false → r.pc = false → s.mr = r.h ∧ s.lf = 0 ∧ s.la = false ∧ s.mr.length < 4
theorem SR.zero : SR Pc0 Rc0 := ⟨rfl, fun h => (Bool.false_ne_true h).elim, fun _ => ⟨rfl, by decide⟩, fun _ h => (Bool.false_ne_true h).elim, fun _ _ => ⟨rfl, rfl, rfl, by decide⟩⟩
/-- A head's bytes that do not end it. -/
theorem ruR_head_part (p : List Int) (s : Rc) (hd : s.dd = false) (hp : s.pc = false) (hl : s.h.length + p.length < 4) : ruR s p = ({ s with h := s.h ++ p }, []) := by
  induction p generalizing s with
  | nil => simp [ruR]
  | cons x p ih =>
    simp only [List.length_cons] at hl
    have e : stR s x = ({ s with h := s.h ++ [x] }, []) := by
      unfold stR; rw [if_neg (by simp [hd]), if_neg (by simp [hp]), if_pos (by rw [List.length_append]; simp only [List.length_cons, List.length_nil]; omega)]
    simp only [ruR, e]
    rw [ih _ (by exact hd) (by exact hp) (by show (s.h ++ [x]).length + p.length < 4; rw [List.length_append]; simp only [List.length_cons, List.length_nil]; omega)]
    simp
theorem ruR_head_end (p : List Int) (s : Rc) (hd : s.dd = false) (hp : s.pc = false) (h0 : 0 < p.length) (hl : s.h.length + p.length = 4) : ruR s p = hdR s (beOf (s.h ++ p)) := by
  have hne : p ≠ [] := by intro e; simp [e] at h0
  obtain ⟨m, x, rfl⟩ : ∃ m x, p = m ++ [x] := ⟨p.dropLast, p.getLast hne, (List.dropLast_concat_getLast hne).symm⟩
  simp only [List.length_append, List.length_singleton] at hl
  rw [ruR_app, ruR_head_part m s hd hp (by omega)]
  have e : stR { s with h := s.h ++ m } x = hdR { s with h := s.h ++ m } (beOf (s.h ++ (m ++ [x]))) := by
    unfold stR
    rw [if_neg (by simp [hd]), if_neg (by simp [hp]), if_neg (by show ¬ ((s.h ++ m ++ [x]).length < 4); simp only [List.length_append, List.length_singleton]; omega)]
    show hdR _ (beOf (s.h ++ m ++ [x])) = _
    rw [List.append_assoc]
  simp only [ruR, e, List.append_nil, List.nil_append]
  unfold hdR clsR
  rfl
/-- A piece under way, fed by a row. -/
theorem ruR_fed (p : List Int) (s : Rc) (hd : s.dd = false) (hp : s.pc = true) (h0 : 0 < s.lf) :
    ruR s (p.take (min s.lf p.length)) = if s.lf - min s.lf p.length = 0 then clsR { s with b := s.b ++ p.take (min s.lf p.length), lf := 0 } else ({ s with b := s.b ++ p.take (min s.lf p.length), lf := s.lf - min s.lf p.length }, []) := by
  by_cases h : p.length < s.lf
  · rw [Nat.min_eq_right (by omega), if_neg (by omega), List.take_length]
    exact ruR_part p s hd hp h
  · rw [Nat.min_eq_left (by omega), if_pos (by omega)]
    exact ruR_end (p.take s.lf) s hd hp (by rw [List.length_take]; omega) (by rw [List.length_take]; omega)
theorem take_two (l : List Int) (i j : Nat) : l.take (i + j) = l.take i ++ (l.drop i).take j := by
  rw [List.take_add]
/-- A round of the program is as many steps of the document. -/
theorem hdR_big {r : Rc} {v : Int} (h : 16384 < (v % 2147483648).toNat + r.b.length) : (hdR r v).1.dd = true := by unfold hdR; rw [if_pos h]
theorem hdR_zero {r : Rc} {v : Int} (h : ¬ (16384 < (v % 2147483648).toNat + r.b.length)) (h0 : (v % 2147483648).toNat = 0) : hdR r v = clsR { r with h := [], la := decide (2147483648 ≤ v), lf := 0, pc := true } := by unfold hdR; rw [if_neg h, if_pos h0]
theorem hdR_some {r : Rc} {v : Int} (h : ¬ (16384 < (v % 2147483648).toNat + r.b.length)) (h0 : ¬ (v % 2147483648).toNat = 0) : hdR r v = ({ r with h := [], la := decide (2147483648 ≤ v), lf := (v % 2147483648).toNat, pc := true }, []) := by unfold hdR; rw [if_neg h, if_neg h0]
/-- A piece that has come to its end. -/
theorem end_ok {s : Pc} {r : Rc} (hd : r.dd = false) (hsd : s.dd = false) (hb : s.b = r.b) (hl : s.b.length ≤ 16384) (hla : s.la = r.la) (hh : r.h = []) : SR (enS s) (clsR r).1 ∧ enO s = (clsR r).2 := by
  obtain ⟨h, lf, la, pc, b, dd⟩ := r
  simp only at hd hb hla hh
  subst hd hh hb hla
  unfold enS enO clsR
  cases hs : s.la
  · simp only [Bool.false_eq_true, if_false]
    exact ⟨⟨hsd, fun h => (Bool.false_ne_true h).elim, fun _ => ⟨rfl, hl⟩, fun _ h => (Bool.false_ne_true h).elim, fun _ _ => ⟨rfl, rfl, rfl, by simp⟩⟩, trivial⟩
  · simp only [if_true]
    exact ⟨⟨hsd, fun h => (Bool.false_ne_true h).elim, fun _ => ⟨rfl, by simp⟩, fun _ h => (Bool.false_ne_true h).elim, fun _ _ => ⟨rfl, rfl, rfl, by simp⟩⟩, trivial⟩
theorem round_ok {s : Pc} {r : Rc} (h : SR s r) (hd : r.dd = false) (l : List Int) (hI : ∀ x ∈ s.mr ++ l, IsB x) (hl : 0 < l.length) :
    SR (itS s l) (ruR r (l.take (itK s l))).1 ∧ ((ruR r (l.take (itK s l))).1.dd = false → itO s l = (ruR r (l.take (itK s l))).2) ∧ 0 < itK s l ∧ itK s l ≤ l.length ∧ ((ruR r (l.take (itK s l))).1.dd = true → itK s l = l.length) := by
  obtain ⟨mk, lf, la, b, dd⟩ := s
  have hdd := h.dd
  obtain ⟨hb, hbl⟩ := h.b hd
  simp only at hdd hb hbl hI
  rw [hd] at hdd
  subst hdd
  cases hp : r.pc with
  | true =>
    obtain ⟨q1, q2, q3, q4, q5, q6⟩ := h.pc hd hp
    simp only at q1 q2 q3 q6
    subst q2 q3 hb
    have e1 : rmK ⟨mk, r.lf, r.la, r.b, false⟩ l = 0 := by unfold rmK; rw [if_pos (by exact q1)]
    have e2 : mkS ⟨mk, r.lf, r.la, r.b, false⟩ l = ⟨mk, r.lf, r.la, r.b, false⟩ := by unfold mkS; rw [if_pos (by exact q1)]
    have e3 : tkS ⟨mk, r.lf, r.la, r.b, false⟩ l = (⟨mk, r.lf - min r.lf l.length, r.la, r.b ++ l.take (min r.lf l.length), false⟩, min r.lf l.length) := by
      unfold tkS
      rw [e1, e2, if_neg (by show ¬ (16384 < r.lf + r.b.length); omega)]
      simp only [List.drop_zero, Nat.sub_zero, Nat.zero_add]
    have hlen : (r.b ++ l.take (min r.lf l.length)).length ≤ 16384 := by rw [List.length_append, List.length_take]; omega
    have ef := ruR_fed l r hd hp q5
    unfold itS itO itK
    rw [e3]
    simp only
    rw [ef]
    by_cases hz : r.lf - min r.lf l.length = 0
    · rw [if_pos hz, if_pos ⟨q1, hz⟩, if_pos ⟨q1, hz⟩]
      have := end_ok (s := ⟨mk, r.lf - min r.lf l.length, r.la, r.b ++ l.take (min r.lf l.length), false⟩) (r := { r with b := r.b ++ l.take (min r.lf l.length), lf := 0 }) hd rfl rfl hlen rfl q4
      refine ⟨this.1, fun _ => this.2, by omega, by omega, fun hx => ?_⟩
      have hf := this.1.dd
      rw [hx] at hf
      simp [enS] at hf
    · rw [if_neg hz, if_neg (fun hx => hz hx.2), if_neg (fun hx => hz hx.2)]
      refine ⟨⟨hd.symm, fun hx => ?_, fun _ => ⟨rfl, hlen⟩, fun _ _ => ⟨q1, rfl, rfl, q4, by simp only; omega, ?_⟩, fun _ hx => ?_⟩, fun _ => rfl, by omega, by omega, fun hx => ?_⟩
      · simp only at hx; rw [hd] at hx; cases hx
      · simp only [List.length_append, List.length_take]; omega
      · simp only at hx; rw [hp] at hx; cases hx
      · simp only at hx; rw [hd] at hx; cases hx
  | false =>
    obtain ⟨q1, q2, q3, q4⟩ := h.np hd hp
    simp only at q1 q2 q3 q4
    subst q1 q2 q3 hb
    obtain ⟨k, hk⟩ : ∃ k, min (4 - r.h.length) l.length = k := ⟨_, rfl⟩
    have e1 : rmK ⟨r.h, 0, false, r.b, false⟩ l = k := by unfold rmK; rw [if_neg (by show ¬ (r.h.length = 4); omega), ← hk]
    have e2 : mkS ⟨r.h, 0, false, r.b, false⟩ l = rmS ⟨r.h, 0, false, r.b, false⟩ k l := by unfold mkS; rw [if_neg (by show ¬ (r.h.length = 4); omega), e1]
    have htk : (l.take k).length = k := by rw [List.length_take]; omega
    by_cases h4 : r.h.length + k = 4
    · obtain ⟨v, hv⟩ : ∃ v, beOf (r.h ++ l.take k) = v := ⟨_, rfl⟩
      obtain ⟨V, hV⟩ : ∃ V, (v % 2147483648).toNat = V := ⟨_, rfl⟩
      have e3 : rmS ⟨r.h, 0, false, r.b, false⟩ k l = ⟨r.h ++ l.take k, V, decide (2147483648 ≤ v), r.b, false⟩ := by unfold rmS; rw [if_pos (by exact h4), hv, hV]
      have eh := ruR_head_end (l.take k) r hd hp (by omega) (by omega)
      rw [hv] at eh
      have hm4 : (r.h ++ l.take k).length = 4 := by rw [List.length_append, htk]; exact h4
      by_cases hbig : 16384 < V + r.b.length
      · have e4 : tkS ⟨r.h, 0, false, r.b, false⟩ l = (PcD, l.length) := by
          unfold tkS
          rw [e2, e3, if_pos (by exact hbig)]
        have hdead : (ruR r l).1.dd = true := by
          have := ruR_app (l.take k) (l.drop k) r
          rw [List.take_append_drop, eh, ruR_dead _ _ (hdR_big (by rw [hV]; exact hbig))] at this
          rw [this]
          exact hdR_big (by rw [hV]; exact hbig)
        unfold itS itO itK
        rw [e4]
        simp only [List.take_length]
        rw [if_neg (by rintro ⟨h1, _⟩; simp [PcD] at h1), if_neg (by rintro ⟨h1, _⟩; simp [PcD] at h1)]
        refine ⟨⟨hdead.symm, fun _ => rfl, fun hx => ?_, fun hx => ?_, fun hx => ?_⟩, fun hx => ?_, hl, Nat.le_refl _, fun _ => trivial⟩
        all_goals (rw [hdead] at hx; cases hx)
      · obtain ⟨m, hm⟩ : ∃ m, min V (l.length - k) = m := ⟨_, rfl⟩
        have e4 : tkS ⟨r.h, 0, false, r.b, false⟩ l = (⟨r.h ++ l.take k, V - m, decide (2147483648 ≤ v), r.b ++ (l.drop k).take m, false⟩, k + m) := by
          unfold tkS
          rw [e1, e2, e3, if_neg (by exact hbig)]
          simp only [hm]
        have hbig2 : ¬ (16384 < (v % 2147483648).toNat + r.b.length) := by rw [hV]; exact hbig
        have hlen : (r.b ++ (l.drop k).take m).length ≤ 16384 := by rw [List.length_append, List.length_take]; omega
        have hkm : k + m ≤ l.length := by omega
        unfold itS itO itK
        rw [e4]
        simp only
        rw [take_two, ruR_app, eh]
        by_cases hV0 : V = 0
        · have hm0 : m = 0 := by omega
          subst hm0
          rw [hdR_zero hbig2 (by rw [hV]; exact hV0)]
          simp only [List.take_zero, ruR, List.append_nil, Nat.sub_zero]
          rw [if_pos ⟨hm4, hV0⟩, if_pos ⟨hm4, hV0⟩]
          have := end_ok (s := ⟨r.h ++ l.take k, V, decide (2147483648 ≤ v), r.b, false⟩) (r := { r with h := [], la := decide (2147483648 ≤ v), lf := 0, pc := true }) hd rfl rfl hbl rfl rfl
          refine ⟨this.1, fun _ => this.2, by omega, by omega, fun hx => ?_⟩
          have hf := this.1.dd
          rw [hx] at hf
          simp [enS] at hf
        · rw [hdR_some hbig2 (by rw [hV]; exact hV0)]
          have ef := ruR_fed (l.drop k) { r with h := [], la := decide (2147483648 ≤ v), lf := V, pc := true } hd rfl (by show 0 < V; omega)
          simp only [List.length_drop, hm] at ef
          simp only [hV, List.nil_append]
          rw [ef]
          by_cases hz : V - m = 0
          · rw [if_pos hz, if_pos ⟨hm4, hz⟩, if_pos ⟨hm4, hz⟩]
            have := end_ok (s := ⟨r.h ++ l.take k, V - m, decide (2147483648 ≤ v), r.b ++ (l.drop k).take m, false⟩) (r := { r with h := [], la := decide (2147483648 ≤ v), lf := 0, pc := true, b := r.b ++ (l.drop k).take m }) hd rfl rfl hlen rfl rfl
            refine ⟨this.1, fun _ => this.2, by omega, by omega, fun hx => ?_⟩
            have hf := this.1.dd
            rw [hx] at hf
            simp [enS] at hf
          · rw [if_neg hz, if_neg (fun hx => hz hx.2), if_neg (fun hx => hz hx.2)]
            refine ⟨⟨hd.symm, fun hx => ?_, fun _ => ⟨rfl, hlen⟩, fun _ _ => ⟨hm4, rfl, rfl, rfl, by simp only; omega, ?_⟩, fun _ hx => ?_⟩, fun _ => rfl, by omega, by omega, fun hx => ?_⟩
            · simp only at hx; rw [hd] at hx; cases hx
            · simp only [List.length_append, List.length_take, List.length_drop]; omega
            · simp only at hx; cases hx
            · simp only at hx; rw [hd] at hx; cases hx
    · have hkl : k = l.length := by omega
      have e3 : rmS ⟨r.h, 0, false, r.b, false⟩ k l = ⟨r.h ++ l.take k, 0, false, r.b, false⟩ := by unfold rmS; rw [if_neg (by exact h4)]
      have e4 : tkS ⟨r.h, 0, false, r.b, false⟩ l = (⟨r.h ++ l.take k, 0, false, r.b, false⟩, k) := by
        unfold tkS
        rw [e1, e2, e3, if_neg (by show ¬ (16384 < 0 + r.b.length); omega)]
        simp
      have hm4 : ¬ (r.h ++ l.take k).length = 4 := by rw [List.length_append, htk]; exact h4
      have eh := ruR_head_part (l.take k) r hd hp (by omega)
      unfold itS itO itK
      rw [e4]
      simp only
      rw [eh, if_neg (fun hx => hm4 hx.1), if_neg (fun hx => hm4 hx.1)]
      refine ⟨⟨hd.symm, fun hx => ?_, fun _ => ⟨rfl, hbl⟩, fun _ hx => ?_, fun _ _ => ⟨rfl, rfl, rfl, by simp only [List.length_append, htk]; omega⟩⟩, fun _ => rfl, by omega, by omega, fun hx => ?_⟩
      · simp only at hx; rw [hd] at hx; cases hx
      · simp only at hx; rw [hp] at hx; cases hx
      · simp only at hx; rw [hd] at hx; cases hx
end Go.Proofs.YtbfdkbdjipiliaaDoor
