/- A segment that answers, taken by a connection that opens or is open. -/
import Derived.Test.YtmmijbiapflneaaTbE
import Derived.Test.YtmmijbiapflneaaTfC
namespace Go.Proofs.Ytmmijbiapflneaa
open Go.RowKit Go.Maps
set_option linter.unusedVariables false
theorem goS_is (c : Cn) (k : Nat) : ∃ cm R E ec lv, (goS c k).1 = { c with came := cm, R := R, E := E, ec := ec, lv := lv } := by
  induction k generalizing c with
  | zero =>
    unfold goS
    split
    · exact ⟨c.came, _, c.E, c.ec, _, rfl⟩
    · exact ⟨c.came, c.R, c.E, c.ec, c.lv, rfl⟩
  | succ k ih =>
    unfold goS
    split
    · exact ⟨c.came, _, c.E, c.ec, _, rfl⟩
    · split
      · exact ⟨c.came, c.R, c.E, c.ec, c.lv, rfl⟩
      · obtain ⟨cm, R, E, ec, lv, h⟩ := ih (comeS c _)
        exact ⟨cm, R, E, ec, lv, h⟩
theorem noteS_is (c : Cn) (s : Int) (d : List Int) : ∃ cm R E ec, noteS c s d = { c with came := cm, R := R, E := E, ec := ec } := by
  unfold noteS noteQ
  split
  · exact ⟨_, _, c.E, c.ec, rfl⟩
  · obtain ⟨E, ec, h, _⟩ := putsN_is c (ntSeq c s) (ntDat c s d) (ntDat c s d).length
    exact ⟨c.came, c.R, E, ec, h⟩
/-- What a segment brings turns what comes in alone. -/
theorem takeInS_is (c : Cn) (s : Sg) : ∃ cm R E ec lv en en0, (takeInS c s).1 = { c with came := cm, R := R, E := E, ec := ec, lv := lv, en := en, en0 := en0 } := by
  unfold takeInS takeInC goOnS
  obtain ⟨cm, R, E, ec, h1⟩ := noteS_is c s.seq s.dat
  rw [h1]
  split
  · obtain ⟨en, en0, h2⟩ := noteEndS_is { c with came := cm, R := R, E := E, ec := ec } (a32 s.seq s.dat.length)
    rw [h2]
    obtain ⟨cm, R, E, ec, lv, h⟩ := goS_is { c with came := cm, R := R, E := E, ec := ec, en := en, en0 := en0 } ec
    exact ⟨cm, R, E, ec, lv, en, en0, h⟩
  · obtain ⟨cm, R, E, ec, lv, h⟩ := goS_is { c with came := cm, R := R, E := E, ec := ec } ec
    exact ⟨cm, R, E, ec, lv, c.en, c.en0, h⟩
def takeOpS (c : Cn) (s : Sg) : Cn := if (takeInS c s).2 then { (takeInS c s).1 with st := 3 } else (takeInS c s).1
def oweS (c : Cn) (s : Sg) : Cn := if hasB s.fl 1 || !s.dat.isEmpty then { c with oK := true } else c
/-- What a segment with an answer makes of an open connection. -/
def ansOpS (c : Cn) (s : Sg) : Cn := oweS (hearS (takeOpS c s) s.ack s.win) s
theorem takeOpS_is (c : Cn) (s : Sg) : ∃ cm R E ec lv en en0, takeOpS c s = { c with came := cm, R := R, E := E, ec := ec, lv := lv, en := en, en0 := en0, st := if (takeInS c s).2 then 3 else c.st } := by
  obtain ⟨cm, R, E, ec, lv, en, en0, h⟩ := takeInS_is c s
  refine ⟨cm, R, E, ec, lv, en, en0, ?_⟩
  unfold takeOpS
  cases hb : (takeInS c s).2 with
  | true => simp only [if_true]; rw [h]
  | false => simp only [Bool.false_eq_true, if_false]; rw [h]
theorem hearS_is (c : Cn) (a w : Int) : ∃ wt U W ck tr ag, hearS c a w = { c with waits := wt, U := U, W := W, ck := ck, tr := tr, ag := ag } := by
  unfold hearS
  simp only
  split <;> split <;> exact ⟨_, _, _, _, _, _, rfl⟩
theorem st_cells (c : Cn) (vc vm vw : Value) (k : Int) : (cnC c vc vm vw).setIfInBounds 16 (.int .i64 k) = cnC { c with st := k } vc vm vw := by simp [cnC]
theorem oK_cells (c : Cn) (vc vm vw : Value) : (cnC c vc vm vw).setIfInBounds 18 (.bool true) = cnC { c with oK := true } vc vm vw := by simp [cnC]
/-- One cell of the connection itself is set. -/
theorem CnX.set {w : World} {p : Nat} {S : Nat → Prop} {c c' : Cn} {vc vm vw : Value} (h : CnX w p S c vc vm vw) (i : Nat) (v : Value) (e : (cnC c vc vm vw).setIfInBounds i v = cnC c' vc vm vw) (e1 : c'.came = c.came) (e2 : c'.waits = c.waits) (e3 : c'.lv = c.lv) (e4 : c'.ec = c.ec) (e5 : c'.E = c.E) :
    CnX (w.setCell ⟨p, i, none⟩ v) p S c' vc vm vw ∧ Kp S w S (w.setCell ⟨p, i, none⟩ v) := by
  have k1 := setc (w := w) h.box i v
  rw [e] at k1
  have m1 := (Mods.refl (fun b => b = p) w).setCell p i v rfl
  exact ⟨h.turn m1 k1 e1 e2 e3 e4 e5, h.kp m1⟩
end Go.Proofs.Ytmmijbiapflneaa
