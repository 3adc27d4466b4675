/- A base of blocks: what is laid into it. -/
import Derived.Test.YtoplbmbeadpilaaVcB
import Derived.Test.YtoplbmbeadpilaaVdS
namespace Go.Proofs.Ytoplbmbeadpilaa
open Go.RowKit Go.Maps
set_option linter.unusedVariables false

/-- What a list of blocks lays at a number: the last one. -/
def laidOn (o : Option (List Int)) (L : List Pt) (k : Int) : Option (List Int) := L.foldl (fun o p => if p.blk = k then some p.dat else o) o
def laid (L : List Pt) (k : Int) : Option (List Int) := laidOn none L k
theorem laidOn_app (o : Option (List Int)) (L M : List Pt) (k : Int) : laidOn o (L ++ M) k = laidOn (laidOn o L k) M k := by simp [laidOn, List.foldl_append]
theorem laidOn_keep (o : Option (List Int)) (M : List Pt) (k : Int) (h : ∀ p ∈ M, p.blk ≠ k) : laidOn o M k = o := by
  induction M generalizing o with
  | nil => rfl
  | cons p M ih =>
    show laidOn (if p.blk = k then some p.dat else o) M k = o
    rw [if_neg (h p (by simp)), ih _ (fun q hq => h q (by simp [hq]))]
theorem laid_snoc (L : List Pt) (p : Pt) (k : Int) : laid (L ++ [p]) k = if p.blk = k then some p.dat else laid L k := by
  unfold laid; rw [laidOn_app]; rfl
theorem laid_take (L : List Pt) (j : Nat) (h : j < L.length) (k : Int) : laid (L.take (j + 1)) k = if (L.getD j default).blk = k then some (L.getD j default).dat else laid (L.take j) k := by
  have e : L.take (j + 1) = L.take j ++ [L.getD j default] := by
    rw [List.take_add_one]
    simp [List.getD, h]
  rw [e, laid_snoc]
def zeros512 : List Int := List.replicate 512 0
theorem zeros_len : zeros512.length = 512 := List.length_replicate
theorem zeros_isB : ∀ x ∈ zeros512, IsB x := rep_isB 512
def cont (L : List Pt) (k : Nat) : List Int := (laid L k).getD zeros512
theorem bmRows_blk (b d : Int) : ∀ (r : Nat), ∀ p ∈ bmRows b d r, 69 ≤ p.blk ∧ p.blk < 69 + (r : Int) ∧ p.dat.length = 512
  | 0, p, hp => by simp [bmRows] at hp
  | r + 1, p, hp => by
    simp only [bmRows, List.mem_append] at hp
    rcases hp with h | h
    · have := bmRows_blk b d r p h; omega
    · split at h
      · simp only [List.mem_singleton] at h; subst h; exact ⟨by show (69 : Int) ≤ 69 + r; omega, by show (69 : Int) + r < _; omega, by dsimp only; exact bitB_len _⟩
      · simp at h
theorem bm_none {P : Nat → Bool} (h : (List.range 4096).any P = false) : bitB P = zeros512 := by
  rw [← show bitB (fun _ => false) = zeros512 from bitB_none]
  refine bitB_congr fun i hi => ?_
  rw [List.any_eq_false] at h
  simpa using h i (List.mem_range.2 hi)
theorem bmRows_at (b d : Int) (R r : Nat) (h : r < R) (o : Option (List Int)) (ho : o.getD zeros512 = zeros512) : (laidOn o (bmRows b d R) (69 + (r : Int))).getD zeros512 = bitB (bmB b d r) := by
  induction R with
  | zero => omega
  | succ R ih =>
    simp only [bmRows]
    rw [laidOn_app]
    by_cases e : r = R
    · subst e
      rw [laidOn_keep o _ _ (fun p hp => by have := bmRows_blk b d r p hp; omega)]
      cases hA : (List.range 4096).any (bmB b d r)
      · rw [bm_none hA]
        exact ho
      · simp [laidOn]
    · rw [laidOn_keep _ _ _ (fun p hp => by
        split at hp
        · simp only [List.mem_singleton] at hp; subst hp; show (69 : Int) + R ≠ 69 + r; omega
        · simp at hp)]
      exact ih (by omega)
theorem planT_eq (b : Int) (h : 128 ≤ b) : planT b = 69 + (((b + 4095) / 4096).toNat : Int) := by unfold planT; omega
theorem mk_tail {b i s ns k : Int} (hp : PlanOk b i) (hk : k < planT b) : ∀ p ∈ ([⟨planT b, nodeL (planD b i) s ns⟩, ⟨planD b i, linesL⟩] : List Pt), p.blk ≠ k := by
  have := hp.i0
  intro p h
  simp only [List.mem_cons, List.not_mem_nil, or_false] at h
  rcases h with rfl | rfl
  · show planT b ≠ k; omega
  · show planD b i ≠ k; unfold planD; omega
theorem cont_0 {b i s ns : Int} (hp : PlanOk b i) : cont (mkfsL b i s ns) 0 = encL b i := by
  have hb := hp.b0
  unfold cont laid mkfsL
  rw [laidOn_app, laidOn_keep _ _ _ (mk_tail hp (by rw [planT_eq b hb]; omega)), laidOn_app, laidOn_keep _ _ _ (fun p h => by have := bmRows_blk _ _ _ p h; omega)]
  simp [laidOn]
theorem cont_68 {b i s ns : Int} (hp : PlanOk b i) : cont (mkfsL b i s ns) 68 = bitB (imB i) := by
  have hb := hp.b0
  unfold cont laid mkfsL
  rw [laidOn_app, laidOn_keep _ _ _ (mk_tail hp (by rw [planT_eq b hb]; omega)), laidOn_app, laidOn_keep _ _ _ (fun p h => by have := bmRows_blk _ _ _ p h; omega)]
  simp [laidOn]
theorem cont_bm {b i s ns : Int} (hp : PlanOk b i) {r : Nat} (hr : r < ((b + 4095) / 4096).toNat) : cont (mkfsL b i s ns) (69 + r) = bitB (bmB b (planD b i) r) := by
  have hb := hp.b0
  unfold cont laid mkfsL
  have e : ((69 + r : Nat) : Int) = 69 + (r : Int) := by omega
  rw [e, laidOn_app, laidOn_keep _ _ _ (mk_tail hp (by rw [planT_eq b hb]; omega)), laidOn_app]
  refine bmRows_at _ _ _ _ hr _ ?_
  have : laidOn none [⟨0, encL b i⟩, ⟨68, bitB (imB i)⟩] (69 + (r : Int)) = none := laidOn_keep _ _ _ (fun p h => by
    simp only [List.mem_cons, List.not_mem_nil, or_false] at h
    rcases h with rfl | rfl
    · show (0 : Int) ≠ _; omega
    · show (68 : Int) ≠ _; omega)
  rw [this]
  rfl
theorem mk_all {b i s ns : Int} (hp : PlanOk b i) : ∀ p ∈ mkfsL b i s ns, 0 ≤ p.blk ∧ p.blk < b ∧ p.dat.length = 512 := by
  have h1 := hp.d
  have hb := hp.b0
  have hi := hp.i0
  have hT := planT_eq b hb
  have hD : planD b i = planT b + i / 4 := rfl
  intro p h
  unfold mkfsL at h
  simp only [List.mem_append, List.mem_cons, List.not_mem_nil, or_false] at h
  rcases h with ((rfl | rfl) | h) | (rfl | rfl)
  · exact ⟨Int.le_refl _, by show (0 : Int) < b; omega, by dsimp only; exact encL_len _ _⟩
  · exact ⟨by show (0 : Int) ≤ 68; omega, by show (68 : Int) < b; omega, by dsimp only; exact bitB_len _⟩
  · have := bmRows_blk _ _ _ p h; omega
  · exact ⟨by show 0 ≤ planT b; omega, by show planT b < b; omega, by dsimp only; exact nodeL_len _ _ _⟩
  · exact ⟨by show 0 ≤ planD b i; omega, by show planD b i < b; omega, by dsimp only; exact linesL_len⟩
theorem laid_len {L : List Pt} (h : ∀ p ∈ L, p.dat.length = 512) (k : Int) (d : List Int) (e : laid L k = some d) : d.length = 512 := by
  have : ∀ (L : List Pt) (o : Option (List Int)), (∀ p ∈ L, p.dat.length = 512) → (∀ d, o = some d → d.length = 512) → ∀ d, laidOn o L k = some d → d.length = 512 := by
    intro L
    induction L with
    | nil => intro o _ ho d hd; exact ho d hd
    | cons p L ih =>
      intro o hL ho d hd
      refine ih _ (fun q hq => hL q (by simp [hq])) (fun d' hd' => ?_) d hd
      dsimp only at hd'
      split at hd'
      · simp only [Option.some.injEq] at hd'; subst hd'; exact hL p (by simp)
      · exact ho d' hd'
  exact this L none h (by simp) d e
theorem cont_len {L : List Pt} (h : ∀ p ∈ L, p.dat.length = 512) (k : Nat) : (cont L k).length = 512 := by
  unfold cont
  cases e : laid L k with
  | none => exact zeros_len
  | some d => exact laid_len h _ d e
end Go.Proofs.Ytoplbmbeadpilaa
