/- A cache: its blocks by their numbers, the one that was used longest ago first. -/
import Derived.Test.YtdfnfcimajomeaaCcB
import Derived.RegionTactic
namespace Go.Proofs.Ytdfnfcimajomeaa
open Go.RowKit Go.Maps

/-! ### the pure cache -/
structure Ec where
  num : Int
  dat : List Int
  dirty : Bool
  pins : Int
instance : Inhabited Ec := ⟨⟨0, [], false, 0⟩⟩
structure Cs where
  n : Nat
  row : List Ec
def nums (l : List Ec) : List Int := l.map (·.num)
def Cs.has (A : Cs) (k : Int) : Bool := decide (k ∈ nums A.row)
def atL (l : List Ec) (k : Int) : Ec := (l.find? fun e => decide (e.num = k)).getD default
def Cs.at (A : Cs) (k : Int) : Ec := atL A.row k
def wo (l : List Ec) (k : Int) : List Ec := l.filter fun e => decide (e.num ≠ k)
def may (e : Ec) : Bool := !e.dirty && decide (e.pins = 0)
def Cs.use (A : Cs) (k : Int) : Cs := { A with row := wo A.row k ++ [A.at k] }
def Cs.cut (A : Cs) (k : Int) : Cs := { A with row := wo A.row k }
def Cs.add (A : Cs) (e : Ec) : Cs := { A with row := A.row ++ [e] }
def Cs.chg (A : Cs) (k : Int) (f : Ec → Ec) : Cs := { A with row := A.row.map fun e => if e.num = k then f e else e }
def Cs.room (A : Cs) : Option Cs := if A.row.length < A.n then some A else (A.row.find? may).map fun e => A.cut e.num

theorem atL_mem {l : List Ec} {k : Int} (h : k ∈ nums l) : atL l k ∈ l ∧ (atL l k).num = k := by
  unfold nums at h
  obtain ⟨e, he, hk⟩ := List.mem_map.1 h
  unfold atL
  cases hf : l.find? fun e => decide (e.num = k) with
  | none => have := List.find?_eq_none.1 hf e he; simp [hk] at this
  | some x => exact ⟨List.mem_of_find?_eq_some hf, by have := List.find?_some hf; simpa using this⟩
theorem nums_inj {l : List Ec} (hn : (nums l).Nodup) {e e' : Ec} (h : e ∈ l) (h' : e' ∈ l) (he : e.num = e'.num) : e = e' := by
  induction l with
  | nil => cases h
  | cons x r ih =>
    unfold nums at hn
    rw [List.map_cons, List.nodup_cons] at hn
    rcases List.mem_cons.1 h with rfl | h1 <;> rcases List.mem_cons.1 h' with rfl | h2
    · rfl
    · exact absurd (List.mem_map.2 ⟨e', h2, he.symm⟩) hn.1
    · exact absurd (List.mem_map.2 ⟨e, h1, he⟩) hn.1
    · exact ih hn.2 h1 h2
theorem atL_of {l : List Ec} (hn : (nums l).Nodup) {e : Ec} (h : e ∈ l) : atL l e.num = e :=
  have hm : e.num ∈ nums l := List.mem_map.2 ⟨e, h, rfl⟩
  nums_inj hn (atL_mem hm).1 h (atL_mem hm).2
theorem mem_wo {l : List Ec} {k : Int} {e : Ec} : e ∈ wo l k ↔ e ∈ l ∧ e.num ≠ k := by unfold wo; simp
theorem nums_wo (l : List Ec) (k : Int) : nums (wo l k) = (nums l).filter fun x => decide (x ≠ k) := by unfold nums wo; rw [List.filter_map]; rfl
theorem nums_mem_wo {l : List Ec} {k x : Int} : x ∈ nums (wo l k) ↔ x ∈ nums l ∧ x ≠ k := by rw [nums_wo]; simp
theorem nd_wo {l : List Ec} (h : (nums l).Nodup) (k : Int) : (nums (wo l k)).Nodup := by rw [nums_wo]; exact h.filter _
theorem nums_app (l m : List Ec) : nums (l ++ m) = nums l ++ nums m := by unfold nums; simp
/-- Without the element at place i. -/
theorem wo_erase : ∀ {l : List Ec}, (nums l).Nodup → ∀ {i : Nat}, i < l.length → l.eraseIdx i = wo l (l.getD i default).num
  | x :: r, hn, 0, _ => by
    unfold nums at hn
    rw [List.map_cons, List.nodup_cons] at hn
    simp only [List.eraseIdx_cons_zero, List.getD_cons_zero]
    unfold wo
    rw [List.filter_cons_of_neg (by simp), List.filter_eq_self.2]
    intro e he
    simp
    intro h
    exact hn.1 (List.mem_map.2 ⟨e, he, h⟩)
  | x :: r, hn, i + 1, hi => by
    unfold nums at hn
    rw [List.map_cons, List.nodup_cons] at hn
    simp only [List.length_cons] at hi
    have hi' : i < r.length := by omega
    simp only [List.eraseIdx_cons_succ, List.getD_cons_succ]
    rw [wo_erase hn.2 hi']
    unfold wo
    rw [List.filter_cons_of_pos]
    simp
    intro h
    refine hn.1 (List.mem_map.2 ⟨r.getD i default, ?_, h.symm⟩)
    simp [List.getD, hi']
theorem getD_memE {l : List Ec} {i : Nat} (h : i < l.length) : l.getD i default ∈ l := by simp [List.getD, h]

/-! ### the cache in memory -/
def ptrs (ad : Int → Nat) (l : List Ec) : List Value := l.map fun e => pv (ad e.num)
theorem ptrs_len (ad : Int → Nat) (l : List Ec) : (ptrs ad l).length = l.length := by simp [ptrs]
theorem ptrs_get (ad : Int → Nat) {l : List Ec} {i : Nat} (h : i < l.length) : (ptrs ad l)[i]? = some (pv (ad (l.getD i default).num)) := by simp [ptrs, List.getD, h]
theorem ptrs_one (ad : Int → Nat) (l : List Ec) : ∀ u ∈ ptrs ad l, u.oneCell' = true := by
  intro u hu
  obtain ⟨e, _, rfl⟩ := List.mem_map.1 hu
  rfl
theorem ptrs_app (ad : Int → Nat) (l m : List Ec) : ptrs ad (l ++ m) = ptrs ad l ++ ptrs ad m := by simp [ptrs]
theorem ptrs_erase (ad : Int → Nat) (l : List Ec) (i : Nat) : (ptrs ad l).eraseIdx i = ptrs ad (l.eraseIdx i) := by unfold ptrs; rw [List.eraseIdx_eq_take_drop_succ, List.eraseIdx_eq_take_drop_succ]; simp
def entC (e : Ec) : List Value := .int .i64 e.num :: (u8s e.dat ++ [.bool e.dirty, .int .i64 e.pins])
structure CaAt (w : World) (p : Nat) (S : Nat → Prop) (A : Cs) (m : Nat) (ad : Int → Nat) (bm : Nat) (vr : Value) (M : Int → Option Value) : Prop where
  lt : ∀ b, S b → b < w.heap.size
  box : w.heap[p]? = some (.cells #[.int .i64 A.n, .map (some bm), vr] 53 (0, 0))
  sp : S p
  map : MapIs w bm m M
  sm : S bm
  row : w.ownsRow 0 61 1 vr A.row.length (ptrs ad A.row)
  sr : ∀ g, vr.ownBlock = some g → S g
  ent : ∀ e ∈ A.row, w.heap[ad e.num]? = some (.cells (entC e).toArray 66 (0, 0)) ∧ S (ad e.num) ∧ e.dat.length = 512 ∧ IsI e.num
  nd : (nums A.row).Nodup
  key : ∀ k, IsI k → M k = if k ∈ nums A.row then some (pv (ad k)) else none
  hn : A.n ≤ 1024
  len : A.row.length ≤ A.n
def Ca (w : World) (p : Nat) (S : Nat → Prop) (A : Cs) (m : Nat) : Prop := ∃ ad bm vr M, CaAt w p S A m ad bm vr M
theorem MapIs.kind {w : World} {b n : Nat} {M : Int → Option Value} (h : MapIs w b n M) : ∃ es c, w.heap[b]? = some (.map es c) := let ⟨_, ⟨es, c, hh, _⟩, _⟩ := h; ⟨es, c, hh⟩
section
variable {w w' : World} {p m : Nat} {S : Nat → Prop} {A : Cs} {ad : Int → Nat} {bm : Nat} {vr : Value} {M : Int → Option Value}
theorem CaAt.cells (h : CaAt w p S A m ad bm vr M) : w.cell? ⟨p, 0, none⟩ = some (.int .i64 A.n) ∧ w.cell? ⟨p, 1, none⟩ = some (.map (some bm)) ∧ w.cell? ⟨p, 2, none⟩ = some vr := ⟨cell_of h.box rfl, cell_of h.box rfl, cell_of h.box rfl⟩
theorem CaAt.froz (h : CaAt w p S A m ad bm vr M) (i : Nat) : w.frozen? ⟨p, i, none⟩ = false := froz_of h.box i
theorem CaAt.p_ne_m (h : CaAt w p S A m ad bm vr M) : p ≠ bm := fun e => by
  obtain ⟨es, c, hh⟩ := h.map.kind
  have := h.box
  rw [e, hh] at this
  cases this
theorem CaAt.p_ne_r (h : CaAt w p S A m ad bm vr M) {g : Nat} (hg : vr.ownBlock = some g) : p ≠ g := fun e => by
  obtain ⟨c, hh⟩ := owns_kind h.row hg
  have := h.box
  rw [e, hh] at this
  simp at this
theorem CaAt.m_ne_r (h : CaAt w p S A m ad bm vr M) {g : Nat} (hg : vr.ownBlock = some g) : bm ≠ g := fun e => by
  obtain ⟨c, hh⟩ := owns_kind h.row hg
  obtain ⟨es, c', hh'⟩ := h.map.kind
  rw [e, hh] at hh'
  cases hh'
theorem CaAt.e_ne_p (h : CaAt w p S A m ad bm vr M) {e : Ec} (he : e ∈ A.row) : ad e.num ≠ p := fun e1 => by
  have := (h.ent e he).1
  rw [e1, h.box] at this
  simp at this
theorem CaAt.e_ne_m (h : CaAt w p S A m ad bm vr M) {e : Ec} (he : e ∈ A.row) : ad e.num ≠ bm := fun e1 => by
  obtain ⟨es, c', hh'⟩ := h.map.kind
  have := (h.ent e he).1
  rw [e1, hh'] at this
  cases this
theorem CaAt.e_ne_r (h : CaAt w p S A m ad bm vr M) {e : Ec} (he : e ∈ A.row) {g : Nat} (hg : vr.ownBlock = some g) : ad e.num ≠ g := fun e1 => by
  obtain ⟨c, hh⟩ := owns_kind h.row hg
  have := (h.ent e he).1
  rw [e1, hh] at this
  simp at this
theorem CaAt.inj (h : CaAt w p S A m ad bm vr M) {e e' : Ec} (he : e ∈ A.row) (he' : e' ∈ A.row) (h1 : ad e.num = ad e'.num) : e.num = e'.num := by
  have a := (h.ent e he).1
  have b := (h.ent e' he').1
  rw [h1, b] at a
  simp [entC] at a
  exact a.1.symm
theorem CaAt.has (h : CaAt w p S A m ad bm vr M) (k : Int) (hk : IsI k) : M k = if A.has k = true then some (pv (ad k)) else none := by rw [h.key k hk]; simp [Cs.has]
/-- A world in which nothing that is owned has turned. -/
theorem CaAt.keep (h : CaAt w p S A m ad bm vr M) (hs : w.heap.size ≤ w'.heap.size) (hk : ∀ b, S b → w'.heap[b]? = w.heap[b]?) : CaAt w' p S A m ad bm vr M :=
  ⟨fun b hb => Nat.lt_of_lt_of_le (h.lt b hb) hs, (hk p h.sp).trans h.box, h.sp, h.map.keep (hk bm h.sm), h.sm, owns_keep h.row (fun g hg => hk g (h.sr g hg)), h.sr, fun e he => ⟨(hk _ (h.ent e he).2.1).trans (h.ent e he).1, (h.ent e he).2⟩, h.nd, h.key, h.hn, h.len⟩
theorem CaAt.below (h : CaAt w p S A m ad bm vr M) (hb : Below w.heap.size w w') : CaAt w' p S A m ad bm vr M := h.keep hb.size (fun b e => hb.block b (h.lt b e))
theorem CaAt.outside (h : CaAt w p S A m ad bm vr M) {P : Nat → Prop} (hm : Mods P w w') (hP : ∀ b, P b → ¬ S b) : CaAt w' p S A m ad bm vr M := h.keep hm.size (fun b e => hm.block b (h.lt b e) (fun e2 => hP b e2 e))
theorem Ca.keep (h : Ca w p S A m) (hs : w.heap.size ≤ w'.heap.size) (hk : ∀ b, S b → w'.heap[b]? = w.heap[b]?) : Ca w' p S A m := let ⟨_, _, _, _, d⟩ := h; ⟨_, _, _, _, d.keep hs hk⟩
theorem Ca.below (h : Ca w p S A m) (hb : Below w.heap.size w w') : Ca w' p S A m := let ⟨_, _, _, _, d⟩ := h; ⟨_, _, _, _, d.below hb⟩
theorem Ca.outside (h : Ca w p S A m) {P : Nat → Prop} (hm : Mods P w w') (hP : ∀ b, P b → ¬ S b) : Ca w' p S A m := let ⟨_, _, _, _, d⟩ := h; ⟨_, _, _, _, d.outside hm hP⟩
theorem Ca.lt (h : Ca w p S A m) : ∀ b, S b → b < w.heap.size := let ⟨_, _, _, _, d⟩ := h; d.lt
theorem Ca.sp (h : Ca w p S A m) : S p := let ⟨_, _, _, _, d⟩ := h; d.sp
theorem Ca.more (h : Ca w p S A m) {m' : Nat} (hm : m ≤ m') : Ca w p S A m' := let ⟨_, _, _, _, d⟩ := h; ⟨_, _, _, _, d.lt, d.box, d.sp, d.map.mono hm, d.sm, d.row, d.sr, d.ent, d.nd, d.key, d.hn, d.len⟩

/-- The row is another one; what is not in it any more is no more in the map. -/
theorem CaAt.toRow (h : CaAt w p S A m ad bm vr M) {w2 : World} {A' : Cs} {M' : Int → Option Value} {v' : Value} {P : Nat → Prop} (hA : A'.n = A.n) (hb : w2.heap[p]? = some (.cells #[.int .i64 A.n, .map (some bm), v'] 53 (0, 0)))
    (hmap : MapIs w2 bm m M') (hr : w2.ownsRow 0 61 1 v' A'.row.length (ptrs ad A'.row)) (hm : Mods P w w2) (hP : ∀ b, P b → b = p ∨ vr.ownBlock = some b ∨ b = bm) (hv : ∀ b, v'.ownBlock = some b → vr.ownBlock = some b ∨ w.heap.size ≤ b)
    (hsub : ∀ e, e ∈ A'.row → e ∈ A.row) (hnd : (nums A'.row).Nodup) (hkey : ∀ k, IsI k → M' k = if k ∈ nums A'.row then some (pv (ad k)) else none) (hl : A'.row.length ≤ A.n) :
    ∃ S', CaAt w2 p S' A' m ad bm v' M' ∧ Kp S w S' w2 := by
  have hPS : ∀ b, P b → S b := fun b hb => by
    rcases hP b hb with rfl | e | rfl
    · exact h.sp
    · exact h.sr b e
    · exact h.sm
  refine ⟨fun b => S b ∨ v'.ownBlock = some b, ⟨fun b hb2 => ?_, by rw [hA]; exact hb, .inl h.sp, hmap, .inl h.sm, hr, fun g hg => .inr hg, fun e he => ?_, hnd, hkey, by rw [hA]; exact h.hn, by rw [hA]; exact hl⟩, fun b hb2 => ?_, hm.weak (fun b e => .inl (hPS b e))⟩
  · rcases hb2 with e | e
    · exact Nat.lt_of_lt_of_le (h.lt b e) hm.size
    · exact (owns_lt hr e).1
  · have he' := hsub e he
    obtain ⟨h1, h2, h3, h4⟩ := h.ent e he'
    refine ⟨(hm.block _ (h.lt _ h2) (fun e2 => ?_)).trans h1, .inl h2, h3, h4⟩
    rcases hP _ e2 with e3 | e3 | e3
    · exact h.e_ne_p he' e3
    · exact h.e_ne_r he' e3 rfl
    · exact h.e_ne_m he' e3
  · rcases hb2 with e | e
    · exact .inl e
    · exact (hv b e).imp (fun e => h.sr b e) id
end
end Go.Proofs.Ytdfnfcimajomeaa
