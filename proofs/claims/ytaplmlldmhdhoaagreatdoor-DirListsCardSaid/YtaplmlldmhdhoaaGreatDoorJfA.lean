/- JeV, JeW, JfA in one text. -/
import Derived.Test.YtaplmlldmhdhoaaGreatDoorJeQ
import Derived.Test.YtaplmlldmhdhoaaGreatDoorJeH
import Derived.Test.YtaplmlldmhdhoaaGreatDoorJeT
/- DirLists: what List tells, a line at a time. -/
namespace Go.Proofs.YtaplmlldmhdhoaaGreatDoor
open Go.RowKit Go.Maps
set_option linter.unusedVariables false
theorem getD_at {L : List Ln} {p : Nat} (hp : p < L.length) : L.getD p noLn = L[p] := by rw [List.getD_eq_getElem?_getD, List.getElem?_eq_getElem hp]; rfl
theorem drop_at {L : List Ln} {p : Nat} (hp : p < L.length) : L.drop p = L.getD p noLn :: L.drop (p + 1) := by rw [getD_at hp]; exact List.drop_eq_getElem_cons hp
theorem tolds_cons (lo : Nat) (x : Ln) (l : List Ln) : tolds lo (x :: l) = (if x.i = 0 then [] else [(x, lo)]) ++ tolds (lo + 1) l := by
  unfold tolds
  rw [List.zipIdx_cons, List.filter_cons]
  by_cases h : x.i = 0 <;> simp [h]
theorem tolds_skip {L : List Ln} {p : Nat} (h : (L.getD p noLn).i = 0) : tolds p (L.drop p) = tolds (p + 1) (L.drop (p + 1)) := by
  by_cases hp : p < L.length
  · rw [drop_at hp, tolds_cons, if_pos h]; rfl
  · rw [List.drop_eq_nil_of_le (by omega), List.drop_eq_nil_of_le (by omega)]; rfl
theorem tolds_hit {L : List Ln} {p : Nat} (hp : p < L.length) (h : (L.getD p noLn).i ≠ 0) : tolds p (L.drop p) = (L.getD p noLn, p) :: tolds (p + 1) (L.drop (p + 1)) := by
  rw [drop_at hp, tolds_cons, if_neg h]; rfl
theorem tolds_next {L : List Ln} {a p : Nat} (hap : a ≤ p) (hf : ∀ j, a ≤ j → j < p → (L.getD j noLn).i = 0) : tolds a (L.drop a) = tolds p (L.drop p) := by
  induction p with
  | zero => obtain rfl : a = 0 := by omega
            rfl
  | succ p ih =>
    by_cases h : a = p + 1
    · rw [h]
    · rw [ih (by omega) (fun j h1 h2 => hf j h1 (by omega)), tolds_skip (hf p (by omega) (by omega))]
theorem tolds_end {L : List Ln} {p : Nat} (hp : L.length ≤ p) : tolds p (L.drop p) = [] := by rw [List.drop_eq_nil_of_le hp]; rfl
/-- Either there is a next line, or there is none. -/
theorem next_or (L : List Ln) (a : Nat) : (∃ p, a ≤ p ∧ p < L.length ∧ (L.getD p noLn).i ≠ 0 ∧ (∀ j, a ≤ j → j < p → (L.getD j noLn).i = 0)) ∨ (∀ j, a ≤ j → (L.getD j noLn).i = 0) := by
  by_cases h : ∃ p, a ≤ p ∧ (L.getD p noLn).i ≠ 0
  · left
    obtain ⟨p, h1, h2_⟩ : ∃ p, (a ≤ p ∧ (L.getD p noLn).i ≠ 0) ∧ ∀ j, j < p → ¬ (a ≤ j ∧ (L.getD j noLn).i ≠ 0) := by
      obtain ⟨p0, hp0⟩ := h
      induction p0 using Nat.strongRecOn with
      | _ p0 ih =>
        by_cases hm : ∃ j, j < p0 ∧ a ≤ j ∧ (L.getD j noLn).i ≠ 0
        · obtain ⟨j, hj, hj2⟩ := hm
          exact ih j hj hj2
        · exact ⟨p0, hp0, fun j hj e => hm ⟨j, hj, e⟩⟩
    refine ⟨p, h1.1, ?_, h1.2, fun j hj1 hj2 => ?_⟩
    · by_cases hl : p < L.length
      · exact hl
      · exfalso
        have : L.getD p noLn = noLn := by rw [List.getD_eq_getElem?_getD, List.getElem?_eq_none (by omega)]; rfl
        rw [this] at h1
        exact h1.2 rfl
    · by_cases e : (L.getD j noLn).i = 0
      · exact e
      · exact absurd ⟨hj1, e⟩ (h2_ j hj2)
  · right
    intro j hj
    by_cases e : (L.getD j noLn).i = 0
    · exact e
    · exact absurd ⟨j, hj, e⟩ h
end Go.Proofs.YtaplmlldmhdhoaaGreatDoor

/- DirLists: the directory behind n adds. -/
namespace Go.Proofs.YtaplmlldmhdhoaaGreatDoor
open Go.RowKit Go.Maps
set_option linter.unusedVariables false
def Lm (n : Nat) : List Ln := L0 ++ (List.range n).map fun i => ⟨50 + (i : Int), nmL i⟩
theorem Lm_len (n : Nat) : (Lm n).length = n + 2 := by unfold Lm; simp [L0]
theorem Lm_zero : Lm 0 = L0 := by unfold Lm; simp
theorem Lm_succ (n : Nat) : Lm (n + 1) = Lm n ++ [⟨50 + (n : Int), nmL n⟩] := by unfold Lm; rw [List.range_succ]; simp
theorem Lm_taken (n : Nat) : ∀ x ∈ Lm n, x.i ≠ 0 := by
  intro x hx
  unfold Lm at hx
  rcases List.mem_append.1 hx with h | h
  · simp only [L0, List.mem_cons, List.not_mem_nil, or_false] at h
    rcases h with rfl | rfl <;> decide
  · obtain ⟨i, _, rfl⟩ := List.mem_map.1 h
    show 50 + (i : Int) ≠ 0
    omega
theorem roomF_full {L : List Ln} (h : ∀ x ∈ L, x.i ≠ 0) (len : Nat) : roomF len L = len := by
  unfold roomF
  rw [if_neg]
  have : L.findIdx (fun x => x.i == 0) = L.length := by
    rw [List.findIdx_eq_length]
    intro x hx
    rw [beq_eq_false_iff_ne]
    exact h x hx
  omega
theorem Lm_room (n : Nat) : roomF (Lm n).length (Lm n) = n + 2 := by rw [roomF_full (Lm_taken n), Lm_len]
theorem Lm_add (n : Nat) : addL (Lm n) ⟨50 + (n : Int), nmL n⟩ = Lm (n + 1) := by
  unfold addL
  rw [Lm_room, Lm_len, if_neg (by omega), Lm_succ]
theorem nmL_head (n : Nat) : ∃ l, nmL n = ((97 + n % 26 : Nat) : Int) :: l := ⟨_, rfl⟩
theorem Lm_no (n : Nat) (hn : n < 60) : ∀ y ∈ Lm n, ¬ Has (nmL n) y := by
  intro y hy ⟨_, he⟩
  unfold Lm at hy
  rcases List.mem_append.1 hy with h | h
  · obtain ⟨l, hl⟩ := nmL_head n
    simp only [L0, List.mem_cons, List.not_mem_nil, or_false] at h
    rcases h with rfl | rfl <;> rw [hl] at he <;> simp at he <;> omega
  · obtain ⟨i, hi, rfl⟩ := List.mem_map.1 h
    have hi' := List.mem_range.1 hi
    have := nmL_inj ⟨i, by omega⟩ ⟨n, hn⟩ he
    simp at this
    omega
theorem Lm_ok (n : Nat) (hn : n < 60) : LnOk ⟨50 + (n : Int), nmL n⟩ := by
  obtain ⟨h1, h2, h3, h4⟩ := nmL_ok ⟨n, hn⟩
  exact ⟨by show (0 : Int) ≤ 50 + (n : Int); omega, by show 50 + (n : Int) < 4294967296; omega, h2, h3⟩
end Go.Proofs.YtaplmlldmhdhoaaGreatDoor

/- DirLists: the law's own blocks beside the directory. -/
namespace Go.Proofs.YtaplmlldmhdhoaaGreatDoor
open Go.RowKit Go.Maps
set_option linter.unusedVariables false
/-- The directory (its inode Y), the box of the law's inode (X) and its row of marks (C). -/
structure Dl (w0 W : World) (pv : Nat) (S T : Nat → Prop) (k : Nat) (L : List Ln) (Y X : Array Value) (d t : Nat) (C : Array Value) : Prop where
  ds : Ds w0 W pv S T k L Y
  hd : W.heap[d]? = some (.cells X 31 (0, 0))
  ht : W.heap[t]? = some (.cells C 4 (0, 0))
  d0 : w0.heap.size ≤ d ∧ ¬ S d ∧ ¬ T d
  t0 : w0.heap.size ≤ t ∧ ¬ S t ∧ ¬ T t
  ne : d ≠ t
/-- A box of another inode. -/
structure Bx (w0 W : World) (S T : Nat → Prop) (d t g : Nat) (Z : Array Value) : Prop where
  hg : W.heap[g]? = some (.cells Z 31 (0, 0))
  g0 : w0.heap.size ≤ g ∧ ¬ S g ∧ ¬ T g
  ne : g ≠ d ∧ g ≠ t
section
variable {w0 W W' : World} {pv k k' d t g : Nat} {S S' T : Nat → Prop} {L L' : List Ln} {X Y Y' Z C : Array Value}
theorem lt_of {W : World} {g : Nat} {o : Obj} (h : W.heap[g]? = some o) : g < W.heap.size := (Array.getElem?_eq_some_iff.1 h).1
theorem Dl.later (h : Dl w0 W pv S T k L Y X d t C) (hb : Below W.heap.size W W') : Dl w0 W' pv S T k L Y X d t C :=
  ⟨h.ds.later hb, (hb.block d (lt_of h.hd)).trans h.hd, (hb.block t (lt_of h.ht)).trans h.ht, h.d0, h.t0, h.ne⟩
theorem Dl.call (h : Dl w0 W pv S T k L Y X d t C) (hds : Ds w0 W' pv S' T k' L' Y') (hK : Kp S W S' W') : Dl w0 W' pv S' T k' L' Y' X d t C :=
  ⟨hds, (hK.block (lt_of h.hd) h.d0.2.1).trans h.hd, (hK.block (lt_of h.ht) h.t0.2.1).trans h.ht, ⟨h.d0.1, hK.off (lt_of h.hd) h.d0.2.1, h.d0.2.2⟩, ⟨h.t0.1, hK.off (lt_of h.ht) h.t0.2.1, h.t0.2.2⟩, h.ne⟩
theorem Bx.later (h : Bx w0 W S T d t g Z) (hb : Below W.heap.size W W') : Bx w0 W' S T d t g Z := ⟨(hb.block g (lt_of h.hg)).trans h.hg, h.g0, h.ne⟩
theorem Bx.call (h : Bx w0 W S T d t g Z) (hK : Kp S W S' W') : Bx w0 W' S' T d t g Z := ⟨(hK.block (lt_of h.hg) h.g0.2.1).trans h.hg, ⟨h.g0.1, hK.off (lt_of h.hg) h.g0.2.1, h.g0.2.2⟩, h.ne⟩
theorem Dl.new (h : Dl w0 W pv S T k L Y X d t C) (Z : Array Value) (hW : W' = W.alloc (.cells Z 31)) : Below W.heap.size W W' ∧ Bx w0 W' S T d t W.heap.size Z := by
  subst hW
  have hd := lt_of h.hd
  have ht := lt_of h.ht
  exact ⟨(Below.refl _ _).alloc (Nat.le_refl _) _, alloc_new W _, ⟨h.ds.below.size, fun e => by have := h.ds.lt (.inl e); omega, fun e => by have := h.ds.lt (.inr e); omega⟩, by omega, by omega⟩
theorem Dl.setX (h : Dl w0 W pv S T k L Y X d t C) (hb : Bx w0 W S T d t g Z) (Z' : Array Value) : Dl w0 (W.setRow g Z') pv S T k L Y X d t C ∧ Bx w0 (W.setRow g Z') S T d t g Z' :=
  ⟨⟨h.ds.mods (setRow_mods W g Z') (fun x hx => by rw [hx]; exact hb.g0), (setRow_other _ _ _ _ (Ne.symm hb.ne.1)).trans h.hd, (setRow_other _ _ _ _ (Ne.symm hb.ne.2)).trans h.ht, h.d0, h.t0, h.ne⟩, setRow_heap _ _ _ _ _ _ hb.hg, hb.g0, hb.ne⟩
theorem Dl.setD (h : Dl w0 W pv S T k L Y X d t C) (X' : Array Value) : Dl w0 (W.setRow d X') pv S T k L Y X' d t C :=
  ⟨h.ds.mods (setRow_mods W d X') (fun x hx => by rw [hx]; exact h.d0), setRow_heap _ _ _ _ _ _ h.hd, (setRow_other _ _ _ _ (Ne.symm h.ne)).trans h.ht, h.d0, h.t0, h.ne⟩
theorem Dl.setT (h : Dl w0 W pv S T k L Y X d t C) (p : Nat) (v : Value) : Dl w0 (W.setCell ⟨t, p, none⟩ v) pv S T k L Y X d t (C.setIfInBounds p v) := by
  have hm : Mods (fun b => b = t) W (W.setCell ⟨t, p, none⟩ v) := (Mods.refl (fun b => b = t) W).setCell t p v rfl
  exact ⟨h.ds.mods hm (fun x hx => by rw [hx]; exact h.t0), (hm.block d (lt_of h.hd) h.ne).trans h.hd, setc h.ht p v, h.d0, h.t0, h.ne⟩
end
/-- The marks say which lines are taken. -/
def Th (C : Array Value) (L : List Ln) : Prop := ∀ p, p < 62 → C[p]? = some (.bool (decide ((L.getD p noLn).i ≠ 0)))
theorem Th.at_ {C : Array Value} {L : List Ln} (h : Th C L) (hp : 61 < 62) : C.size ≥ 62 := by
  have := h 61 hp
  rcases Nat.lt_or_ge 61 C.size with h1 | h1
  · omega
  · rw [Array.getElem?_eq_none h1] at this; simp at this
theorem Th.set {C : Array Value} {L : List Ln} (h : Th C L) (p : Nat) (hp : p < 62) (b : Bool) (L' : List Ln) (hL : ∀ q, q ≠ p → (L'.getD q noLn).i = (L.getD q noLn).i) (hb : b = decide ((L'.getD p noLn).i ≠ 0)) : Th (C.setIfInBounds p (.bool b)) L' := fun q hq => by
  have hs := h.at_ (by omega)
  rw [Array.getElem?_setIfInBounds]
  by_cases e : p = q
  · subst e
    rw [if_pos rfl, if_pos (by omega), hb]
  · rw [if_neg e, h q hq, hL q (Ne.symm e)]
theorem Th.made : Th (madeCells #[.bool false] 62) [] := fun p hp => by
  have e : (madeCells #[Value.bool false] 62)[p]? = some (.bool false) := by rw [← Array.getElem?_toList, toList_madeCells_one, List.getElem?_replicate, if_pos hp]
  rw [e]; rfl
theorem Th.begin : Th (((madeCells #[.bool false] 62).setIfInBounds 0 (.bool true)).setIfInBounds 1 (.bool true)) (Lm 0) := by
  rw [Lm_zero]
  refine (Th.made.set 0 (by omega) true [⟨1, [46]⟩] (fun q hq => ?_) (by decide)).set 1 (by omega) true L0 (fun q hq => ?_) (by decide)
  · cases q with
    | zero => exact absurd rfl hq
    | succ q => rfl
  · match q, hq with
    | 0, _ => rfl
    | 1, h => exact absurd rfl h
    | q + 2, _ => rfl
theorem info4b : (Tryz.prog.info? 4).map (fun i => (i.zero, i.size, i.bytes)) = some (some (.bool false), 1, 1) := by kernel_rfl
theorem mk62 (W : World) : (Instr.makeSlice 47 (.int .i64 62) (.int .i64 62)).run Tryz.prog W = .ok (.slice (some ⟨W.heap.size, 0, none⟩) 62 62) (W.alloc (.cells (madeCells #[.bool false] 62) 4)) := run_make_row' (P := Tryz.prog) 47 4 (.bool false) 1 Tryz.underlying47 info4b rfl .i64 .i64 62 (by omega) (by omega) W
/-- A row of ints that was handed in. -/
def IntR (w : World) (a : Option Addr) (l : List Int) : Prop := ∀ i, i < l.length → ∃ b off, a = some ⟨b, off, none⟩ ∧ w.cell? ⟨b, off + i, none⟩ = some (.int .i64 (l.getD i 0))
theorem IntR.later {w w' : World} {a : Option Addr} {l : List Int} (h : IntR w a l) (hb : Below w.heap.size w w') : IntR w' a l := fun i hi => by
  obtain ⟨b, off, e, hc⟩ := h i hi
  exact ⟨b, off, e, cell_later hb hc⟩
theorem Lm_get (n q : Nat) : (Lm (n + 1)).getD q noLn = if q = n + 2 then ⟨50 + (n : Int), nmL n⟩ else (Lm n).getD q noLn := by
  rw [Lm_succ]
  have hl := Lm_len n
  simp only [List.getD]
  by_cases h : q < n + 2
  · rw [List.getElem?_append_left (by omega), if_neg (by omega)]
  · rw [List.getElem?_append_right (by omega), hl]
    by_cases e : q = n + 2
    · rw [if_pos e, e, Nat.sub_self]; rfl
    · rw [if_neg e, List.getElem?_eq_none (by simp; omega), List.getElem?_eq_none (by omega)]
theorem Th.add {C : Array Value} {n : Nat} (h : Th C (Lm n)) (hn : n + 2 < 62) : Th (C.setIfInBounds (n + 2) (.bool true)) (Lm (n + 1)) :=
  h.set (n + 2) hn true _ (fun q hq => by rw [Lm_get, if_neg hq]) (by
    rw [Lm_get, if_pos rfl]
    have : (50 + (n : Int)) ≠ 0 := by omega
    exact (decide_eq_true this).symm)
theorem Th.take {C : Array Value} {L : List Ln} (h : Th C L) (p : Nat) (hp : p < 62) (hl : p < L.length) : Th (C.setIfInBounds p (.bool false)) (L.set p noLn) :=
  h.set p hp false _ (fun q hq => by simp only [List.getD, List.getElem?_set]; rw [if_neg (Ne.symm hq)]) (by
    simp only [List.getD, List.getElem?_set, if_pos hl]
    rfl)
theorem Th.free {C : Array Value} {L : List Ln} (h : Th C L) (p : Nat) (hp : p < 62) (h0 : (L.getD p noLn).i = 0) : Th (C.setIfInBounds p (.bool false)) L :=
  h.set p hp false _ (fun q _ => rfl) (by rw [h0]; rfl)
section
variable {w0 W W' : World} {pv k k' d t g : Nat} {S S' T : Nat → Prop} {L L' : List Ln} {X Y Y' Z C : Array Value} {pe : Addr}
theorem Dl.add {j : Nat} (h : Dl w0 W pv S T j (Lm j) X X d t C) (hG : Gl w0) (hE : En0 w0 pe) (hj : j < 60) :
    Calls Tryz.prog 9 #[ptrV pv, .agg X, .string (strOfNums (nmL j)), n64 (50 + (j : Int))] W fun e W' => ∃ X' S', e = .returned (.tuple #[.agg X', n64 ((j + 2 : Nat) : Int), .nilIface]) ∧ Dl w0 W' pv S' T (j + 1) (Lm (j + 1)) X' X d t C ∧ Kp S W S' W' := by
  obtain ⟨h1, h2, h3, h4⟩ := nmL_ok ⟨j, hj⟩
  refine (h.ds.add hG hE (by omega) (by rw [Lm_len]; omega) ⟨50 + (j : Int), nmL j⟩ (Lm_ok j hj) (by show (1 : Int) ≤ 50 + (j : Int); omega) h1 h4 (Lm_no j hj)).mono ?_
  rintro e W' ⟨X', S', rfl, hds, hK⟩
  rw [Lm_add] at hds
  rw [Lm_room]
  exact ⟨X', S', rfl, h.call hds hK, hK⟩
theorem Dl.take {C : Array Value} (h : Dl w0 W pv S T k L X X d t C) (hG : Gl w0) (hk : k ≤ 300) (p : Nat) (hp2 : 2 ≤ p) (hp : p < L.length) (hi0 : (L.getD p noLn).i ≠ 0) :
    Calls Tryz.prog 8 #[ptrV pv, .agg X, n64 p] W fun e W' => ∃ S', e = .returned .nilIface ∧ Dl w0 W' pv S' T (k + 1) (L.set p noLn) X X d t C := by
  refine (h.ds.take hG hk p hp2 hp hi0).mono ?_
  rintro e W' ⟨S', rfl, hds, hK⟩
  exact ⟨S', rfl, h.call hds hK⟩
theorem Dl.takeNone {C : Array Value} (h : Dl w0 W pv S T k L X X d t C) (p : Nat) (hp2 : 2 ≤ p) (hp : p < L.length) (hi0 : (L.getD p noLn).i = 0) :
    Calls Tryz.prog 8 #[ptrV pv, .agg X, n64 p] W fun e W' => e = .returned (.iface 57 (n64 2)) ∧ Dl w0 W' pv S T k L X X d t C := by
  refine (h.ds.takeNone p hp2 hp hi0).mono ?_
  rintro e W' ⟨rfl, hb, _⟩
  exact ⟨rfl, h.later hb⟩
theorem Dl.list {C : Array Value} (h : Dl w0 W pv S T k L X X d t C) (hE : En0 w0 pe) (from_ m : Nat) (hf : from_ < 4611686018427387904) (hm0 : 0 < m) (hm : m < 4611686018427387904) (M : List (Ln × Nat)) (hM : (tolds from_ (L.drop from_)).take m = M) (q : Nat) (hq : M.length = q) :
    Calls Tryz.prog 13 #[ptrV pv, .agg X, n64 from_, n64 m] W fun e W' => ∃ a c, e = .returned (.tuple #[.slice a q c, .nilIface]) ∧ Dl w0 W' pv S T k L X X d t C ∧ W'.ownsRow 0 42 3 (.slice a q c) q (cellsLn M) := by
  refine (h.ds.list hE from_ m hf hm0 hm).mono ?_
  rintro e W' ⟨hb, _, v, M', rfl, hM', ho, _⟩
  rw [hM] at hM'
  subst hM'
  rw [hq] at ho
  obtain ⟨a, c, rfl⟩ := owns_slice ho
  exact ⟨a, c, rfl, h.later hb, ho⟩
theorem Dl.ino (h : Dl w0 W pv S T k L X Z d t C) : X.size = 23 ∧ X.all (·.oneCell') = true := ⟨h.ds.ino.1, h.ds.ino.2.1⟩
end
theorem cellsLn_get (M : List (Ln × Nat)) (i : Nat) (q : Ln × Nat) (h : M[i]? = some q) : (cellsLn M)[i * 3]? = some (n64 q.2) := by
  induction M generalizing i with
  | nil => simp at h
  | cons x M ih =>
    cases i with
    | zero => simp at h; subst h; rfl
    | succ i =>
      have e : cellsLn (x :: M) = [n64 x.2, n64 x.1.i, .string (strOfNums x.1.nm)] ++ cellsLn M := rfl
      rw [e, List.getElem?_append_right (by simp; omega)]
      have e2 : (i + 1) * 3 - [n64 x.2, n64 x.1.i, Value.string (strOfNums x.1.nm)].length = i * 3 := by simp; omega
      rw [e2]
      exact ih i (by simpa using h)
theorem tolds_all {L : List Ln} {a : Nat} (h : ∀ j, a ≤ j → (L.getD j noLn).i = 0) : tolds a (L.drop a) = [] := by
  rcases Nat.le_total a L.length with h1 | h1
  · rw [tolds_next h1 (fun j hj _ => h j hj), tolds_end (Nat.le_refl _)]
  · exact tolds_end h1
theorem tolds_none {L : List Ln} {a : Nat} (h : tolds a (L.drop a) = []) : ∀ j, a ≤ j → (L.getD j noLn).i = 0 := by
  rcases next_or L a with ⟨p, h1, h2, h3, h4⟩ | h1
  · rw [tolds_next h1 h4, tolds_hit h2 h3] at h
    simp at h
  · exact h1
/-- The next line that is told. -/
theorem tolds_step {L : List Ln} {pl i : Nat} {R : List (Ln × Nat)} (h : tolds pl (L.drop pl) = R.drop i) (hi : i < R.length) :
    ∃ p, pl ≤ p ∧ p < L.length ∧ (L.getD p noLn).i ≠ 0 ∧ (∀ j, pl ≤ j → j < p → (L.getD j noLn).i = 0) ∧ R[i]? = some (L.getD p noLn, p) ∧ tolds (p + 1) (L.drop (p + 1)) = R.drop (i + 1) := by
  rcases next_or L pl with ⟨p, h1, h2, h3, h4⟩ | h1
  · rw [tolds_next h1 h4, tolds_hit h2 h3, List.drop_eq_getElem_cons hi] at h
    injection h with e1 e2
    exact ⟨p, h1, h2, h3, h4, by rw [List.getElem?_eq_getElem hi, e1], e2⟩
  · rw [tolds_all h1] at h
    have := congrArg List.length h
    rw [List.length_drop] at this
    simp at this
    omega
end Go.Proofs.YtaplmlldmhdhoaaGreatDoor
