/- The document's new volume: what is held while it is made. -/
import Derived.Test.YtoplbmbeadpilaaVcA
namespace Go.Proofs.Ytoplbmbeadpilaa
open Go.RowKit Go.Maps
set_option linter.unusedVariables false

def timeC (s ns : Int) : Array Value := #[.int .u32 s, .int .u32 ns]
/-- While a volume is made: the row so far, the two boxes. -/
structure MkI (w wr : World) (sb nb : Nat) (b i s ns : Int) (v : Value) (L : List Pt) : Prop where
  po : ∃ M, PO wr (New w) v M ∧ M.map Pw.pt = L
  sb : wr.heap[sb]? = some (.cells (supC b i) 87 (0, 0))
  nb : wr.heap[nb]? = some (.cells (timeC s ns) 28 (0, 0))
  bel : Below w.heap.size w wr
variable {w wr wr' : World} {sb nb : Nat} {b i s ns : Int} {v : Value} {L : List Pt}
theorem MkI.later (h : MkI w wr sb nb b i s ns v L) (hb : Below wr.heap.size wr wr') : MkI w wr' sb nb b i s ns v L :=
  ⟨let ⟨M, h1, h2⟩ := h.po; ⟨M, h1.later hb, h2⟩, (hb.block _ (Array.getElem?_eq_some_iff.1 h.sb).1).trans h.sb, (hb.block _ (Array.getElem?_eq_some_iff.1 h.nb).1).trans h.nb, h.bel.trans (hb.mono h.bel.size)⟩
theorem MkI.cells (h : MkI w wr sb nb b i s ns v L) : wr.cell? ⟨sb, 4, none⟩ = some (n64 68) ∧ wr.cell? ⟨sb, 5, none⟩ = some (n64 69) ∧ wr.cell? ⟨sb, 6, none⟩ = some (n64 (planT b)) ∧ wr.cell? ⟨sb, 7, none⟩ = some (n64 (planD b i)) :=
  ⟨cell_of h.sb rfl, cell_of h.sb rfl, cell_of h.sb rfl, cell_of h.sb rfl⟩
theorem MkI.slice (h : MkI w wr sb nb b i s ns v L) : ∃ a c, v = .slice a L.length c := by
  obtain ⟨M, h1, h2⟩ := h.po
  obtain ⟨a, c, e, _⟩ := h1.ps
  exact ⟨a, c, by rw [e, ← h2, List.length_map]⟩
theorem MkI.push (h : MkI w wr sb nb b i s ns v L) (blk : Int) (d : List Int) (a : Option Addr) (n c : Nat) (hn : d.length = n) (hp : By wr (New w) a d) (hc : n ≤ c) (hl : L.length ≤ 900000) :
    ∃ a' k c' w', (Builtin.append_ #[39, 39] 39 #[v, .slice (some ⟨wr.heap.size, 0, none⟩) 1 1]).run Try.prog (wr.alloc (.cells #[n64 blk, .slice a n c] 44)) = .ok (.slice a' k c') w' ∧ MkI w w' sb nb b i s ns (.slice a' k c') (L ++ [⟨blk, d⟩]) := by
  subst hn
  obtain ⟨W1, hW1⟩ : ∃ W1, W1 = wr.alloc (.cells #[n64 blk, .slice a d.length c] 44) := ⟨_, rfl⟩
  have hb1 : Below wr.heap.size wr W1 := by rw [hW1]; exact (Below.refl _ _).alloc (Nat.le_refl _) _
  have hh1 : W1.heap[wr.heap.size]? = some (.cells #[n64 blk, .slice a d.length c] 44 (0, 0)) := by rw [hW1]; exact alloc_new wr _
  have h1 := h.later hb1
  obtain ⟨M, hpo, hM⟩ := h1.po
  have hMl : M.length = L.length := by rw [← hM, List.length_map]
  obtain ⟨a', k, c', w', hap, _, hpo', hmo, hob⟩ := hpo.push ⟨blk, a, c, d⟩ (hp.later hb1) hc wr.heap.size 0 (cell_of hh1 rfl) (cell_of hh1 rfl) 1 (by rw [hMl]; omega) 39
  rw [← hW1]
  have hsz : w.heap.size ≤ W1.heap.size := h1.bel.size
  have hown : ∀ g, v.ownBlock = some g → w.heap.size ≤ g := fun g hg => hpo.2.1 g hg
  have hkind : ∀ g cs t, v.ownBlock = some g → W1.heap[g]? = some (.cells cs t (0, 0)) → t = 44 := fun g cs t hg hh => by
    obtain ⟨cur, hc⟩ := owns_kind hpo.1 hg
    rw [hc] at hh
    simp only [Option.some.injEq, Obj.cells.injEq] at hh
    exact hh.2.1.symm
  refine ⟨a', k, c', w', hap, ⟨M ++ [⟨blk, a, c, d⟩], hpo'.weak (fun g hg _ => ?_), by simp [hM, Pw.pt]⟩, ?_, ?_, ?_⟩
  · rcases hg with h2 | h2
    · exact h2
    · subst h2; exact hsz
  · exact (hmo.block _ (Array.getElem?_eq_some_iff.1 h1.sb).1 (fun e => by have := hkind _ _ _ e h1.sb; revert this; decide)).trans h1.sb
  · exact (hmo.block _ (Array.getElem?_eq_some_iff.1 h1.nb).1 (fun e => by have := hkind _ _ _ e h1.nb; revert this; decide)).trans h1.nb
  · exact hmo.to_below h1.bel h1.bel.size (fun g hg => hown g hg)
/-- The row with one block. -/
theorem PO.one (w wr : World) (hs : w.heap.size ≤ wr.heap.size) (blk : Int) (d : List Int) (a : Option Addr) (n c : Nat) (hn : d.length = n) (hp : By wr (New w) a d) (hc : n ≤ c) :
    PO (wr.alloc (.cells #[n64 blk, .slice a n c] 44)) (New w) (.slice (some ⟨wr.heap.size, 0, none⟩) 1 1) [⟨blk, a, c, d⟩] := by
  subst hn
  refine ⟨⟨by simp [cellsP], .inr ⟨wr.heap.size, 1, _, rfl, Nat.zero_le _, alloc_new wr _, Nat.le_refl _, by decide, by simp, by simp [cellsP]⟩⟩, fun g hg => ?_, fun p hp' => ?_⟩
  · simp [Value.ownBlock] at hg
    subst hg
    exact hs
  · simp only [List.mem_singleton] at hp'
    subst hp'
    exact ⟨hp.later ((Below.refl _ _).alloc (Nat.le_refl _) _), hc⟩
theorem BitR.congr {w : World} {g : Nat} {f f' : Nat → Bool} (h : BitR w g f) (e : ∀ j, j < 4096 → f j = f' j) : BitR w g f' := by
  unfold BitR at *
  rw [← bitB_congr e]
  exact h
theorem BitR.made (w : World) : BitR (w.alloc (.cells (madeCells #[.int .u8 0] 512) 5)) w.heap.size (fun _ => false) := by
  unfold BitR
  rw [alloc_new, bitB_none]
  congr 2
  apply Array.ext'
  rw [toList_madeCells_one]
  exact (List.map_replicate (f := fun x => Value.int .u8 x) (a := (0 : Int)) (n := 512)).symm
theorem BitR.keep {w w' : World} {g : Nat} {f : Nat → Bool} (h : BitR w g f) (hb : Below w.heap.size w w') : BitR w' g f := (hb.block _ (Array.getElem?_eq_some_iff.1 h).1).trans h
/-- One more bit of a row that is filled from the front. -/
theorem front_step (P : Nat → Bool) (k : Nat) (hP : P k = true) (j : Nat) : ((decide (j < k) && P j) || decide (j = k)) = (decide (j < k + 1) && P j) := by
  by_cases e : j = k
  · subst e; simp [hP]
  · have : (decide (j < k + 1)) = decide (j < k) := by simp; omega
    simp [e, this]
theorem front_skip (P : Nat → Bool) (k : Nat) (hP : P k = false) (j : Nat) : (decide (j < k) && P j) = (decide (j < k + 1) && P j) := by
  by_cases e : j = k
  · subst e; simp [hP]
  · have : (decide (j < k + 1)) = decide (j < k) := by simp; omega
    simp [this]
theorem any_snoc (P : Nat → Bool) (k : Nat) : (List.range (k + 1)).any P = ((List.range k).any P || P k) := by
  rw [List.range_succ, List.any_append]; simp
theorem bmRows_len (b d : Int) (r : Nat) : (bmRows b d r).length ≤ r := by
  induction r with
  | zero => exact Nat.le_refl _
  | succ r ih =>
    simp only [bmRows, List.length_append]
    split <;> simp <;> omega
theorem rep_isB (n : Nat) : ∀ x ∈ List.replicate n (0 : Int), IsB x := fun x hx => by rw [(List.mem_replicate.1 hx).2]; simp [IsB]
theorem timesL_isB (s ns : Int) (k : Nat) : ∀ x ∈ timesL s ns k, IsB x := by
  induction k with
  | zero => intro x hx; simp [timesL] at hx
  | succ k ih => exact app_isB (app_isB ih (bytesLe_isB _ _)) (bytesLe_isB _ _)
theorem rootA_isB : ∀ x ∈ rootA, IsB x :=
  app_isB (app_isB (app_isB (app_isB (app_isB (app_isB (app_isB (app_isB (app_isB (by simp [IsB]) (bytesLe_isB _ _)) (bytesLe_isB _ _)) (bytesLe_isB _ _)) (bytesLe_isB _ _)) (bytesLe_isB _ _)) (bytesLe_isB _ _)) (bytesLe_isB _ _)) (bytesLe_isB _ _)) (bytesLe_isB _ _)
theorem rootL_isB (d s ns : Int) : ∀ x ∈ rootL d s ns, IsB x := app_isB (app_isB (app_isB rootA_isB (timesL_isB _ _ _)) (bytesLe_isB _ _)) (rep_isB _)
theorem nodeL_isB (d s ns : Int) : ∀ x ∈ nodeL d s ns, IsB x := app_isB (app_isB (rep_isB _) (rootL_isB _ _ _)) (rep_isB _)
theorem nodeL_len (d s ns : Int) : (nodeL d s ns).length = 512 := by
  unfold nodeL
  rw [List.length_append, List.length_append, rootL_len, List.length_replicate, List.length_replicate]
theorem entL_isB (l : List Int) (h : ∀ x ∈ l, IsB x) (h1 : l.length < 256) : ∀ x ∈ entL l, IsB x :=
  app_isB (app_isB (app_isB (bytesLe_isB _ _) (by simp [IsB]; omega)) h) (rep_isB _)
theorem ent1 : (entL [46]).length = 32 ∧ (∀ x ∈ entL [46], IsB x) := ⟨entL_len _ (by decide), entL_isB _ (by simp [IsB]) (by decide)⟩
theorem ent2 : (entL [46, 46]).length = 32 ∧ (∀ x ∈ entL [46, 46], IsB x) := ⟨entL_len _ (by decide), entL_isB _ (by simp [IsB]) (by decide)⟩
theorem linesL_isB : ∀ x ∈ linesL, IsB x := app_isB (app_isB ent1.2 ent2.2) (rep_isB _)
theorem linesL_len : linesL.length = 512 := by
  unfold linesL
  rw [List.length_append, List.length_append, ent1.1, ent2.1, List.length_replicate]
theorem nop_append {P : Program} {o : Oper} {a : Act} {w : World} (s x : Operand) (t u : TypeId) (ho : o.op = .call { callee := .builtin .append, args := #[s, x], argTypes := #[t, u] }) {v y v' : Value} {w' : World} (hs : a.eval s = v) (hx : a.eval x = y)
    (hrun : (Builtin.append_ #[t, u] o.type #[v, y]).run P w = .ok v' w') : (execOp a.eval o).run P w = .ok (.value v') w' := by
  unfold execOp
  simp only [ho, resolve, invoke, builtin, Sem.run_bind, Sem.run_pure, Result.andThen_ok, List.map_toArray, List.map_cons, List.map_nil, hs, hx, hrun]
end Go.Proofs.Ytoplbmbeadpilaa
