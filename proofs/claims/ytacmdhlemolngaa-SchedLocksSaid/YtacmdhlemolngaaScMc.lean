/- SchedLocks: what the law holds of its own: the sharers, who is inside, the order. -/
import Derived.Test.YtacmdhlemolngaaScMb
namespace Go.Proofs.Ytacmdhlemolngaa

def sv (s : Nat) : Nat := if s = 3 then 0 else s
def shC (x : Sh) (bi bb bo : Nat) : Array Value := #[.int .i64 (x.t : Nat), .int .i64 (x.w : Nat), .int .i64 (x.n : Nat), .int .i64 (sv x.s : Nat), .pointer (some ⟨bi, 0, none⟩), .pointer (some ⟨bb, 0, none⟩), .pointer (some ⟨bo, 0, none⟩)]
structure Lw (w0 w : World) (lab : Nat → Own) (N : Nat) (cs : Nat → Nat) (sh : Nat → Sh) (bi bb bo : Nat) (vi vo : Value) (ins ord : List Int) : Prop where
  cell : ∀ i, i < N → w.heap[cs i]? = some (.cells (shC (sh i) bi bb bo) 72 (0, 0)) ∧ lab (cs i) = .no ∧ w0.heap.size ≤ cs i
  inj : ∀ i j, i < N → j < N → cs i = cs j → i = j
  hi : w.heap[bi]? = some (.cells #[vi] 31 (0, 0))
  hb : w.heap[bb]? = some (.cells #[.bool false] 4 (0, 0))
  ho : w.heap[bo]? = some (.cells #[vo] 31 (0, 0))
  own : ∀ b, b = bi ∨ b = bb ∨ b = bo → lab b = .no ∧ w0.heap.size ≤ b ∧ ∀ i, i < N → cs i ≠ b
  ne : bi ≠ bb ∧ bi ≠ bo ∧ bb ≠ bo
  ri : Lr w0 w lab vi ins
  ro : Lr w0 w lab vo ord
  rn : ∀ g, vi.ownBlock = some g ∨ vo.ownBlock = some g → g ≠ bi ∧ g ≠ bb ∧ g ≠ bo ∧ ∀ i, i < N → g ≠ cs i
  rr : ∀ g, vi.ownBlock = some g → vo.ownBlock ≠ some g
  low : Lb w0 w lab
section
variable {w0 w w' : World} {lab lab' : Nat → Own} {N : Nat} {cs : Nat → Nat} {sh : Nat → Sh} {bi bb bo : Nat} {vi vo : Value} {ins ord : List Int}
theorem blt {w : World} {b : Nat} {o : Obj} (h : w.heap[b]? = some o) : b < w.heap.size := (Array.getElem?_eq_some_iff.1 h).1
theorem Lw.keep (h : Lw w0 w lab N cs sh bi bb bo vi vo ins ord) (hk : Keep lab w lab' w') : Lw w0 w' lab' N cs sh bi bb bo vi vo ins ord := by
  have f : ∀ {b : Nat} {o : Obj}, w.heap[b]? = some o → lab b = .no → w'.heap[b]? = some o := fun h1 h2 => (hk.block (blt h1) h2).trans h1
  refine ⟨fun i hi => ?_, h.inj, f h.hi (h.own _ (.inl rfl)).1, f h.hb (h.own _ (.inr (.inl rfl))).1, f h.ho (h.own _ (.inr (.inr rfl))).1, fun b hb => ?_, h.ne, h.ri.keep hk, h.ro.keep hk, h.rn, h.rr, h.low.keep hk⟩
  · obtain ⟨h1, h2, h3⟩ := h.cell i hi
    exact ⟨f h1 h2, hk.lab (blt h1) h2, h3⟩
  · obtain ⟨h1, h2⟩ := h.own b hb
    have hl : b < w.heap.size := by
      rcases hb with e | e | e
      · rw [e]; exact blt h.hi
      · rw [e]; exact blt h.hb
      · rw [e]; exact blt h.ho
    exact ⟨hk.lab hl h1, h2⟩
/-- A sharer's cell is set. -/
theorem Lw.set (h : Lw w0 w lab N cs sh bi bb bo vi vo ins ord) {x : Nat} (hx : x < N) (k : Nat) (v : Value) (y : Sh) (hy : (shC (sh x) bi bb bo).setIfInBounds k v = shC y bi bb bo) :
    Lw w0 (w.setCell ⟨cs x, k, none⟩ v) lab N cs (updN sh x y) bi bb bo vi vo ins ord ∧ Mods (fun b => b = cs x) w (w.setCell ⟨cs x, k, none⟩ v) := by
  have hm : Mods (fun b => b = cs x) w (w.setCell ⟨cs x, k, none⟩ v) := (Mods.refl _ _).setCell _ _ _ rfl
  obtain ⟨h1, h2, h3⟩ := h.cell x hx
  have ob : ∀ b, b = bi ∨ b = bb ∨ b = bo → ¬ b = cs x := fun b hb e => (h.own b hb).2.2 x hx e.symm
  refine ⟨⟨fun i hi => ?_, h.inj, ?_, ?_, ?_, h.own, h.ne, h.ri.mods hm (fun g hg e => (h.rn g (.inl hg)).2.2.2 x hx e), h.ro.mods hm (fun g hg e => (h.rn g (.inr hg)).2.2.2 x hx e), h.rn, h.rr, h.low.mods hm (fun b e => by rw [e]; exact h3)⟩, hm⟩
  · obtain ⟨k1, k2, k3⟩ := h.cell i hi
    refine ⟨?_, k2, k3⟩
    by_cases e : i = x
    · subst e
      rw [updN_same, setc h1 k v, hy]
    · rw [updN_other sh _ e]
      exact (hm.block _ (blt k1) (fun e2 => e (h.inj i x hi hx e2))).trans k1
  · exact (hm.block _ (blt h.hi) (ob _ (.inl rfl))).trans h.hi
  · exact (hm.block _ (blt h.hb) (ob _ (.inr (.inl rfl)))).trans h.hb
  · exact (hm.block _ (blt h.ho) (ob _ (.inr (.inr rfl)))).trans h.ho
/-- The order goes on. -/
theorem Lw.pushO (h : Lw w0 w lab N cs sh bi bb bo vi vo ins ord) {v' : Value} {x : Int} (hr : Lr w0 w' lab v' (ord ++ [x])) (hm : Mods (fun b => vo.ownBlock = some b) w w') (hv : ∀ g, v'.ownBlock = some g → vo.ownBlock = some g ∨ w.heap.size < g) :
    Lw w0 (w'.setCell ⟨bo, 0, none⟩ v') lab N cs sh bi bb bo vi v' ins (ord ++ [x]) ∧ Mods (fun b => b = bo ∨ vo.ownBlock = some b) w (w'.setCell ⟨bo, 0, none⟩ v') := by
  have hms : Mods (fun b => b = bo) w' (w'.setCell ⟨bo, 0, none⟩ v') := (Mods.refl _ _).setCell _ _ _ rfl
  have hm2 : Mods (fun b => b = bo ∨ vo.ownBlock = some b) w (w'.setCell ⟨bo, 0, none⟩ v') := (hm.weak (fun b e => .inl (.inr e))).tr (hms.weak (fun b e => .inl (.inl e)))
  have nb : ∀ b, b = bi ∨ b = bb ∨ b = bo → vo.ownBlock ≠ some b := fun b hb e => by
    obtain ⟨r1, r2, r3, _⟩ := h.rn b (.inr e)
    rcases hb with e | e | e
    · exact r1 e
    · exact r2 e
    · exact r3 e
  have nc : ∀ i, i < N → vo.ownBlock ≠ some (cs i) := fun i hi e => (h.rn _ (.inr e)).2.2.2 i hi rfl
  have hlt : ∀ g, g = bi ∨ g = bb ∨ g = bo → g < w.heap.size := fun g hg => by
    rcases hg with e | e | e
    · rw [e]; exact blt h.hi
    · rw [e]; exact blt h.hb
    · rw [e]; exact blt h.ho
  have hvn : ∀ g, v'.ownBlock = some g → g ≠ bi ∧ g ≠ bb ∧ g ≠ bo ∧ ∀ i, i < N → g ≠ cs i := fun g hg => by
    rcases hv g hg with e | e
    · exact h.rn g (.inr e)
    · refine ⟨fun e2 => ?_, fun e2 => ?_, fun e2 => ?_, fun i hi e2 => ?_⟩
      · have := hlt g (.inl e2); omega
      · have := hlt g (.inr (.inl e2)); omega
      · have := hlt g (.inr (.inr e2)); omega
      · have := blt (h.cell i hi).1; omega
  refine ⟨⟨fun i hi => ?_, h.inj, ?_, ?_, ?_, h.own, h.ne, ?_, hr.mods hms (fun g hg e => (hvn g hg).2.2.1 e), fun g hg => ?_, fun g hg e => ?_, h.low.mods hm2 (fun b e => ?_)⟩, hm2⟩
  · obtain ⟨k1, k2, k3⟩ := h.cell i hi
    exact ⟨(hm2.block _ (blt k1) (fun e => e.elim (fun e => (h.own bo (.inr (.inr rfl))).2.2 i hi e) (nc i hi))).trans k1, k2, k3⟩
  · exact (hm2.block _ (blt h.hi) (fun e => e.elim h.ne.2.1 (nb bi (.inl rfl)))).trans h.hi
  · exact (hm2.block _ (blt h.hb) (fun e => e.elim h.ne.2.2 (nb bb (.inr (.inl rfl))))).trans h.hb
  · have e1 : w'.heap[bo]? = some (.cells #[vo] 31 (0, 0)) := (hm.block _ (blt h.ho) (nb bo (.inr (.inr rfl)))).trans h.ho
    rw [setc e1 0 v']; rfl
  · exact h.ri.mods hm2 (fun g hg e => e.elim (h.rn g (.inl hg)).2.2.1 (h.rr g hg))
  · exact hg.elim (fun e => h.rn g (.inl e)) (hvn g)
  · rcases hv g e with e2 | e2
    · exact h.rr g hg e2
    · have := (owns_lt h.ri.1 hg).1; omega
  · rcases e with e | e
    · rw [e]; exact (h.own bo (.inr (.inr rfl))).2.1
    · exact (h.ro.2 b e).2
/-- One comes in. -/
theorem Lw.pushI (h : Lw w0 w lab N cs sh bi bb bo vi vo ins ord) {v' : Value} {l : List Int} (hr : Lr w0 w' lab v' l) (hm : Mods (fun b => vi.ownBlock = some b) w w') (hv : ∀ g, v'.ownBlock = some g → vi.ownBlock = some g ∨ w.heap.size < g) :
    Lw w0 (w'.setCell ⟨bi, 0, none⟩ v') lab N cs sh bi bb bo v' vo l ord ∧ Mods (fun b => b = bi ∨ vi.ownBlock = some b) w (w'.setCell ⟨bi, 0, none⟩ v') := by
  have hms : Mods (fun b => b = bi) w' (w'.setCell ⟨bi, 0, none⟩ v') := (Mods.refl _ _).setCell _ _ _ rfl
  have hm2 : Mods (fun b => b = bi ∨ vi.ownBlock = some b) w (w'.setCell ⟨bi, 0, none⟩ v') := (hm.weak (fun b e => .inl (.inr e))).tr (hms.weak (fun b e => .inl (.inl e)))
  have nb : ∀ b, b = bi ∨ b = bb ∨ b = bo → vi.ownBlock ≠ some b := fun b hb e => by
    obtain ⟨r1, r2, r3, _⟩ := h.rn b (.inl e)
    rcases hb with e | e | e
    · exact r1 e
    · exact r2 e
    · exact r3 e
  have nc : ∀ i, i < N → vi.ownBlock ≠ some (cs i) := fun i hi e => (h.rn _ (.inl e)).2.2.2 i hi rfl
  have hlt : ∀ g, g = bi ∨ g = bb ∨ g = bo → g < w.heap.size := fun g hg => by
    rcases hg with e | e | e
    · rw [e]; exact blt h.hi
    · rw [e]; exact blt h.hb
    · rw [e]; exact blt h.ho
  have hvn : ∀ g, v'.ownBlock = some g → g ≠ bi ∧ g ≠ bb ∧ g ≠ bo ∧ ∀ i, i < N → g ≠ cs i := fun g hg => by
    rcases hv g hg with e | e
    · exact h.rn g (.inl e)
    · refine ⟨fun e2 => ?_, fun e2 => ?_, fun e2 => ?_, fun i hi e2 => ?_⟩
      · have := hlt g (.inl e2); omega
      · have := hlt g (.inr (.inl e2)); omega
      · have := hlt g (.inr (.inr e2)); omega
      · have := blt (h.cell i hi).1; omega
  refine ⟨⟨fun i hi => ?_, h.inj, ?_, ?_, ?_, h.own, h.ne, hr.mods hms (fun g hg e => (hvn g hg).1 e), ?_, fun g hg => ?_, fun g hg e => ?_, h.low.mods hm2 (fun b e => ?_)⟩, hm2⟩
  · obtain ⟨k1, k2, k3⟩ := h.cell i hi
    exact ⟨(hm2.block _ (blt k1) (fun e => e.elim (fun e => (h.own bi (.inl rfl)).2.2 i hi e) (nc i hi))).trans k1, k2, k3⟩
  · have e1 : w'.heap[bi]? = some (.cells #[vi] 31 (0, 0)) := (hm.block _ (blt h.hi) (nb bi (.inl rfl))).trans h.hi
    rw [setc e1 0 v']; rfl
  · exact (hm2.block _ (blt h.hb) (fun e => e.elim (fun e => h.ne.1 e.symm) (nb bb (.inr (.inl rfl))))).trans h.hb
  · exact (hm2.block _ (blt h.ho) (fun e => e.elim (fun e => h.ne.2.1 e.symm) (nb bo (.inr (.inr rfl))))).trans h.ho
  · exact h.ro.mods hm2 (fun g hg e => e.elim (h.rn g (.inr hg)).1 (fun e => h.rr g e hg))
  · exact hg.elim (hvn g) (fun e => h.rn g (.inr e))
  · rcases hv g hg with e2 | e2
    · exact h.rr g e2 e
    · have := (owns_lt h.ro.1 e).1; omega
  · rcases e with e | e
    · rw [e]; exact (h.own bi (.inl rfl)).2.1
    · exact (h.ri.2 b e).2
end
end Go.Proofs.Ytacmdhlemolngaa
