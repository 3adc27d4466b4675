/- JeN, JeM, JeO, JeP, JeQ in one text. -/
import Derived.Test.YtaplmlldmhdhoaaGreatDoorJeG
/- List: the one who is shown lines and keeps those that are not free. -/
namespace Go.Proofs.YtaplmlldmhdhoaaGreatDoor
open Go.RowKit Go.Maps
set_option linter.unusedVariables false
/-- Lines that are not free, with their places. -/
def tolds (lo : Nat) (ls : List Ln) : List (Ln × Nat) := (ls.zipIdx lo).filter (fun q => q.1.i != 0)
theorem tolds_nil (lo : Nat) : tolds lo [] = [] := rfl
theorem tolds_free (lo : Nat) (ls : List Ln) (x : Ln) (hx : x.i = 0) : tolds lo (ls ++ [x]) = tolds lo ls := by
  unfold tolds
  rw [List.zipIdx_append, List.filter_append]
  simp [hx]
theorem tolds_taken (lo : Nat) (ls : List Ln) (x : Ln) (hx : x.i ≠ 0) : tolds lo (ls ++ [x]) = tolds lo ls ++ [(x, lo + ls.length)] := by
  unfold tolds
  rw [List.zipIdx_append, List.filter_append]
  simp [hx]
def cellsLn (M : List (Ln × Nat)) : List Value := M.flatMap fun q => [n64 q.2, n64 q.1.i, .string (strOfNums q.1.nm)]
theorem cellsLn_len (M : List (Ln × Nat)) : (cellsLn M).length = M.length * 3 := by
  induction M with
  | nil => rfl
  | cons a l ih => unfold cellsLn at *; simp only [List.flatMap_cons, List.length_append, ih, List.length_cons, List.length_nil]; omega
theorem cellsLn_app (M M' : List (Ln × Nat)) : cellsLn (M ++ M') = cellsLn M ++ cellsLn M' := by unfold cellsLn; exact List.flatMap_append
theorem cellsLn_one (M : List (Ln × Nat)) : ∀ u ∈ cellsLn M, u.oneCell' = true := by
  intro u hu
  unfold cellsLn at hu
  obtain ⟨q, _, h⟩ := List.mem_flatMap.1 hu
  simp only [List.mem_cons, List.not_mem_nil, or_false] at h
  rcases h with rfl | rfl | rfl <;> rfl
theorem infoLine : ∃ i, Tryz.prog.info? 42 = some i ∧ i.zero = some (.agg #[.int .i64 0, .int .i64 0, .string ⟨#[]⟩]) ∧ i.size = 3 ∧ i.bytes = 32 := by
  have : (Tryz.prog.info? 42).map (fun i => (i.zero, i.size, i.bytes)) = some (some (.agg #[.int .i64 0, .int .i64 0, .string ⟨#[]⟩]), 3, 32) := by kernel_rfl
  cases h : Tryz.prog.info? 42 with
  | none => rw [h] at this; cases this
  | some i => rw [h] at this; simp at this; exact ⟨i, rfl, this.1, this.2.1, this.2.2⟩
/-- 'append' of a line to a row. -/
theorem lines_push {w : World} {v : Value} {M : List (Ln × Nat)} (h : w.ownsRow 0 42 3 v M.length (cellsLn M)) (x : Ln) (p cb : Nat) (c1 : w.heap[cb]? = some (.cells #[n64 p, n64 x.i, .string (strOfNums x.nm)] 42 (0, 0))) (cc : Nat) (hl : M.length ≤ 1000) (ty : TypeId) :
    ∃ a c w', (Builtin.append_ #[48, 48] ty #[v, .slice (some ⟨cb, 0, none⟩) 1 cc]).run Tryz.prog w = .ok (.slice a (M.length + 1) c) w' ∧ w'.ownsRow 0 42 3 (.slice a (M.length + 1) c) (M.length + 1) (cellsLn (M ++ [(x, p)])) ∧ Mods (fun b => v.ownBlock = some b) w w' ∧ ((Value.slice a (M.length + 1) c).ownBlock = v.ownBlock ∨ (Value.slice a (M.length + 1) c).ownBlock = some w.heap.size) := by
  obtain ⟨i0, hi, hz0, hz1, hz2⟩ := infoLine
  obtain ⟨v', w', hr, k1, k2, _, k4⟩ := run_append_own_at (P := Tryz.prog) (w := w) 0 48 ty 42 i0 _ 3 32 Tryz.underlying48 hi hz0 hz1 hz2 rfl (by decide) v M.length (cellsLn M) h ⟨cb, 0, none⟩ 1 cc (cellsLn [(x, p)]) (by rw [cellsLn_len]; rfl) (fun j u hj => by
    rw [add_addr, Nat.zero_add]
    have e : u = (#[n64 p, n64 x.i, .string (strOfNums x.nm)] : Array Value).getD j undef ∧ j < 3 := by
      have hj2 : j < 3 := by have := (List.getElem?_eq_some_iff.1 hj).1; rw [cellsLn_len] at this; simpa using this
      rcases (show j = 0 ∨ j = 1 ∨ j = 2 by omega) with rfl | rfl | rfl <;> simp [cellsLn] at hj ⊢ <;> exact hj.symm
    obtain ⟨rfl, h3⟩ := e
    rcases (show j = 0 ∨ j = 1 ∨ j = 2 by omega) with rfl | rfl | rfl <;> exact cell_of c1 rfl) (cellsLn_one _) (by unfold maxLen; omega) (by omega) (Nat.zero_le _)
  obtain ⟨a, c, rfl⟩ := owns_slice k1
  exact ⟨a, c, w', hr, by rw [cellsLn_app]; exact k1, Mods.of_grown k2, k4⟩
/-- What it holds by then. -/
structure LsC (og : Option Obj) (W : World) (pe : Addr) (ob mb m lo : Nat) (v : Value) (ls : List Ln) : Prop where
  en : En0 W pe
  g : W.heap[0]? = og
  m : W.heap[mb]? = some (.cells #[n64 m] 3 (0, 0))
  o : W.heap[ob]? = some (.cells #[v] 48 (0, 0))
  row : W.ownsRow 0 42 3 v (tolds lo ls).length (cellsLn (tolds lo ls))
  off : ∀ b, v.ownBlock = some b → b ≠ 0 ∧ b ≠ mb ∧ b ≠ ob
def LsZ (ob mb : Nat) (v : Value) : Nat → Prop := fun g => g = 0 ∨ g = mb ∨ g = ob ∨ v.ownBlock = some g
theorem LsC.keep {og : Option Obj} {W W' : World} {pe : Addr} {ob mb m lo : Nat} {v : Value} {ls : List Ln} (h : LsC og W pe ob mb m lo v ls) (hk : ∀ g, LsZ ob mb v g → W'.heap[g]? = W.heap[g]?) : LsC og W' pe ob mb m lo v ls :=
  ⟨h.en.keep (hk _ (.inl rfl)), (hk _ (.inl rfl)).trans h.g, (hk _ (.inr (.inl rfl))).trans h.m, (hk _ (.inr (.inr (.inl rfl)))).trans h.o, owns_keep h.row (fun g hg => hk g (.inr (.inr (.inr hg)))), h.off⟩
theorem LsC.lt {og : Option Obj} {W : World} {pe : Addr} {ob mb m lo : Nat} {v : Value} {ls : List Ln} (h : LsC og W pe ob mb m lo v ls) {g : Nat} (hg : LsZ ob mb v g) : ∃ cs t f, W.heap[g]? = some (.cells cs t f) := by
  obtain ⟨cs, t, f, e1, _⟩ := h.en
  rcases hg with rfl | rfl | rfl | hg
  · exact ⟨_, _, _, e1⟩
  · exact ⟨_, _, _, h.m⟩
  · exact ⟨_, _, _, h.o⟩
  · obtain ⟨cur, e⟩ := owns_kind h.row hg
    exact ⟨_, _, _, e⟩
set_option maxRecDepth 100000 in
set_option maxHeartbeats 2000000 in
theorem List1_any {og : Option Obj} (W : World) {pe : Addr} {ob mb m lo : Nat} {v : Value} {ls : List Ln} (h : LsC og W pe ob mb m lo v ls) (hap : 0 ≠ mb ∧ 0 ≠ ob ∧ mb ≠ ob) (hlt : (tolds lo ls).length < m) (hm : m < 4611686018427387904) (x : Ln) (hx : LnOk x) (hl : lo + ls.length < 97) :
    Calls Tryz.prog 27 #[lnV (lo + ls.length) x, ptrV ob, ptrV mb] W fun e W' => ∃ v', LsC og W' pe ob mb m lo v' (ls ++ [x]) ∧ (∀ g, LsZ ob mb v' g → LsZ ob mb v g ∨ W.heap.size ≤ g) ∧ Mods (LsZ ob mb v) W W' ∧ ((e = .returned .nilIface ∧ (tolds lo (ls ++ [x])).length < m) ∨ (e = .returned (enoughV pe) ∧ (tolds lo (ls ++ [x])).length = m)) := by
  unfold lnV
  have htl : (tolds lo ls).length ≤ ls.length := by unfold tolds; exact Nat.le_trans (List.length_filter_le _ _) (by simp)
  obtain ⟨p, hp⟩ : ∃ p, p = lo + ls.length := ⟨_, rfl⟩
  rw [← hp]
  obtain ⟨q, hq⟩ : ∃ q, W.heap.size = q := ⟨_, rfl⟩
  obtain ⟨W1, hW1⟩ : ∃ V, V = W.alloc (.cells #[n64 p, n64 x.i, .string (strOfNums x.nm)] 42) := ⟨_, rfl⟩
  have h1 : W1.heap[q]? = some (.cells #[n64 p, n64 x.i, .string (strOfNums x.nm)] 42 (0, 0)) := by rw [hW1, ← hq]; exact alloc_new W _
  have b1 : Below W.heap.size W W1 := by rw [hW1]; exact (Below.refl _ _).alloc (Nat.le_refl _) _
  obtain ⟨k, hk⟩ : ∃ k, (tolds lo ls).length = k := ⟨_, rfl⟩
  obtain ⟨a, c, hv⟩ := owns_slice h.row
  rw [hk] at hv
  have hZlt : ∀ g, LsZ ob mb v g → g < W.heap.size := fun g hg => let ⟨_, _, _, e⟩ := h.lt hg; (Array.getElem?_eq_some_iff.1 e).1
  subst hv
  have HZL := hid hZlt
  have HH1 := hid h1
  have HB1 := hid b1
  have HH := hid h
  have HAP := hid hap
  have HP := hid hp
  have HK := hid hk
  have HLT : Hid (k < m) := hid (by omega)
  have HQ := hid hq
  have HTL : Hid (k < 97) := hid (by omega)
  by_cases hi : x.i = 0
  · have HF := isFree_yes W1 (n64 p) (strOfNums x.nm)
    replace HF := hid HF
    have HHI := hid hi
    rw [hi] at hW1 h1
    have HH1' := hid h1
    rw [hi]
    have hne : ((k : Int) == m) = false := by rw [beq_eq_false_iff_ne]; omega
    clear h hap b1 h1 hi hp hk hZlt htl hlt hx hl
    go_enter Tryz.func27, Tryz.ntmps27
    go_wp2_with (first | (rw [← hW1]; clear hW1) | (rw [hq]; clear hq) | (refine wpList_load_row rfl 42 _ rfl q rfl 42 _ (0, 0) _ HH1'.out Tryz.underlying42 rfl sizeLn ?_))
    refine HF.out.mono ?_
    rintro e w2 ⟨rfl, hb2⟩
    have hb02 := HB1.out.trans (hb2.mono HB1.out.size)
    have hC2 : LsC og w2 pe ob mb m lo (.slice a k c) ls := HH.out.keep (fun g hg => hb02.block g (HZL.out g hg))
    have y0 : w2.cell? ⟨ob, 0, none⟩ = some (.slice a k c) := cell_of hC2.o rfl
    have y1 : w2.cell? ⟨mb, 0, none⟩ = some (n64 m) := cell_of hC2.m rfl
    have HB2 := hid hb02
    have HC2 := hid hC2
    clear hb2 hb02 hC2 HF
    go_wp2
    go_ret
    exact ⟨_, ⟨HC2.out.en, HC2.out.g, HC2.out.m, HC2.out.o, by rw [tolds_free lo ls x HHI.out]; exact HC2.out.row, HC2.out.off⟩, fun g hg => .inl hg, Mods.of_below HB2.out, .inl ⟨rfl, by rw [tolds_free lo ls x HHI.out, HK.out]; exact HLT.out⟩⟩
  · have HF := isFree_no W1 (n64 p) x.i (strOfNums x.nm) hi
    replace HF := hid HF
    have HHI := hid hi
    clear h hap b1 h1 hi hp hk hZlt htl hlt hx hl
    go_enter Tryz.func27, Tryz.ntmps27
    go_wp2_with (first | (rw [← hW1]; clear hW1) | (rw [hq]; clear hq) | (refine wpList_load_row rfl 42 _ rfl q rfl 42 _ (0, 0) _ HH1.out Tryz.underlying42 rfl sizeLn ?_))
    refine HF.out.mono ?_
    rintro e w2 ⟨rfl, hb2⟩
    have hb02 := HB1.out.trans (hb2.mono HB1.out.size)
    have q2 := (hb2.block q (Array.getElem?_eq_some_iff.1 HH1.out).1).trans HH1.out
    have hC2 : LsC og w2 pe ob mb m lo (.slice a k c) ls := HH.out.keep (fun g hg => hb02.block g (HZL.out g hg))
    have y0 : w2.cell? ⟨ob, 0, none⟩ = some (.slice a k c) := cell_of hC2.o rfl
    obtain ⟨d, hd⟩ : ∃ d, w2.heap.size = d := ⟨_, rfl⟩
    obtain ⟨w3, hw3⟩ : ∃ V, V = w2.alloc (.cells #[n64 p, n64 x.i, .string (strOfNums x.nm)] 42) := ⟨_, rfl⟩
    have d3 : w3.heap[d]? = some (.cells #[n64 p, n64 x.i, .string (strOfNums x.nm)] 42 (0, 0)) := by rw [hw3, ← hd]; exact alloc_new w2 _
    have b3 : Below w2.heap.size w2 w3 := by rw [hw3]; exact (Below.refl _ _).alloc (Nat.le_refl _) _
    have hb03 : Below W.heap.size W w3 := hb02.trans (b3.mono hb02.size)
    have hC3 : LsC og w3 pe ob mb m lo (.slice a k c) ls := HH.out.keep (fun g hg => hb03.block g (HZL.out g hg))
    obtain ⟨a', c', w4, hap4, ho4, hm4, hob4⟩ := lines_push hC3.row x p d d3 1 (by rw [HK.out]; have := HTL.out; omega) 48
    rw [HK.out] at hap4 ho4 hob4
    obtain ⟨K1, hK1⟩ : ∃ K, k + 1 = K := ⟨_, rfl⟩
    rw [hK1] at hap4 ho4 hob4
    obtain ⟨n1, n2, n3⟩ := HAP.out
    have hk4 : ∀ g, g = 0 ∨ g = mb ∨ g = ob → w4.heap[g]? = w3.heap[g]? := fun g hg => hm4.block g (Nat.lt_of_lt_of_le (HZL.out g (by rcases hg with h | h | h; exact .inl h; exact .inr (.inl h); exact .inr (.inr (.inl h)))) hb03.size) (fun e => by
      obtain ⟨e1, e2, e3⟩ := HH.out.off g e
      rcases hg with h | h | h
      · exact e1 h
      · exact e2 h
      · exact e3 h)
    have f4 : w4.heap[ob]? = some (.cells #[.slice a k c] 48 (0, 0)) := (hk4 ob (.inr (.inr rfl))).trans hC3.o
    have z4 : w4.frozen? ⟨ob, 0, none⟩ = false := froz_of f4 0
    have c4 : w4.cell? ⟨ob, 0, none⟩ = some (.slice a k c) := cell_of f4 rfl
    obtain ⟨w5, hw5⟩ : ∃ V, V = w4.setCell ⟨ob, 0, none⟩ (.slice a' K1 c') := ⟨_, rfl⟩
    have f5 : w5.heap[ob]? = some (.cells #[.slice a' K1 c'] 48 (0, 0)) := by rw [hw5]; exact setc f4 0 _
    have hne5 : ∀ g, g ≠ ob → w5.heap[g]? = w4.heap[g]? := fun g h => by rw [hw5]; exact Below.heap_setCell _ _ _ _ (fun e => h e)
    have m5 : w5.heap[mb]? = some (.cells #[n64 m] 3 (0, 0)) := ((hne5 mb n3).trans (hk4 mb (.inr (.inl rfl)))).trans hC3.m
    have g5 : w5.heap[0]? = w3.heap[0]? := (hne5 _ n2).trans (hk4 _ (.inl rfl))
    have en5 : En0 w5 pe := hC3.en.keep g5
    have hown : ∀ b, (Value.slice a' K1 c').ownBlock = some b → (Value.slice a k c).ownBlock = some b ∨ b = w3.heap.size := fun b hb => by
      rcases hob4 with e | e
      · exact .inl (e ▸ hb)
      · rw [e] at hb; exact .inr (Option.some.inj hb).symm
    have hoff5 : ∀ b, (Value.slice a' K1 c').ownBlock = some b → b ≠ 0 ∧ b ≠ mb ∧ b ≠ ob := fun b hb => by
      rcases hown b hb with h | h
      · exact HH.out.off b h
      · have z1 := HZL.out 0 (.inl rfl)
        have z2 := HZL.out mb (.inr (.inl rfl))
        have z3 := HZL.out ob (.inr (.inr (.inl rfl)))
        have := hb03.size
        exact ⟨by omega, by omega, by omega⟩
    have hrow5 : w5.ownsRow 0 42 3 (.slice a' K1 c') (tolds lo (ls ++ [x])).length (cellsLn (tolds lo (ls ++ [x]))) := by
      rw [tolds_taken lo ls x HHI.out, List.length_append, HK.out, ← HP.out]
      show w5.ownsRow 0 42 3 (.slice a' K1 c') (k + 1) _
      rw [hK1]
      exact owns_keep ho4 (fun g hg => hne5 g (hoff5 g hg).2.2)
    have hM5 : Mods (LsZ ob mb (.slice a k c)) W w5 := by
      have hh : Mods (LsZ ob mb (.slice a k c)) W w4 := (Mods.of_below hb03).tr (hm4.weak (fun g hg => .inl (.inr (.inr (.inr hg)))))
      rw [hw5]
      exact hh.setCell ob 0 _ (.inr (.inr (.inl rfl)))
    have hC5 : LsC og w5 pe ob mb m lo (.slice a' K1 c') (ls ++ [x]) := ⟨en5, g5.trans hC3.g, m5, f5, hrow5, hoff5⟩
    have hz5 : ∀ g, LsZ ob mb (.slice a' K1 c') g → LsZ ob mb (.slice a k c) g ∨ W.heap.size ≤ g := fun g hg => by
      rcases hg with h | h | h | h
      · exact .inl (.inl h)
      · exact .inl (.inr (.inl h))
      · exact .inl (.inr (.inr (.inl h)))
      · rcases hown g h with e | e
        · exact .inl (.inr (.inr (.inr e)))
        · exact .inr (by rw [e]; exact hb03.size)
    have HN : Hid ((tolds lo (ls ++ [x])).length = K1) := hid (by rw [tolds_taken lo ls x HHI.out, List.length_append, HK.out]; exact hK1)
    have y5 : w5.cell? ⟨ob, 0, none⟩ = some (.slice a' K1 c') := cell_of f5 rfl
    have ym : w5.cell? ⟨mb, 0, none⟩ = some (n64 m) := cell_of m5 rfl
    have x0 := en5.cell
    have HQ2 := hid q2
    have HAP4 := hid hap4
    have HALL := hid (And.intro hC5 (And.intro hz5 hM5))
    have HLE : Hid (K1 ≤ m) := hid (by have := HLT.out; omega)
    clear hb2 hb02 q2 hC2 d3 b3 hb03 hC3 hap4 ho4 hm4 hob4 hK1 n1 n2 n3 hk4 f4 f5 hne5 m5 g5 en5 hown hoff5 hrow5 hM5 hC5 hz5 HF
    by_cases he : K1 = m
    · have hne : ((K1 : Int) == m) = true := by rw [beq_iff_eq]; omega
      have HE := hid he
      clear he
      go_wp2_with (first | (rw [← hw3]; clear hw3) | (rw [hd]; clear hd) | (rw [← hw5]; clear hw5) | (refine wpList_load_row rfl 42 _ rfl q rfl 42 _ (0, 0) _ HQ2.out Tryz.underlying42 rfl sizeLn ?_) | (at_builtin; refine wpList_append_run rfl _ _ 48 rfl rfl rfl HAP4.out ?_))
      go_ret
      exact ⟨_, HALL.out.1, HALL.out.2.1, HALL.out.2.2, .inr ⟨rfl, HN.out.trans HE.out⟩⟩
    · have hne : ((K1 : Int) == m) = false := by rw [beq_eq_false_iff_ne]; omega
      have HE := hid he
      clear he
      go_wp2_with (first | (rw [← hw3]; clear hw3) | (rw [hd]; clear hd) | (rw [← hw5]; clear hw5) | (refine wpList_load_row rfl 42 _ rfl q rfl 42 _ (0, 0) _ HQ2.out Tryz.underlying42 rfl sizeLn ?_) | (at_builtin; refine wpList_append_run rfl _ _ 48 rfl rfl rfl HAP4.out ?_))
      go_ret
      exact ⟨_, HALL.out.1, HALL.out.2.1, HALL.out.2.2, .inl ⟨rfl, by rw [HN.out]; have := HLE.out; have := HE.out; omega⟩⟩
end Go.Proofs.YtaplmlldmhdhoaaGreatDoor

/- Take of a free line. -/
namespace Go.Proofs.YtaplmlldmhdhoaaGreatDoor
open Go.RowKit Go.Maps
set_option linter.unusedVariables false
variable {w : World} {pv n N D hi : Nat} {S T : Nat → Prop} {i : Int} {base : Value} {P : Int → Option (List Int)} {bc c : Nat → List Int} {ptr : Nat → Nat} {L : List Ln} {X : Array Value} {pe : Addr}
set_option maxRecDepth 100000 in
set_option maxHeartbeats 4000000 in
theorem alter_free (hD : Dw w pv S N i base T bc n P c) (hd : Dd N D hi c ptr L) (hX : InoIs X ((L.length * 32 : Nat) : Int) ptr) (p : Nat) (hp : p < L.length) (hi0 : (L.getD p noLn).i = 0) (a : Option Addr) (ln cp : Nat) :
    Calls Tryz.prog 17 #[ptrV pv, .agg X, n64 p, .slice a ln cp] w fun e w' => e = .returned (.iface 57 (n64 2)) ∧ Below w.heap.size w w' := by
  obtain ⟨q0, hq0⟩ : ∃ q, q = w.heap.size := ⟨_, rfl⟩
  rw [← hq0]
  have HQ0 := hid hq0
  clear hq0
  have hm96 := hd.max
  have hXs := hX.sz
  obtain ⟨xo, hxo⟩ : ∃ x, x = L.getD p noLn := ⟨_, rfl⟩
  have hok : LnOk xo := by rw [hxo]; exact hd.ok p hp
  obtain ⟨b, hb⟩ : ∃ b, w.heap.size = b := ⟨_, rfl⟩
  obtain ⟨W1, hW1⟩ : ∃ W, W = w.alloc (.cells X 31) := ⟨_, rfl⟩
  have b1 : Below w.heap.size w W1 := by rw [hW1]; exact (Below.refl _ _).alloc (Nat.le_refl _) _
  have k1 : W1.heap[b]? = some (.cells X 31 (0, 0)) := by rw [hW1, ← hb]; exact alloc_new w _
  have HRD := Read_line (w := W1.drew) (hD.later b1.drew) hd hX p hp
  rw [← hxo] at HRD
  replace HRD := hid HRD
  have HX1 : Hid (W1.drew.heap[b]? = some (.cells X 31 (0, 0))) := hid k1
  have HDE := hid (fun (W : World) (g : Nat) (hy : By W (fun _ => True) (some ⟨g, 0, none⟩) (lineB xo)) => decoded_line W p g 0 32 xo hok (Nat.le_refl _) hy)
  have HFR := hid (fun (W : World) => isFree_yes W (n64 p) (strOfNums xo.nm))
  have HP : Hid (p < 97) := hid (by omega)
  have HXS := hid hXs
  have HB1 := hid b1
  have HB := hid hb
  have HI0 : Hid (xo.i = 0) := hid (by rw [hxo]; exact hi0)
  clear hm96 hXs hxo hok b1 k1 hD hd hX hp hi0
  go_enter Tryz.func17, Tryz.ntmps17
  go_upto_region 1 with (first | (rw [← hW1]; clear hW1) | (rw [hb]; clear hb))
  refine wp_region_held_drew (S := fun w' => w'.heap[b]? = some (.cells X 31 (0, 0))) (by kernel_rfl) HX1.out (fun hS => ?_)
  refine nany_take 0 12 (ptrV pv) rfl rfl (by kernel_rfl) (by kernel_rfl) (by kernel_rfl) (fun _ _ _ h => h) (Or.inl ⟨by rfl, ?_⟩) hS ?_
  · rintro w' hS'
    go_simp
  simp only [List.setIfInBounds_toArray, List.set_cons_zero, List.set_cons_succ]
  refine nany_take 1 13 (.agg X) rfl rfl (by kernel_rfl) (by kernel_rfl) (by kernel_rfl) (fun _ _ _ h => h) (Or.inl ⟨by rfl, ?_⟩) hS ?_
  · rintro w' hS'
    exact ex_load 31 (.tmp 5) rfl b rfl 31 X (0, 0) _ hS' Tryz.underlying31 (by rw [HXS.out]; exact sizeIno)
  simp only [List.setIfInBounds_toArray, List.set_cons_zero, List.set_cons_succ]
  refine nany_take 2 14 (n64 p) rfl rfl (by kernel_rfl) (by kernel_rfl) (by kernel_rfl) (fun _ _ _ h => h) (Or.inl ⟨by rfl, ?_⟩) hS ?_
  · rintro w' hS'
    go_simp
  simp only [List.setIfInBounds_toArray, List.set_cons_zero, List.set_cons_succ]
  refine nany_one 3 (by kernel_rfl) ?_
  refine nop_callE 15 (f := 23) (args := #[n64 p]) (R := fun v w' => v = .int .u64 ((p * 32 : Nat) : Int) ∧ w' = W1.drew) rfl (by rfl) rfl (by go_simp) ((startOf_any _ p (by have := HP.out; omega)).mono (fun e w' h => ⟨_, h.1, rfl, h.2⟩)) ?_
  rintro v w3 ⟨rfl, hw3⟩
  rw [hw3]
  clear hw3 w3
  refine ⟨hS, ?_⟩
  simp only [List.setIfInBounds_toArray, List.set_cons_zero, List.set_cons_succ]
  refine nany_one 4 (by kernel_rfl) ?_
  refine nop_callE 16 (f := 36) (args := #[ptrV pv, .agg X, .int .u64 ((p * 32 : Nat) : Int), n64 32]) (R := fun v w' => ∃ g, v = .tuple #[.slice (some ⟨g, 0, none⟩) 32 32, .nilIface] ∧ By w' (fun _ => True) (some ⟨g, 0, none⟩) (lineB xo) ∧ Below W1.heap.size W1 w') rfl (by rfl) rfl (by go_simp) (HRD.out.mono (fun e w' h => by obtain ⟨g, h1, h2, h3⟩ := h; exact ⟨_, h1, g, rfl, h2, below_undrew h3⟩)) ?_
  rintro v w4 ⟨g, rfl, hy4, hb4⟩
  have hS4 : w4.heap[b]? = some (.cells X 31 (0, 0)) := (hb4.block b (Array.getElem?_eq_some_iff.1 HX1.out).1).trans hS
  refine ⟨hS4, ?_⟩
  simp only [List.setIfInBounds_toArray, List.set_cons_zero, List.set_cons_succ]
  refine nany_take 5 11 (.tuple #[.slice (some ⟨g, 0, none⟩) 32 32, .nilIface]) rfl rfl (by kernel_rfl) (by kernel_rfl) (by kernel_rfl) (fun _ _ _ h => h) (Or.inl ⟨by rfl, ?_⟩) hS4 ?_
  · rintro w' hS'
    go_simp
  simp only [List.setIfInBounds_toArray, List.set_cons_zero, List.set_cons_succ]
  refine nany_take 6 17 (.slice (some ⟨g, 0, none⟩) 32 32) rfl rfl (by kernel_rfl) (by kernel_rfl) (by kernel_rfl) (fun _ _ _ h => h) (Or.inl ⟨by rfl, ?_⟩) hS4 ?_
  · rintro w' hS'
    go_simp
  simp only [List.setIfInBounds_toArray, List.set_cons_zero, List.set_cons_succ]
  refine nany_take 7 18 (.nilIface) rfl rfl (by kernel_rfl) (by kernel_rfl) (by kernel_rfl) (fun _ _ _ h => h) (Or.inl ⟨by rfl, ?_⟩) hS4 ?_
  · rintro w' hS'
    go_simp
  simp only [List.setIfInBounds_toArray, List.set_cons_zero, List.set_cons_succ]
  refine nany_take 8 9 (.slice (some ⟨g, 0, none⟩) 32 32) rfl rfl (by kernel_rfl) (by kernel_rfl) (by kernel_rfl) (fun _ _ _ h => h) (Or.inl ⟨by rfl, ?_⟩) hS4 ?_
  · rintro w' hS'
    go_simp
  simp only [List.setIfInBounds_toArray, List.set_cons_zero, List.set_cons_succ]
  refine nany_take 9 10 (.nilIface) rfl rfl (by kernel_rfl) (by kernel_rfl) (by kernel_rfl) (fun _ _ _ h => h) (Or.inl ⟨by rfl, ?_⟩) hS4 ?_
  · rintro w' hS'
    go_simp
  simp only [List.setIfInBounds_toArray, List.set_cons_zero, List.set_cons_succ]
  refine wpAnyH_done (by kernel_rfl) ?_ _
  have hDE := HDE.out w4 g hy4
  replace hDE := hid hDE
  have HB4 := hid hb4
  have HS4 := hid hS4
  clear hS hy4 hb4 hS4 HDE HRD
  go_wp2_with fail
  refine hDE.out.mono ?_
  rintro e w5 ⟨rfl, hb5⟩
  have hfr := hid (HFR.out w5)
  have HB5 := hid hb5
  clear hb5 hDE HFR
  unfold lnV
  rw [HI0.out]
  go_wp2_with fail
  refine hfr.out.mono ?_
  rintro e w6 ⟨rfl, hb6⟩
  have hB16 : Below W1.heap.size W1 w6 := HB4.out.trans ((HB5.out.trans (hb6.mono HB5.out.size)).mono HB4.out.size)
  have HB6 := hid (HB1.out.trans (hB16.mono HB1.out.size))
  clear hb6 hB16 hfr
  go_wp2
  go_ret
  exact ⟨rfl, by rw [HQ0.out]; exact HB6.out⟩
set_option maxRecDepth 100000 in
set_option maxHeartbeats 4000000 in
theorem Take_none (hD : Dw w pv S N i base T bc n P c) (hd : Dd N D hi c ptr L) (hX : InoIs X ((L.length * 32 : Nat) : Int) ptr) (p : Nat) (hp2 : 2 ≤ p) (hp : p < L.length) (hi0 : (L.getD p noLn).i = 0) :
    Calls Tryz.prog 8 #[ptrV pv, .agg X, n64 p] w fun e w' => e = .returned (.iface 57 (n64 2)) ∧ Below w.heap.size w w' := by
  obtain ⟨q0, hq0⟩ : ∃ q, q = w.heap.size := ⟨_, rfl⟩
  rw [← hq0]
  have HQ0 := hid hq0
  clear hq0
  have hm96 := hd.max
  have hXs := hX.sz
  have mk : ∀ W : World, (Instr.makeSlice 59 (.int .i64 32) (.int .i64 32)).run Tryz.prog W = .ok (.slice (some ⟨W.heap.size, 0, none⟩) 32 32) (W.alloc (.cells (madeCells #[.int .u8 0] 32) 5)) := run_make_row' (P := Tryz.prog) 59 5 (.int .u8 0) 1 Tryz.underlying59 info5 rfl .i64 .i64 32 (by omega) (by omega)
  obtain ⟨b, hb⟩ : ∃ b, w.heap.size = b := ⟨_, rfl⟩
  obtain ⟨W1, hW1⟩ : ∃ W, W = w.alloc (.cells X 31) := ⟨_, rfl⟩
  have b1 : Below w.heap.size w W1 := by rw [hW1]; exact (Below.refl _ _).alloc (Nat.le_refl _) _
  have k1 : W1.heap[b]? = some (.cells X 31 (0, 0)) := by rw [hW1, ← hb]; exact alloc_new w _
  have HAL0 := hid (fun (W : World) (g : Nat) (hb : Below w.heap.size w W) => alter_free (hD.later hb) hd hX p hp hi0 (some ⟨g, 0, none⟩) 32 32)
  have HIP := hid (isPlace_yes W1 hX hm96 p hp)
  have HK1 := hid k1
  have HB1 := hid b1
  have HXS := hid hXs
  have HB := hid hb
  have e0 : ((p : Int) == 0) = false := by rw [beq_eq_false_iff_ne]; omega
  have e1 : ((p : Int) == 1) = false := by rw [beq_eq_false_iff_ne]; omega
  clear hm96 hXs b1 k1 hD hd hX hp2 hp hi0
  go_enter Tryz.func8, Tryz.ntmps8
  go_wp2_with (first | (rw [← hW1]; clear hW1) | (rw [hb]; clear hb) | (refine load_rowG rfl 31 _ rfl b rfl 31 X (0, 0) _ HK1.out Tryz.underlying31 (by rw [HXS.out]; exact sizeIno) ?_))
  refine HIP.out.mono ?_
  rintro e w2 ⟨rfl, hb2⟩
  have hB2 : Below w.heap.size w w2 := HB1.out.trans (hb2.mono HB1.out.size)
  have x2 : w2.heap[b]? = some (.cells X 31 (0, 0)) := (hb2.block b (Array.getElem?_eq_some_iff.1 HK1.out).1).trans HK1.out
  obtain ⟨g5, hg5⟩ : ∃ g, w2.drew.heap.size = g := ⟨_, rfl⟩
  obtain ⟨w5, hw5⟩ : ∃ W, W = w2.drew.alloc (.cells (madeCells #[.int .u8 0] 32) 5) := ⟨_, rfl⟩
  have b5 : Below w2.drew.heap.size w2.drew w5 := by rw [hw5]; exact (Below.refl _ _).alloc (Nat.le_refl _) _
  have hB5 : Below w.heap.size w w5 := hB2.trans ((below_undrew b5).mono hB2.size)
  have hy5 : By w5 (fun _ => True) (some ⟨g5, 0, none⟩) (List.replicate 32 0) := by
    have := zerosN_by w2.drew 32
    rw [← hw5, hg5] at this
    exact this
  have HX3 : Hid (w2.drew.heap[b]? = some (.cells X 31 (0, 0))) := hid x2
  have HX5 : Hid (w5.heap[b]? = some (.cells X 31 (0, 0))) := hid ((b5.block b (Array.getElem?_eq_some_iff.1 x2).1).trans x2)
  have HAL := hid (HAL0.out w5 g5 hB5)
  have HB5 := hid hB5
  have HW5 := hid hw5
  have HG5 := hid hg5
  clear hb2 hB2 x2 hg5 hw5 b5 hB5 hy5 HIP
  go_upto_region 3 with fail
  refine wp_region_held_drew (S := fun w' => w'.heap[b]? = some (.cells X 31 (0, 0))) (by kernel_rfl) HX3.out (fun hS => ?_)
  refine nany_take 0 20 (ptrV pv) rfl rfl (by kernel_rfl) (by kernel_rfl) (by kernel_rfl) (fun _ _ _ h => h) (Or.inl ⟨by rfl, ?_⟩) hS ?_
  · rintro w' hS'
    go_simp
  simp only [List.setIfInBounds_toArray, List.set_cons_zero, List.set_cons_succ]
  refine nany_take 1 21 (.agg X) rfl rfl (by kernel_rfl) (by kernel_rfl) (by kernel_rfl) (fun _ _ _ h => h) (Or.inl ⟨by rfl, ?_⟩) hS ?_
  · rintro w' hS'
    exact ex_load 31 (.tmp 4) rfl b rfl 31 X (0, 0) _ hS' Tryz.underlying31 (by rw [HXS.out]; exact sizeIno)
  simp only [List.setIfInBounds_toArray, List.set_cons_zero, List.set_cons_succ]
  refine nany_take 2 22 (n64 p) rfl rfl (by kernel_rfl) (by kernel_rfl) (by kernel_rfl) (fun _ _ _ h => h) (Or.inl ⟨by rfl, ?_⟩) hS ?_
  · rintro w' hS'
    go_simp
  simp only [List.setIfInBounds_toArray, List.set_cons_zero, List.set_cons_succ]
  refine nany_one 3 (by kernel_rfl) ?_
  refine nop_value' 23 (v := .slice (some ⟨g5, 0, none⟩) 32 32) (w' := w5) rfl (by rfl) rfl (by rw [HW5.out, ← HG5.out]; go_simp) ?_
  refine ⟨HX5.out, ?_⟩
  simp only [List.setIfInBounds_toArray, List.set_cons_zero, List.set_cons_succ]
  refine nany_one 4 (by kernel_rfl) ?_
  refine nop_callE 24 (f := 17) (args := #[ptrV pv, .agg X, n64 p, .slice (some ⟨g5, 0, none⟩) 32 32]) (R := fun v w' => v = .iface 57 (n64 2) ∧ Below w5.heap.size w5 w') rfl (by rfl) rfl (by go_simp) (HAL.out.mono (fun e w' h => ⟨_, h.1, rfl, h.2⟩)) ?_
  rintro v w8 ⟨rfl, hb8⟩
  have hS8 : w8.heap[b]? = some (.cells X 31 (0, 0)) := (hb8.block b (Array.getElem?_eq_some_iff.1 HX5.out).1).trans HX5.out
  refine ⟨hS8, ?_⟩
  simp only [List.setIfInBounds_toArray, List.set_cons_zero, List.set_cons_succ]
  refine nany_take 5 6 (.iface 57 (n64 2)) rfl rfl (by kernel_rfl) (by kernel_rfl) (by kernel_rfl) (fun _ _ _ h => h) (Or.inl ⟨by rfl, ?_⟩) hS8 ?_
  · rintro w' hS'
    go_simp
  simp only [List.setIfInBounds_toArray, List.set_cons_zero, List.set_cons_succ]
  refine wpAnyH_done (by kernel_rfl) ?_ _
  have HK8 : Hid (Below w.heap.size w w8) := hid (HB5.out.trans (hb8.mono HB5.out.size))
  clear hS hS8 hb8
  go_wp2
  go_ret
  exact ⟨rfl, by rw [HQ0.out]; exact HK8.out⟩
end Go.Proofs.YtaplmlldmhdhoaaGreatDoor

/- List. -/
namespace Go.Proofs.YtaplmlldmhdhoaaGreatDoor
open Go.RowKit Go.Maps
set_option linter.unusedVariables false
theorem tolds_append (lo : Nat) (a b : List Ln) : tolds lo (a ++ b) = tolds lo a ++ tolds (lo + a.length) b := by
  unfold tolds
  rw [List.zipIdx_append, List.filter_append]
theorem seen_pre (L : List Ln) (a q : Nat) : seen L a q ++ (L.drop a).drop (q - a) = L.drop a := by unfold seen; exact List.take_append_drop _ _
def LsJ (og : Option Obj) (pe : Addr) (ob mb m lo : Nat) (ls : List Ln) (Z : Nat → Prop) (W : World) : Prop := ∃ v, Z = LsZ ob mb v ∧ LsC og W pe ob mb m lo v ls ∧ (tolds lo ls).length < m
def LsX (og : Option Obj) (pe : Addr) (ob mb m lo : Nat) (ls : List Ln) (Z : Nat → Prop) (W : World) : Prop := ∃ v, Z = LsZ ob mb v ∧ LsC og W pe ob mb m lo v ls ∧ (tolds lo ls).length = m
theorem callL1 (args : Array Value) (w : World) : (callFunc 27 args).run Tryz.prog w = .ok (.enter 27 args) w := by kernel_rfl
theorem list_see {og : Option Obj} {pe : Addr} {ob mb m lo : Nat} (hap : 0 ≠ mb ∧ 0 ≠ ob ∧ mb ≠ ob) (hm : m < 4611686018427387904) : See (LsJ og pe ob mb m lo) (LsX og pe ob mb m lo) pe 27 #[ptrV ob, ptrV mb] lo where
  cf := callL1
  keep := fun ls Z W W' h _ hk => by
    obtain ⟨v, rfl, h, h2⟩ := h
    exact ⟨v, rfl, h.keep hk, h2⟩
  keepx := fun ls Z W W' h _ hk => by
    obtain ⟨v, rfl, h, h2⟩ := h
    exact ⟨v, rfl, h.keep hk, h2⟩
  cells := fun ls Z W h g hg => by
    obtain ⟨v, rfl, h, h2⟩ := h
    exact h.lt hg
  cellsx := fun ls Z W h g hg => by
    obtain ⟨v, rfl, h, h2⟩ := h
    exact h.lt hg
  call := fun ls x Z W hx hl h => by
    obtain ⟨v, rfl, h, h2⟩ := h
    refine (List1_any W h hap h2 hm x hx hl).mono ?_
    rintro e W' ⟨v', hC, hz, hM, hor⟩
    refine ⟨LsZ ob mb v', ⟨hz, hM.weak (fun g hg => .inl hg)⟩, ?_⟩
    rcases hor with ⟨rfl, h3⟩ | ⟨rfl, h3⟩
    · exact .inl ⟨rfl, v', rfl, hC, h3⟩
    · exact .inr ⟨rfl, v', rfl, hC, h3⟩
variable {w : World} {pv n N D hi : Nat} {S T : Nat → Prop} {i : Int} {base : Value} {P : Int → Option (List Int)} {bc c : Nat → List Int} {ptr : Nat → Nat} {L : List Ln} {X : Array Value} {pe : Addr}
set_option maxRecDepth 100000 in
set_option maxHeartbeats 4000000 in
theorem List_any (hD : Dw w pv S N i base T bc n P c) (hd : Dd N D hi c ptr L) (hX : InoIs X ((L.length * 32 : Nat) : Int) ptr) (hE : En0 w pe) (hG : ¬ S 0 ∧ ¬ T 0) (from_ m : Nat) (hf : from_ < 4611686018427387904) (hm0 : 0 < m) (hm : m < 4611686018427387904) :
    Calls Tryz.prog 13 #[ptrV pv, .agg X, n64 from_, n64 m] w fun e w' => Below w.heap.size w w' ∧ ∃ v M, e = .returned (.tuple #[v, .nilIface]) ∧ M = (tolds from_ (L.drop from_)).take m ∧ w'.ownsRow 0 42 3 v M.length (cellsLn M) ∧ (∀ g, v.ownBlock = some g → w.heap.size ≤ g) := by
  have hXs := hX.sz
  obtain ⟨b, hb⟩ : ∃ b, w.heap.size = b := ⟨_, rfl⟩
  obtain ⟨W1, hW1⟩ : ∃ W, W = w.alloc (.cells X 31) := ⟨_, rfl⟩
  have b1 : Below w.heap.size w W1 := by rw [hW1]; exact (Below.refl _ _).alloc (Nat.le_refl _) _
  have s1 : W1.heap.size = b + 1 := by rw [hW1, ← hb]; exact Array.size_push _
  have k1 : W1.heap[b]? = some (.cells X 31 (0, 0)) := by rw [hW1, ← hb]; exact alloc_new w _
  obtain ⟨W2, hW2⟩ : ∃ W, W = W1.alloc (.cells #[n64 m] 3) := ⟨_, rfl⟩
  have b2 : Below W1.heap.size W1 W2 := by rw [hW2]; exact (Below.refl _ _).alloc (Nat.le_refl _) _
  have s2 : W2.heap.size = b + 1 + 1 := by rw [hW2, ← s1]; exact Array.size_push _
  have k2 : W2.heap[b + 1]? = some (.cells #[n64 m] 3 (0, 0)) := by rw [hW2, ← s1]; exact alloc_new W1 _
  obtain ⟨W3, hW3⟩ : ∃ W, W = W2.alloc (.cells #[.slice none 0 0] 48) := ⟨_, rfl⟩
  have b3 : Below W2.heap.size W2 W3 := by rw [hW3]; exact (Below.refl _ _).alloc (Nat.le_refl _) _
  have k3 : W3.heap[b + 1 + 1]? = some (.cells #[.slice none 0 0] 48 (0, 0)) := by rw [hW3, ← s2]; exact alloc_new W2 _
  have hB3 : Below w.heap.size w W3 := (b1.trans (b2.mono b1.size)).trans (b3.mono (b1.trans (b2.mono b1.size)).size)
  have x3 : W3.heap[b]? = some (.cells X 31 (0, 0)) := ((b3.block b (by omega)).trans (b2.block b (by omega))).trans k1
  have m3 : W3.heap[b + 1]? = some (.cells #[n64 m] 3 (0, 0)) := (b3.block _ (by omega)).trans k2
  have ym : W2.cell? ⟨b + 1, 0, none⟩ = some (n64 m) := cell_of k2 rfl
  have hgl := hE.lt
  have hap : 0 ≠ b + 1 ∧ 0 ≠ b + 1 + 1 ∧ b + 1 ≠ b + 1 + 1 := ⟨by omega, by omega, by omega⟩
  have hJ : LsJ (w.heap[0]?) pe (b + 1 + 1) (b + 1) m from_ [] (LsZ (b + 1 + 1) (b + 1) (.slice none 0 0)) W3 := ⟨_, rfl, ⟨hE.later hB3, hB3.block _ hgl, m3, k3, World.ownsRow_nil W3 0 42 3, fun b h => by simp [Value.ownBlock] at h⟩, by simpa [tolds] using hm0⟩
  have hZ : ∀ g, LsZ (b + 1 + 1) (b + 1) (.slice none 0 0) g → ¬ S g ∧ ¬ T g := fun g hg => by
    rcases hg with rfl | rfl | rfl | h
    · exact hG
    · exact ⟨fun h => by have := hD.s _ h; omega, fun h => by have := hD.t.lt h; omega⟩
    · exact ⟨fun h => by have := hD.s _ h; omega, fun h => by have := hD.t.lt h; omega⟩
    · simp [Value.ownBlock] at h
  have HV := hid (visit_any (hD.later hB3) hd hX from_ (list_see hap hm) (fun ls Z W h => by obtain ⟨v, _, h, _⟩ := h; exact h.en) (fun ls Z W h => by obtain ⟨v, _, h, _⟩ := h; exact h.en) hf hJ hZ)
  have HX3 := hid x3
  have HB3 := hid hB3
  have HXS := hid hXs
  have HBB := hid hb
  have u1 : ¬ ((m : Int) ≤ 0) := by omega
  have u2 : max (from_ : Int) 0 = (from_ : Int) := by omega
  have HGL := hid hgl
  clear hD hd hX hE hG hf hm0 hm hXs b1 b2 b3 k1 k2 k3 x3 m3 hB3 hap hJ hZ hgl
  go_enter Tryz.func13, Tryz.ntmps13
  go_wp2_with (first | (rw [← hW1]; clear hW1) | (rw [← hW2]; clear hW2) | (rw [← hW3]; clear hW3) | (rw [hb]; clear hb) | (rw [s1]; clear s1) | (rw [s2]; clear s2) | (refine wpList_load_row rfl 31 _ rfl b rfl 31 X (0, 0) _ HX3.out Tryz.underlying31 rfl (by rw [HXS.out]; exact sizeIno) ?_))
  refine HV.out.mono ?_
  rintro e w8 ⟨rfl, Z', hz, hm8, hor⟩
  obtain ⟨v8, ls8, hC8, hz8, hM8⟩ : ∃ v ls, LsC (w.heap[0]?) w8 pe (b + 1 + 1) (b + 1) m from_ v ls ∧ Z' = LsZ (b + 1 + 1) (b + 1) v ∧ tolds from_ ls = (tolds from_ (L.drop from_)).take m := by
    rcases hor with ⟨v, h1, h2, h3⟩ | ⟨q, _, _, v, h1, h2, h3⟩
    · exact ⟨v, _, h2, h1, (List.take_of_length_le (Nat.le_of_lt h3)).symm⟩
    · refine ⟨v, _, h2, h1, ?_⟩
      rw [← seen_pre L from_ q, tolds_append, List.take_append_of_le_length (by omega), List.take_of_length_le (by omega)]
  have y8 : w8.cell? ⟨b + 1 + 1, 0, none⟩ = some v8 := cell_of hC8.o rfl
  have HC8 := hid hC8
  have HM8 := hid hM8
  have hB8 : Below w.heap.size w w8 := ⟨hm8.os.trans HB3.out.os, hm8.tape.trans HB3.out.tape, hm8.output.trans HB3.out.output, Nat.le_trans HB3.out.size hm8.size, fun g hg => by
    by_cases e0 : g = 0
    · rw [e0]; exact hC8.g
    · refine (hm8.block g (Nat.lt_of_lt_of_le hg HB3.out.size) (fun e => ?_)).trans (HB3.out.block g hg)
      have := HBB.out
      rcases e with e | e | e | e
      · exact e0 e
      · omega
      · omega
      · simp [Value.ownBlock] at e⟩
  have hO8 : ∀ g, v8.ownBlock = some g → w.heap.size ≤ g := fun g hg => by
    have h1 := hC8.off g hg
    have := HBB.out
    rcases hz g (by rw [hz8]; exact .inr (.inr (.inr hg))) with e | e
    · rcases e with e | e | e | e
      · exact absurd e h1.1
      · exact absurd e h1.2.1
      · exact absurd e h1.2.2
      · simp [Value.ownBlock] at e
    · exact Nat.le_trans HB3.out.size e
  have HB8 := hid hB8
  have HO8 := hid hO8
  clear hz hm8 hor hC8 hz8 hM8 hB8 hO8 HV
  go_wp2
  go_ret2
  exact ⟨by have := HB8.out; simpa only [HBB.out] using this, v8, _, rfl, HM8.out, HC8.out.row, by have := HO8.out; simpa only [HBB.out] using this⟩
end Go.Proofs.YtaplmlldmhdhoaaGreatDoor

/- A law's directory: Take of a free line, List. -/
namespace Go.Proofs.YtaplmlldmhdhoaaGreatDoor
open Go.RowKit Go.Maps
set_option linter.unusedVariables false
variable {w0 W W' : World} {pv k : Nat} {S T : Nat → Prop} {L : List Ln} {X : Array Value} {pe : Addr}
theorem Ds.takeNone (h : Ds w0 W pv S T k L X) (p : Nat) (hp2 : 2 ≤ p) (hp : p < L.length) (hi0 : (L.getD p noLn).i = 0) :
    Calls Tryz.prog 8 #[ptrV pv, .agg X, n64 p] W fun e W' => e = .returned (.iface 57 (n64 2)) ∧ Below W.heap.size W W' ∧ Ds w0 W' pv S T k L X := by
  have h' := h
  obtain ⟨base, bc, n, P, c, hi, ptr, hD, hd, hX, hn, hh, hS, hT, hB⟩ := h
  refine (Take_none hD hd hX p hp2 hp hi0).mono ?_
  rintro e W' ⟨rfl, hb⟩
  exact ⟨rfl, hb, h'.later hb⟩
theorem Ds.list (h : Ds w0 W pv S T k L X) (hE : En0 w0 pe) (from_ m : Nat) (hf : from_ < 4611686018427387904) (hm0 : 0 < m) (hm : m < 4611686018427387904) :
    Calls Tryz.prog 13 #[ptrV pv, .agg X, n64 from_, n64 m] W fun e W' => Below W.heap.size W W' ∧ Ds w0 W' pv S T k L X ∧ ∃ v M, e = .returned (.tuple #[v, .nilIface]) ∧ M = (tolds from_ (L.drop from_)).take m ∧ W'.ownsRow 0 42 3 v M.length (cellsLn M) ∧ (∀ g, v.ownBlock = some g → W.heap.size ≤ g) := by
  have h' := h
  have hoff := h.off hE
  obtain ⟨base, bc, n, P, c, hi, ptr, hD, hd, hX, hn, hh, hS, hT, hB⟩ := h
  refine (List_any hD hd hX (hE.later hB) hoff from_ m hf hm0 hm).mono ?_
  rintro e W' ⟨hb, h2⟩
  exact ⟨hb, h'.later hb, h2⟩
/-- The n-th of a law's names. -/
def nmL (n : Nat) : List Int := ((97 + n % 26 : Nat) : Int) :: (List.range (n / 26 % 27)).map (fun j => ((65 + (n + j) % 26 : Nat) : Int))
theorem nmL_ok : ∀ n : Fin 60, 0 < (nmL n.1).length ∧ (nmL n.1).length ≤ 27 ∧ (∀ y ∈ nmL n.1, IsB y) ∧ (∀ y ∈ nmL n.1, y ≠ 47 ∧ y ≠ 0) := by
  intro n
  have h := n.2
  unfold nmL
  refine ⟨by simp, by simp; omega, fun y hy => ?_, fun y hy => ?_⟩
  · rcases List.mem_cons.1 hy with rfl | hy
    · unfold IsB; omega
    · obtain ⟨j, _, rfl⟩ := List.mem_map.1 hy
      unfold IsB; omega
  · rcases List.mem_cons.1 hy with rfl | hy
    · omega
    · obtain ⟨j, _, rfl⟩ := List.mem_map.1 hy
      omega
theorem nmL_inj : ∀ a b : Fin 60, nmL a.1 = nmL b.1 → a = b := by decide +kernel
end Go.Proofs.YtaplmlldmhdhoaaGreatDoor

/- A law's names. -/
namespace Go.Proofs.YtaplmlldmhdhoaaGreatDoor
open Go.RowKit Go.Maps
set_option linter.unusedVariables false
def nmJ (n j : Nat) : List Int := ((97 + n % 26 : Nat) : Int) :: (List.range j).map (fun j => ((65 + (n + j) % 26 : Nat) : Int))
theorem nmJ_succ (n j : Nat) : nmJ n (j + 1) = nmJ n j ++ [((65 + (n + j) % 26 : Nat) : Int)] := by unfold nmJ; rw [List.range_succ]; simp
theorem nmJ_len (n j : Nat) : (nmJ n j).length = j + 1 := by unfold nmJ; simp
theorem nmJ_isB (n j : Nat) : ∀ y ∈ nmJ n j, IsB y := by
  intro y hy
  unfold nmJ at hy
  rcases List.mem_cons.1 hy with rfl | hy
  · unfold IsB; omega
  · obtain ⟨j, _, rfl⟩ := List.mem_map.1 hy
    unfold IsB; omega
set_option maxRecDepth 100000 in
set_option maxHeartbeats 2000000 in
theorem name_any (w : World) (n : Nat) (hn : n < 60) : Calls Tryz.prog 10 #[n64 n] w fun e w' => e = .returned (.string (strOfNums (nmL n))) ∧ Below w.heap.size w w' := by
  obtain ⟨C, hC⟩ : ∃ C : Nat, C = n / 26 % 27 := ⟨_, rfl⟩
  have hC4 : C ≤ 4 := by omega
  have u5 : (n : Int) / 26 % 27 = (C : Int) := by omega
  obtain ⟨b, hb⟩ : ∃ b, w.heap.size = b := ⟨_, rfl⟩
  obtain ⟨W1, hW1⟩ : ∃ W, W = w.alloc (.cells #[.int .u8 (97 + (n : Int) % 26)] 5) := ⟨_, rfl⟩
  have g1 : Gr W1 w.heap.size (.slice (some ⟨b, 0, none⟩) 1 1) (nmJ n 0) := by
    refine Gr.own (n := 1) ⟨by simp [nmJ], .inr ⟨b, 1, #[.int .u8 (97 + (n : Int) % 26)], rfl, by omega, by rw [hW1, ← hb]; exact alloc_new w _, by omega, by unfold maxLen; omega, rfl, ?_⟩⟩ (nmJ_len n 0) (nmJ_isB n 0)
    simp [nmJ]
  have HG1 := hid g1
  have HB1 : Hid (Below w.heap.size w W1) := hid (by rw [hW1]; exact (Below.refl _ _).alloc (Nat.le_refl _) _)
  have HC := hid hC
  have HBB := hid hb
  clear g1 hC
  go_enter Tryz.func10, Tryz.ntmps10
  go_wp2_with (first | (rw [← hW1]; clear hW1) | (rw [hb]; clear hb))
  go_loopw [3, 4] (fun v3 v4 wr => ∃ j : Nat, j ≤ C ∧ v4 = n64 j ∧ Gr wr b v3 (nmJ n j) ∧ Below b w wr) (fun v3 v4 wr => C - (RowKit.intOf v4).toNat)
  case atStart => exact ⟨0, Nat.zero_le _, rfl, HBB.out ▸ HG1.out, HBB.out ▸ HB1.out⟩
  case round =>
    obtain ⟨j, hj, rfl, hg, hbl⟩ := hrel
    have HG := hid hg
    have HBL := hid hbl
    obtain ⟨a3, c3, rfl⟩ := hg.slice
    rw [nmJ_len] at HG ⊢
    by_cases hlt : j < C
    · have hlt' : (j : Int) < C := by omega
      obtain ⟨d, hd⟩ : ∃ d, wr.heap.size = d := ⟨_, rfl⟩
      obtain ⟨w2, hw2⟩ : ∃ W, W = wr.alloc (.cells #[.int .u8 (65 + ((n : Int) + (j : Int)) % 26)] 5) := ⟨_, rfl⟩
      have b2 : Below wr.heap.size wr w2 := by rw [hw2]; exact (Below.refl _ _).alloc (Nat.le_refl _) _
      have d2 : w2.heap[d]? = some (.cells #[.int .u8 (65 + ((n : Int) + (j : Int)) % 26)] 5 (0, 0)) := by rw [hw2, ← hd]; exact alloc_new wr _
      have hbw : b ≤ wr.heap.size := by have := hbl.size; have := HBB.out; omega
      obtain ⟨a', c', w3, hap, hg3, _, hb3, _, _⟩ := (HG.out.later b2).push (Nat.le_trans hbw b2.size) [((65 + (n + j) % 26 : Nat) : Int)] (fun x hx => by rw [List.mem_singleton.1 hx]; unfold IsB; omega) (by simp) ⟨d, 0, none⟩ 1 1 rfl (fun k u hk => by
        have hk0 : k = 0 := by have := (List.getElem?_eq_some_iff.1 hk).1; simp at this; omega
        subst hk0
        have e : u = .int .u8 (65 + ((n : Int) + (j : Int)) % 26) := by simpa using hk.symm
        rw [e, add_addr]
        exact cell_of d2 rfl) (by rw [nmJ_len]; omega) 59
      rw [nmJ_len] at hap hg3
      rw [← nmJ_succ] at hg3
      have HAP := hid hap
      have HR : Hid (Gr w3 b (.slice a' (j + 1 + 1) c') (nmJ n (j + 1)) ∧ Below b w w3) := hid ⟨hg3, (hbl.trans ((b2.mono hbw).trans hb3))⟩
      clear hap hg3 hb3 b2 d2 hg hbl
      go_wp2_with (first | (rw [← hw2]; clear hw2) | (rw [hd]; clear hd) | (at_builtin; refine wpList_append_run rfl _ _ 59 rfl rfl rfl HAP.out ?_))
      refine ⟨⟨j + 1, hlt, by show Value.int .i64 ((j : Int) + 1) = Value.int .i64 ((j + 1 : Nat) : Int); congr 1, HR.out.1, HR.out.2⟩, ?_⟩
      show C - ((j : Int) + 1).toNat < C - (j : Int).toNat
      omega
    · have hlt' : ¬ (j : Int) < C := by omega
      obtain rfl : j = C := by omega
      have hby := HG.out.by_
      obtain ⟨a4, c4, e4, hc4, hy4⟩ := hby
      rw [nmJ_len] at e4 hc4
      obtain ⟨rfl, _, rfl⟩ : a3 = a4 ∧ True ∧ c3 = c4 := by simpa using e4
      have hcv := conv0 (cap := c3) (k := j + 1) hy4.bytes (nmJ_len n j)
      have HE : Hid (nmJ n j = nmL n) := hid (by unfold nmJ nmL; rw [HC.out])
      have um : min ((j : Int) + 1) 27 = (j : Int) + 1 := by omega
      have un : ((j : Int) + 1).toNat = j + 1 := by omega
      clear hy4 e4 hg hbl
      go_wp2
      go_ret
      exact ⟨by rw [← HE.out]; rfl, HBL.out⟩
end Go.Proofs.YtaplmlldmhdhoaaGreatDoor
