/- Record. -/
import Derived.Test.YtoifeioijoancaaDoorWbC
namespace Go.Proofs.YtoifeioijoancaaDoor
open Go.RowKit Go.Maps
set_option linter.unusedVariables false

section
variable {w w' : World} {S M : Nat → Prop} {a : Option Addr} {l : List Int} {v : Value} {L : List Pw}
theorem By.mods (h : By w S a l) (hm : Mods M w w') (h5 : ∀ g cur fr, M g → w.heap[g]? = some (.cells cur 5 fr) → False) : By w' S a l :=
  ⟨h.1, fun hp => by
    obtain ⟨b, off, cur, fr, ha, hs, hh, hc⟩ := h.2 hp
    exact ⟨b, off, cur, fr, ha, hs, (hm.block b (Array.getElem?_eq_some_iff.1 hh).1 (fun hM => h5 b cur fr hM hh)).trans hh, hc⟩⟩
theorem Ps.mods (h : Ps w S a L) (hm : Mods M w w') (h5 : ∀ g cur fr, M g → w.heap[g]? = some (.cells cur 5 fr) → False) (hP : ∀ g cur fr, M g → w.heap[g]? = some (.cells cur 29 fr) → False) : Ps w' S a L :=
  ⟨fun p hp => ⟨(h.1 p hp).1.mods hm h5, (h.1 p hp).2⟩, fun hp => by
    obtain ⟨b, off, cur, ha, hs, hh, hc⟩ := h.2 hp
    exact ⟨b, off, cur, ha, hs, (hm.block b (Array.getElem?_eq_some_iff.1 hh).1 (fun hM => hP b cur _ hM hh)).trans hh, hc⟩⟩
theorem PO.mods (h : PO w S v L) (hm : Mods M w w') (h5 : ∀ g cur fr, M g → w.heap[g]? = some (.cells cur 5 fr) → False) (hP : ∀ g cur fr, M g → w.heap[g]? = some (.cells cur 29 fr) → False) : PO w' S v L :=
  ⟨owns_keep h.1 (fun g hg => by
    obtain ⟨cur, hh⟩ := owns_kind h.1 hg
    exact hm.block g (owns_lt h.1 hg).1 (fun hM => hP g cur _ hM hh)), h.2.1, fun p hp => ⟨(h.2.2 p hp).1.mods hm h5, (h.2.2 p hp).2⟩⟩
end
theorem owns_other {w : World} {base s n : Nat} {e t : TypeId} {v : Value} {xs : List Value} (h : w.ownsRow base e s v n xs) (ht : e ≠ t) : ∀ g cur fr, v.ownBlock = some g → w.heap[g]? = some (.cells cur t fr) → False := by
  intro g cur fr hg hh
  obtain ⟨c2, h2⟩ := owns_kind h hg
  rw [h2] at hh
  simp at hh
  exact ht hh.2.1

/-! ### rows of rows of bytes -/
def cellsB (M : List Pw) : List Value := M.map fun p => .slice p.a p.dat.length p.c
def BO (w : World) (S : Nat → Prop) (v : Value) (M : List Pw) : Prop :=
  w.ownsRow 0 27 1 v M.length (cellsB M) ∧ (∀ g, v.ownBlock = some g → S g) ∧ ∀ p ∈ M, By w (fun _ => True) p.a p.dat ∧ p.dat.length ≤ p.c
theorem BO.rows {w : World} {S : Nat → Prop} {v : Value} {M : List Pw} (h : BO w S v M) : ∃ a c, v = .slice a M.length c ∧ RowsOf w a (M.map Pw.dat) := by
  obtain ⟨h1, h2, h3⟩ := h
  rcases h1.2 with ⟨rfl, h0⟩ | ⟨g, cap, cur, rfl, _, hh, hc1, hc2, hcs, ht⟩
  · refine ⟨none, 0, by rw [h0], fun i hi => ?_⟩
    simp at hi; omega
  · refine ⟨_, cap, rfl, fun i hi => ?_⟩
    have hi2 : i < M.length := by simpa using hi
    have e : (M.map Pw.dat).getD i [] = (M.getD i default).dat := by simp [List.getD, hi2]
    refine ⟨g, 0, (M.getD i default).a, (M.getD i default).c, rfl, ?_, ?_⟩
    · have k : (cur.toList.take (M.length * 1))[i]? = (cellsB M)[i]? := by rw [ht]
      rw [List.getElem?_take, if_pos (by omega), Array.getElem?_toList] at k
      rw [Nat.zero_add, e]
      simp only [World.cell?, hh, k]
      simp [cellsB, List.getD, hi2]
    · rw [e]; exact (h3 _ (getD_memP hi2)).1.bytes
theorem infoBs : ∃ i, Tryd.prog.info? 27 = some i ∧ i.zero = some (.slice none 0 0) ∧ i.size = 1 ∧ i.bytes = 24 := by
  have : (Tryd.prog.info? 27).map (fun i => (i.zero, i.size, i.bytes)) = some (some (.slice none 0 0), 1, 24) := by kernel_rfl
  cases h : Tryd.prog.info? 27 with
  | none => rw [h] at this; cases this
  | some i => rw [h] at this; simp at this; exact ⟨i, rfl, this.1, this.2.1, this.2.2⟩
theorem BO.mods {w w' : World} {S M : Nat → Prop} {v : Value} {L : List Pw} (h : BO w S v L) (hm : Mods M w w') (h5 : ∀ g cur fr, M g → w.heap[g]? = some (.cells cur 5 fr) → False) (hP : ∀ g cur fr, M g → w.heap[g]? = some (.cells cur 27 fr) → False) : BO w' S v L :=
  ⟨owns_keep h.1 (fun g hg => by
    obtain ⟨cur, hh⟩ := owns_kind h.1 hg
    exact hm.block g (owns_lt h.1 hg).1 (fun hM => hP g cur _ hM hh)), h.2.1, fun p hp => ⟨(h.2.2 p hp).1.mods hm h5, (h.2.2 p hp).2⟩⟩
theorem BO.later {w w' : World} {S : Nat → Prop} {v : Value} {L : List Pw} (h : BO w S v L) (hb : Below w.heap.size w w') : BO w' S v L :=
  h.mods (M := fun _ => False) (Mods.of_below hb) (fun _ _ _ h => h.elim) (fun _ _ _ h => h.elim)
theorem BO.push {w : World} {S : Nat → Prop} {v : Value} {M : List Pw} (h : BO w S v M) (p : Pw) (hp : By w (fun _ => True) p.a p.dat) (hc : p.dat.length ≤ p.c) (cb : Nat) (c1 : w.cell? ⟨cb, 0, none⟩ = some (.slice p.a p.dat.length p.c)) (cc : Nat) (hl : M.length ≤ 1000000) :
    ∃ a n c w', (Builtin.append_ #[89, 89] 89 #[v, .slice (some ⟨cb, 0, none⟩) 1 cc]).run Tryd.prog w = .ok (.slice a n c) w' ∧ n = M.length + 1 ∧ BO w' (fun b => S b ∨ b = w.heap.size) (.slice a n c) (M ++ [p]) ∧ Mods (fun b => v.ownBlock = some b) w w' := by
  obtain ⟨v', w', hap, ho, hm, hob⟩ := app_gen w 89 89 27 _ 24 Tryd.underlying89 infoBs rfl (by omega) v (cellsB M) M.length (by simp [cellsB]) h.1 ⟨cb, 0, none⟩ 1 cc [.slice p.a p.dat.length p.c] rfl (fun j u hj => by
    have hj2 : j < 1 := (List.getElem?_eq_some_iff.1 hj).1
    obtain rfl : j = 0 := by omega
    rw [add_addr, c1]
    simpa using hj) (by simp [Value.oneCell']) (by omega)
  obtain ⟨a, c, rfl⟩ := owns_slice ho
  have h5 := owns_other (t := 5) h.1 (by decide)
  refine ⟨a, M.length + 1, c, w', hap, rfl, ⟨?_, fun g hg => ?_, fun q hq => ?_⟩, hm⟩
  · have e : cellsB (M ++ [p]) = cellsB M ++ [.slice p.a p.dat.length p.c] := by simp [cellsB]
    rw [e, List.length_append]; exact ho
  · rcases hob with e | e
    · exact .inl (h.2.1 g (by rw [← e]; exact hg))
    · rw [e] at hg; simp at hg; exact .inr hg.symm
  · rcases List.mem_append.1 hq with h1 | h1
    · exact ⟨(h.2.2 q h1).1.mods hm h5, (h.2.2 q h1).2⟩
    · simp at h1; subst h1; exact ⟨hp.mods hm h5, hc⟩
theorem BO.weak {w : World} {S S' : Nat → Prop} {v : Value} {L : List Pw} (h : BO w S v L) (hk : ∀ b, S b → b < w.heap.size → S' b) : BO w S' v L :=
  ⟨h.1, fun g hg => hk g (h.2.1 g hg) (owns_lt h.1 hg).1, h.2.2⟩

theorem results_tct {fn : Func} {t u x : Tmp} {ty : TypeId} (h : fn.results = #[.tmp x, .cell t ty, .tmp u]) (tmps : Array Value) (w : World) (g : Nat) (cs : Array Value) (t' : TypeId) (fs : _) (hp : tmps.getD t undef = .pointer (some ⟨g, 0, none⟩))
    (hg : w.heap[g]? = some (.cells cs t' (0, 0))) (hu : Tryd.prog.underlying ty = some (.struct fs)) (hi : (Tryd.prog.info? ty).map (·.size) = some cs.size) :
    (results fn tmps).run Tryd.prog w = .ok (.tuple #[tmps.getD x undef, .agg cs, tmps.getD u undef]) w := by
  have hl := run_loadVar_row (P := Tryd.prog) w g t' ty cs (0, 0) _ hg hu rfl hi
  have hp' : tmps[t]?.getD undef = .pointer (some ⟨g, 0, none⟩) := by simpa using hp
  simp [results, h, hp', asAddr, hl]
theorem results_c {fn : Func} {t : Tmp} {ty : TypeId} (h : fn.results = #[.cell t ty]) (tmps : Array Value) (w : World) (g : Nat) (cs : Array Value) (t' : TypeId) (fs : _) (hp : tmps.getD t undef = .pointer (some ⟨g, 0, none⟩))
    (hg : w.heap[g]? = some (.cells cs t' (0, 0))) (hu : Tryd.prog.underlying ty = some (.struct fs)) (hi : (Tryd.prog.info? ty).map (·.size) = some cs.size) :
    (results fn tmps).run Tryd.prog w = .ok (.agg cs) w := by
  have hl := run_loadVar_row (P := Tryd.prog) w g t' ty cs (0, 0) _ hg hu rfl hi
  have hp' : tmps[t]?.getD undef = .pointer (some ⟨g, 0, none⟩) := by simpa using hp
  simp [results, h, hp', asAddr, hl]
theorem sizePut : (Tryd.prog.info? 29).map (·.size) = some 2 := by kernel_rfl
theorem set2 {w : World} {g : Nat} {x0 y0 : Value} {t : TypeId} (h : w.heap[g]? = some (.cells #[x0, y0] t (0, 0))) (x y : Value) : ((w.setCell ⟨g, 0, none⟩ x).setCell ⟨g, 1, none⟩ y).heap[g]? = some (.cells #[x, y] t (0, 0)) := setc (setc h 0 x) 1 y
set_option maxRecDepth 100000 in
set_option maxHeartbeats 1000000 in
theorem Record_no (w : World) (S : Nat → Prop) (a : Option Addr) (c : Nat) (L : List Pw) (seq : Int) (h : Ps w S a L) (hI : ∀ p ∈ L, p.blk < 9223372036854775808) (hl : L.length ≤ 1000000) (hbad : badG (L.map Pw.pt) ≠ 0) :
    Calls Tryd.prog 11 #[.int .u64 seq, .slice a L.length c] w fun e w' => e = .returned (.tuple #[.slice none 0 0, .agg #[.int .i64 0, .slice none 0 0], .int .i64 (badG (L.map Pw.pt))]) ∧ Below w.heap.size w w' := by
  obtain ⟨W, hW⟩ : ∃ W, W = w.alloc (.cells #[.int .i64 0, .slice none 0 0] 29) := ⟨_, rfl⟩
  have hb1 : Below w.heap.size w W := by rw [hW]; exact (Below.refl _ _).alloc (Nat.le_refl _) _
  have hh : W.heap[w.heap.size]? = some (.cells #[.int .i64 0, .slice none 0 0] 29 (0, 0)) := by rw [hW]; exact alloc_new w _
  have HC := hid (refusal_any W S a c L (h.later hb1) hI hl)
  have HB1 := hid hb1
  generalize badG (L.map Pw.pt) = E at *
  have hz2 : (E != 0) = true := by simpa using hbad
  have HH := hid hh
  clear h hbad hb1 hh
  go_enter Tryd.func11, Tryd.ntmps11
  go_wp2_with fail
  rw [← hW]
  clear hW
  refine HC.out.mono ?_
  rintro e w1 ⟨rfl, hb2⟩
  have hh : w1.heap[w.heap.size]? = some (.cells #[.int .i64 0, .slice none 0 0] 29 (0, 0)) := (hb2.block _ (Array.getElem?_eq_some_iff.1 HH.out).1).trans HH.out
  have hf := fun i => froz_of hh i
  have hc0 : w1.cell? ⟨w.heap.size, 0, none⟩ = some (.int .i64 0) := cell_of hh rfl
  have hc1 : w1.cell? ⟨w.heap.size, 1, none⟩ = some (.slice none 0 0) := cell_of hh rfl
  have HB2 : Hid (Below w.heap.size w w1) := hid (HB1.out.trans (hb2.mono HB1.out.size))
  have HW := hid (set2 hh (.int .i64 0) (.slice none 0 0))
  clear hb2 hh
  go_wp2
  exact bodyPost_ret (results_tct rfl _ _ _ _ _ _ rfl HW.out Tryd.underlying29 sizePut) rfl ⟨rfl, (HB2.out.setCell (Nat.le_refl _) _).setCell (Nat.le_refl _) _⟩

/-- What a group that may be is. -/
structure Good (l : List Pt) : Prop where
  pos : 0 < l.length
  many : l.length ≤ 64
  ok : ∀ p ∈ l, 0 ≤ p.blk ∧ p.blk < 4294967296 ∧ p.dat.length = 512
  once : (l.map Pt.blk).Nodup
theorem badFrom_zero {l : List Pt} : ∀ (k i : Nat), badFrom l i k = 0 → ∀ j, i ≤ j → j < i + k → badAt l j = 0
  | 0, i, _, j, h1, h2 => by omega
  | k + 1, i, h, j, h1, h2 => by
    rw [badFrom] at h
    split at h
    · rename_i e; exact absurd h e
    · rename_i e
      rcases Nat.lt_or_ge i j with e2 | e2
      · exact badFrom_zero k (i + 1) h j (by omega) (by omega)
      · obtain rfl : i = j := by omega
        simpa using e
theorem Good.of {l : List Pt} (h : badG l = 0) : Good l := by
  unfold badG at h
  split at h
  · cases h
  rename_i h0
  split at h
  · cases h
  rename_i h1
  have hz := badFrom_zero l.length 0 h
  have hat : ∀ j, j < l.length → badOf (l.getD j default).blk (l.getD j default).dat.length = 0 ∧ (l.getD j default).blk ∉ (l.take j).map Pt.blk := fun j hj => by
    have := hz j (Nat.zero_le _) (by omega)
    unfold badAt at this
    split at this
    · rename_i e; exact absurd this e
    · rename_i e
      split at this
      · cases this
      · rename_i e2; exact ⟨by simpa using e, e2⟩
  refine ⟨by omega, by omega, fun p hp => ?_, ?_⟩
  · obtain ⟨j, hj, rfl⟩ := List.getElem_of_mem hp
    have := (hat j hj).1
    simp only [List.getD, List.getElem?_eq_getElem hj, Option.getD_some] at this
    unfold badOf at this
    split at this
    · cases this
    · rename_i e
      split at this
      · cases this
      · rename_i e2
        exact ⟨by omega, by omega, by omega⟩
  · rw [List.nodup_iff_pairwise_ne, List.pairwise_iff_getElem]
    intro i j hi hj hij
    have hj2 : j < l.length := by simpa using hj
    have hi2 : i < l.length := by simpa using hi
    have := (hat j hj2).2
    intro e
    apply this
    simp only [List.getD, List.getElem?_eq_getElem hj2, Option.getD_some]
    rw [List.mem_map]
    refine ⟨l[i], ?_, by simpa using e⟩
    rw [List.mem_take_iff_getElem]
    exact ⟨i, by omega, rfl⟩
theorem badFrom_of {l : List Pt} : ∀ (k i : Nat), (∀ j, i ≤ j → j < i + k → badAt l j = 0) → badFrom l i k = 0
  | 0, _, _ => rfl
  | k + 1, i, h => by
    rw [badFrom_miss (h i (Nat.le_refl _) (by omega))]
    exact badFrom_of k (i + 1) (fun j h1 h2 => h j (by omega) (by omega))
theorem Good.bad {l : List Pt} (h : Good l) : badG l = 0 := by
  have h1 := h.pos
  have h2 := h.many
  unfold badG
  rw [if_neg (by omega), if_neg (by omega)]
  refine badFrom_of _ _ (fun j _ hj => ?_)
  have hj2 : j < l.length := by omega
  have e : l.getD j default = l[j] := by simp [List.getD, hj2]
  obtain ⟨o1, o2, o3⟩ := h.ok l[j] (List.getElem_mem hj2)
  have hz : badOf l[j].blk l[j].dat.length = 0 := by unfold badOf; rw [if_neg (by omega), if_neg (by omega)]
  unfold badAt
  rw [e, if_neg (by rw [hz]; simp), if_neg ?_]
  intro hm
  rw [List.mem_map] at hm
  obtain ⟨p, hp, hpe⟩ := hm
  rw [List.mem_take_iff_getElem] at hp
  obtain ⟨i, hi, rfl⟩ := hp
  have := List.nodup_iff_pairwise_ne.1 h.once
  rw [List.pairwise_iff_getElem] at this
  exact this i j (by simp; omega) (by simpa using hj2) (by omega) (by simpa using hpe)

set_option maxRecDepth 100000 in
set_option maxHeartbeats 2000000 in
theorem Record_ok (w : World) (S : Nat → Prop) (a : Option Addr) (c : Nat) (L : List Pw) (seq : Int) (h0 : 0 ≤ seq) (h1 : seq < 18446744073709551616) (h : Ps w S a L) (hg : Good (L.map Pw.pt)) (hT : Tab w) :
    Calls Tryd.prog 11 #[.int .u64 seq, .slice a L.length c] w fun e w' => ∃ v M a2, e = .returned (.tuple #[v, .agg #[.int .i64 ((L.length : Int) + 1), .slice a2 512 512], .int .i64 0]) ∧ PO w' (New w) v M ∧ M.map Pw.pt = recL seq (L.map Pw.pt) ∧ By w' (New w) a2 (endL seq (sumL seq (L.map Pw.pt))) ∧ Below w.heap.size w w' := by
  obtain ⟨W, hW⟩ : ∃ W, W = w.alloc (.cells #[.int .i64 0, .slice none 0 0] 29) := ⟨_, rfl⟩
  have hb1 : Below w.heap.size w W := by rw [hW]; exact (Below.refl _ _).alloc (Nat.le_refl _) _
  have hh : W.heap[w.heap.size]? = some (.cells #[.int .i64 0, .slice none 0 0] 29 (0, 0)) := by rw [hW]; exact alloc_new w _
  have hok : ∀ p ∈ L, 0 ≤ p.blk ∧ p.blk < 4294967296 ∧ p.dat.length = 512 := fun p hp => hg.ok p.pt (List.mem_map_of_mem hp)
  have hmany : L.length ≤ 64 := by have := hg.many; simpa using this
  have hbad := hg.bad
  have HC := hid (refusal_any W S a c L (h.later hb1) (fun p hp => by have := hok p hp; omega) (by omega))
  rw [hbad] at HC
  have HB1 := hid hb1
  have HH := hid hh
  have HP := hid h
  have HOK := hid hok
  have HT := hid hT
  obtain ⟨n, hn⟩ : ∃ n, n = L.length := ⟨_, rfl⟩
  have HN := hid hn
  rw [← hn] at hmany HC ⊢
  clear h hbad hb1 hh hok hg hT hn
  go_enter Tryd.func11, Tryd.ntmps11
  go_wp2_with fail
  rw [← hW]
  clear hW
  refine HC.out.mono ?_
  rintro e w1 ⟨rfl, hb2⟩
  have HH1 : Hid (w1.heap[w.heap.size]? = some (.cells #[.int .i64 0, .slice none 0 0] 29 (0, 0))) := hid ((hb2.block _ (Array.getElem?_eq_some_iff.1 HH.out).1).trans HH.out)
  have HB2 : Hid (Below w.heap.size w w1) := hid (HB1.out.trans (hb2.mono HB1.out.size))
  have hs1 : w.heap.size < w1.heap.size := (Array.getElem?_eq_some_iff.1 HH1.out).1
  have HC2 := hid (head_any w1 S a c L seq h0 h1 (HP.out.later HB2.out) (fun p hp => by have := HOK.out p hp; omega) (by rw [← HN.out]; exact hmany) (HT.out.later HB2.out))
  rw [← HN.out] at HC2
  clear hb2 HC HH HB1
  go_wp2_with fail
  refine HC2.out.mono ?_
  rintro e w2 ⟨g2, rfl, hy2, hb3⟩
  have HB3 : Hid (Below w.heap.size w w2) := hid (HB2.out.trans (hb3.mono HB2.out.size))
  have HH2 : Hid (w2.heap[w.heap.size]? = some (.cells #[.int .i64 0, .slice none 0 0] 29 (0, 0))) := hid ((hb3.block _ hs1).trans HH1.out)
  have hs2 : w.heap.size < w2.heap.size := Nat.lt_of_lt_of_le hs1 hb3.size
  have HY2 := hid (hy2.weak (S' := New w) (fun b hb _ => Nat.le_trans HB2.out.size hb))
  clear hb3 hy2 HC2
  obtain ⟨W3, hW3⟩ : ∃ W3, W3 = w2.alloc (.cells #[.int .i64 0, .slice (some ⟨g2, 0, none⟩) 512 512] 29) := ⟨_, rfl⟩
  have hh3 : W3.heap[w2.heap.size]? = some (.cells #[.int .i64 0, .slice (some ⟨g2, 0, none⟩) 512 512] 29 (0, 0)) := by rw [hW3]; exact alloc_new w2 _
  have hc3 : W3.cell? ⟨w2.heap.size, 1, none⟩ = some (.slice (some ⟨g2, 0, none⟩) 512 512) := cell_of hh3 rfl
  obtain ⟨W4, hW4⟩ : ∃ W4, W4 = W3.alloc (.cells #[.slice (some ⟨g2, 0, none⟩) 512 512] 27) := ⟨_, rfl⟩
  have hb3 : Below w2.heap.size w2 W3 := by rw [hW3]; exact (Below.refl _ _).alloc (Nat.le_refl _) _
  have hb4 : Below W3.heap.size W3 W4 := by rw [hW4]; exact (Below.refl _ _).alloc (Nat.le_refl _) _
  have hs3 : W3.heap.size = w2.heap.size + 1 := by rw [hW3]; simp
  have hh4 : W4.heap[W3.heap.size]? = some (.cells #[.slice (some ⟨g2, 0, none⟩) 512 512] 27 (0, 0)) := by rw [hW4]; exact alloc_new W3 _
  rw [hs3] at hh4
  have hb24 : Below w2.heap.size w2 W4 := hb3.trans (hb4.mono hb3.size)
  have HB4 : Hid (Below w.heap.size w W4) := hid (HB3.out.trans (hb24.mono HB3.out.size))
  have HH4 : Hid (W4.heap[w.heap.size]? = some (.cells #[.int .i64 0, .slice none 0 0] 29 (0, 0))) := hid ((hb24.block _ hs2).trans HH2.out)
  obtain ⟨HL, hHL⟩ : ∃ HL, HL = headL seq (L.map Pw.pt) := ⟨_, rfl⟩
  rw [← hHL] at HY2
  have hHLl : HL.length = 512 := by rw [hHL]; exact headL_len _ _ (by rw [List.length_map, ← HN.out]; exact hmany)
  have HY4 := HY2.out.later hb24
  have HPO : Hid (PO W4 (fun b => w.heap.size < b) (.slice (some ⟨w2.heap.size, 0, none⟩) 1 1) [⟨0, some ⟨g2, 0, none⟩, 512, HL⟩]) := hid (by
    refine ⟨⟨by simp [cellsP], .inr ⟨w2.heap.size, 1, #[.int .i64 0, .slice (some ⟨g2, 0, none⟩) 512 512], rfl, Nat.zero_le _, ?_, by simp, by simp [maxLen], rfl, by simp [cellsP, hHLl]⟩⟩, fun g hg => ?_, fun p hp => ?_⟩
    · exact (hb4.block _ (Array.getElem?_eq_some_iff.1 hh3).1).trans hh3
    · simp [Value.ownBlock] at hg; omega
    · simp at hp
      subst hp
      have hne : ∀ b, New w b → b < W4.heap.size → (w.heap.size < b ∨ b = w.heap.size) := fun b hb _ => by unfold New at hb; omega
      refine ⟨(HY4.off HH4.out (by decide)).weak (fun b hb _ => ?_), by simp [hHLl]⟩
      have h1 : w.heap.size ≤ b := hb.1
      have h2 := hb.2
      omega)
  have HBO : Hid (BO W4 (New w) (.slice (some ⟨w2.heap.size + 1, 0, none⟩) 1 1) [⟨0, some ⟨g2, 0, none⟩, 512, HL⟩]) := hid (by
    refine ⟨⟨by simp [cellsB], .inr ⟨w2.heap.size + 1, 1, #[.slice (some ⟨g2, 0, none⟩) 512 512], rfl, Nat.zero_le _, hh4, by simp, by simp [maxLen], rfl, by simp [cellsB, hHLl]⟩⟩, fun g hg => ?_, fun p hp => ?_⟩
    · simp [Value.ownBlock] at hg; unfold New; omega
    · simp at hp
      subst hp
      exact ⟨HY4.weak (fun _ _ _ => trivial), by simp [hHLl]⟩)
  have HHL := hid hHL
  have HHLl := hid hHLl
  clear hb3 hb4 hs3 hh3 hh4 hb24 HY4 hHL hHLl HY2 HH2 HB2 HH1 hs1 HB3
  go_wp2_with (first | rw [← hW4] | rw [← hW3])
  clear hc3
  clear hW4 hW3
  go_loopw [8, 9, 30] (fun v8 v9 z wr => ∃ (k : Nat) (M B : List Pw), k ≤ n ∧ z = .int .i64 k ∧ PO wr (fun b => w.heap.size < b) v8 M ∧ M.map Pw.pt = ⟨0, HL⟩ :: rowsFrom 1 ((L.map Pw.pt).take k) ∧ M.length = k + 1 ∧ BO wr (New w) v9 B ∧ B.map Pw.dat = HL :: ((L.map Pw.pt).take k).map Pt.dat ∧ B.length = k + 1 ∧ Below w.heap.size w wr ∧ wr.heap[w.heap.size]? = some (.cells #[.int .i64 0, .slice none 0 0] 29 (0, 0))) (fun _ _ z _ => n - (RowKit.intOf z).toNat)
  case atStart => exact ⟨0, _, _, Nat.zero_le _, rfl, HPO.out, rfl, rfl, HBO.out, rfl, rfl, HB4.out, HH4.out⟩
  case round =>
    obtain ⟨k, M, B, hk, rfl, hpo, hM, hMl, hbo, hB, hBl, hb, hh⟩ := hrel
    have HPO1 := hid hpo
    have HBO1 := hid hbo
    have HM := hid hM
    have HML := hid hMl
    have HBE := hid hB
    have HBL := hid hBl
    have HB := hid hb
    have HH := hid hh
    obtain ⟨a8, c8, e8, _, _⟩ := hpo.ps
    obtain ⟨a9, c9, e9, _⟩ := hbo.rows
    rw [hMl] at e8
    rw [hBl] at e9
    subst e8 e9
    clear hpo hbo hM hMl hB hBl hh HPO HBO HB4 HH4
    by_cases hlt : k < n
    · have hki : (k : Int) < n := by omega
      have hkL : k < L.length := by rw [← HN.out]; exact hlt
      obtain ⟨gl, off, ha, _, hc0, hc1⟩ := HP.out.at_ hkL
      subst ha
      replace hc0 := cell_later hb hc0
      replace hc1 := cell_later hb hc1
      have hPl := (HOK.out _ (getD_memP hkL)).2.2
      have HPD := hid (HP.out.dat hkL)
      have HSN : Hid ((L.map Pw.pt).take (k + 1) = (L.map Pw.pt).take k ++ [(L.getD k default).pt]) := hid (by rw [List.take_succ_eq_append_getElem (by simpa using hkL)]; simp [List.getD, hkL])
      have HTL : Hid (((L.map Pw.pt).take k).length = k) := hid (by simp; omega)
      rw [hPl] at hc1
      generalize L.getD k default = P at *
      have HPL := hid hPl
      clear hb hPl
      obtain ⟨W5, hW5⟩ : ∃ W5, W5 = wr.alloc (.cells #[.int .i64 P.blk, .slice P.a 512 P.c] 29) := ⟨_, rfl⟩
      have HB5 : Hid (Below wr.heap.size wr W5) := hid (by rw [hW5]; exact (Below.refl _ _).alloc (Nat.le_refl _) _)
      have HH5 : Hid (W5.heap[wr.heap.size]? = some (.cells #[.int .i64 P.blk, .slice P.a 512 P.c] 29 (0, 0))) := hid (by rw [hW5]; exact alloc_new wr _)
      have hc5 : W5.cell? ⟨wr.heap.size, 1, none⟩ = some (.slice P.a 512 P.c) := cell_of HH5.out rfl
      have HC5 := hid (Clone_any W5 S P.a 512 P.c P.dat HPL.out (by omega) (by omega) ((HPD.out.1.later HB.out).later HB5.out))
      go_wp2_with (rw [← hW5])
      clear hW5
      refine HC5.out.mono ?_
      rintro e w6 ⟨a6, c6, rfl, hc6, hy6, hb6, _⟩
      have HB56 := hid hb6
      have HH6 : Hid (w6.heap[wr.heap.size]? = some (.cells #[.int .i64 P.blk, .slice P.a 512 P.c] 29 (0, 0))) := hid ((hb6.block _ (Array.getElem?_eq_some_iff.1 HH5.out).1).trans HH5.out)
      have hs5 : wr.heap.size < w6.heap.size := (Array.getElem?_eq_some_iff.1 HH6.out).1
      have hb06 : Below wr.heap.size wr w6 := HB5.out.trans (hb6.mono HB5.out.size)
      have HB06 := hid hb06
      have hws : w.heap.size < wr.heap.size := (Array.getElem?_eq_some_iff.1 HH.out).1
      obtain ⟨W7, hW7⟩ : ∃ W7, W7 = w6.alloc (.cells #[.int .i64 ((k : Int) + 1), .slice a6 512 c6] 29) := ⟨_, rfl⟩
      have hb7 : Below w6.heap.size w6 W7 := by rw [hW7]; exact (Below.refl _ _).alloc (Nat.le_refl _) _
      have hh7 : W7.heap[w6.heap.size]? = some (.cells #[.int .i64 ((k : Int) + 1), .slice a6 512 c6] 29 (0, 0)) := by rw [hW7]; exact alloc_new w6 _
      have hb07 : Below wr.heap.size wr W7 := hb06.trans (hb7.mono hb06.size)
      have hy7 : By W7 (fun b => w.heap.size < b) a6 P.dat := (hy6.later hb7).weak (fun b hb _ => by have h1 := HB5.out.size; have h2 : W5.heap.size ≤ b := hb; omega)
      obtain ⟨a8', n8, c8', w8, hap8, hn8, hpo8, hm8, hob8⟩ := PO.push (HPO1.out.later hb07) ⟨(k : Int) + 1, a6, c6, P.dat⟩ hy7 (by simp only; rw [HPL.out]; exact hc6) w6.heap.size 0 (cell_of hh7 rfl) (by simp only; rw [HPL.out]; exact cell_of hh7 rfl) 1 (by rw [HML.out]; omega) 25
      have HN8 := hid hn8
      have hm8' : Mods (fun b => (Value.slice a8 (k + 1) c8).ownBlock = some b) W7 w8 := hm8
      have hown : ∀ b, (Value.slice a8 (k + 1) c8).ownBlock = some b → b < wr.heap.size ∧ w.heap.size < b := fun b hb => ⟨(owns_lt HPO1.out.1 hb).1, HPO1.out.2.1 b hb⟩
      have hb8 : Below w.heap.size w w8 := hm8'.to_below (HB.out.trans (hb07.mono HB.out.size)) (Nat.le_trans HB.out.size hb07.size) (fun b hb => Nat.le_of_lt (hown b hb).2)
      have hh8 : w8.heap[wr.heap.size]? = some (.cells #[.int .i64 P.blk, .slice P.a 512 P.c] 29 (0, 0)) :=
        (hm8'.block _ (Nat.lt_of_lt_of_le hs5 hb7.size) (fun e => by have := (hown _ e).1; omega)).trans ((hb7.block _ hs5).trans HH6.out)
      have hh08 : w8.heap[w.heap.size]? = some (.cells #[.int .i64 0, .slice none 0 0] 29 (0, 0)) :=
        (hm8'.block _ (by have := hb07.size; omega) (fun e => by have := (hown _ e).2; omega)).trans ((hb07.block _ hws).trans HH.out)
      have hbo8 : BO w8 (New w) (.slice a9 (k + 1) c9) B := (HBO1.out.later hb07).mods hm8 (owns_other (HPO1.out.later hb07).1 (by decide)) (owns_other (HPO1.out.later hb07).1 (by decide))
      have hc8' : w8.cell? ⟨wr.heap.size, 1, none⟩ = some (.slice P.a 512 P.c) := cell_of hh8 rfl
      obtain ⟨W9, hW9⟩ : ∃ W9, W9 = w8.alloc (.cells #[.slice P.a 512 P.c] 27) := ⟨_, rfl⟩
      have hb9 : Below w8.heap.size w8 W9 := by rw [hW9]; exact (Below.refl _ _).alloc (Nat.le_refl _) _
      have hh9 : W9.heap[w8.heap.size]? = some (.cells #[.slice P.a 512 P.c] 27 (0, 0)) := by rw [hW9]; exact alloc_new w8 _
      have hbw9 : Below w.heap.size w W9 := hb8.trans (hb9.mono hb8.size)
      obtain ⟨a10, n10, c10, w10, hap10, hn10, hbo10, hm10⟩ := BO.push (hbo8.later hb9) P ((HPD.out.1.later hbw9).weak (fun _ _ _ => trivial)) HPD.out.2 w8.heap.size (by rw [HPL.out]; exact cell_of hh9 rfl) 1 (by rw [HBL.out]; omega)
      have HN10 := hid hn10
      have hown9 : ∀ b, (Value.slice a9 (k + 1) c9).ownBlock = some b → w.heap.size ≤ b := fun b hb => HBO1.out.2.1 b hb
      have HB10 : Hid (Below w.heap.size w w10) := hid (hm10.to_below hbw9 hbw9.size hown9)
      have hoth := owns_other (t := 29) (hbo8.later hb9).1 (by decide)
      have HH10 : Hid (w10.heap[w.heap.size]? = some (.cells #[.int .i64 0, .slice none 0 0] 29 (0, 0))) := hid (by
        have e1 : W9.heap[w.heap.size]? = some (.cells #[.int .i64 0, .slice none 0 0] 29 (0, 0)) := (hb9.block _ (Array.getElem?_eq_some_iff.1 hh08).1).trans hh08
        exact (hm10.block _ (Array.getElem?_eq_some_iff.1 e1).1 (fun e => hoth _ _ _ e e1)).trans e1)
      have HPO10 : Hid (PO w10 (fun b => w.heap.size < b) (.slice a8' n8 c8') (M ++ [⟨(k : Int) + 1, a6, c6, P.dat⟩])) := hid
        (((hpo8.weak (S' := fun b => w.heap.size < b) (fun b hb _ => by rcases hb with h1 | h1; exact h1; have := hb07.size; omega)).later hb9).mods hm10 (owns_other (hbo8.later hb9).1 (by decide)) hoth)
      have HBO10 : Hid (BO w10 (New w) (.slice a10 n10 c10) (B ++ [P])) := hid (hbo10.weak (fun b hb _ => by rcases hb with h1 | h1; exact h1; unfold New; have := hbw9.size; omega))
      clear hc6 hy6 hb6 hb06 hs5 hb7 hh7 hb07 hy7 hpo8 hm8 hm8' hob8 hn8 hown hb8 hh8 hh08 hbo8 hb9 hh9 hbw9 hbo10 hm10 hn10 hown9 hoth HC5 hc5
      go_wp2_with (first | rw [← hW7] | rw [← hW9] | (at_builtin; first | refine wpList_append_run rfl _ _ 25 rfl rfl rfl hap8 ?_ | refine wpList_append_run rfl _ _ 89 rfl rfl rfl hap10 ?_))
      go_roundw
      case rel =>
        refine ⟨k + 1, _, _, by omega, by go_num, HPO10.out, ?_, by simp [HML.out], HBO10.out, ?_, by simp [HBL.out], HB10.out, HH10.out⟩
        · rw [List.map_append, HM.out, HSN.out, rowsFrom_snoc, HTL.out]
          simp [Pw.pt]
          omega
        · rw [List.map_append, HBE.out, HSN.out]
          simp [Pw.pt]
      case measure => simp [RowKit.intOf]; omega
    · have hki : ¬ ((k : Int) < n) := by omega
      obtain rfl : k = n := by omega
      have e1 : (L.map Pw.pt).take k = L.map Pw.pt := List.take_of_length_le (by rw [List.length_map, ← HN.out]; exact Nat.le_refl _)
      have hM := HM.out
      have hB := HBE.out
      rw [e1] at hM hB
      have hfl : (B.map Pw.dat).flatten = HL ++ datL (L.map Pw.pt) := by rw [hB]; rfl
      have hdl : (datL (L.map Pw.pt)).length = 512 * L.length := by
        unfold datL
        rw [List.map_map]
        have : ∀ (K : List Pw), (∀ p ∈ K, p.dat.length = 512) → (K.map (Pt.dat ∘ Pw.pt)).flatten.length = 512 * K.length := by
          intro K
          induction K with
          | nil => intro _; rfl
          | cons x K ih =>
            intro hK
            simp only [List.map_cons, List.flatten_cons, List.length_append, List.length_cons]
            rw [ih (fun p hp => hK p (by simp [hp]))]
            have := hK x (by simp)
            simp only [Function.comp, Pw.pt, this]
            omega
        exact this L (fun p hp => (HOK.out p hp).2.2)
      obtain ⟨a9', c9', e9, hro⟩ := HBO1.out.rows
      simp only [Value.slice.injEq] at e9
      obtain ⟨rfl, e9b, rfl⟩ := e9
      clear e9b
      have hcrc := crc_any a9 c9 (B.map Pw.dat) wr (by rw [List.length_map, HBL.out]; omega) (by rw [hfl, List.length_append, HHLl.out, hdl, ← HN.out]; omega) hro (HT.out.later HB.out)
      rw [hfl, List.length_map, HBL.out] at hcrc
      have EC : 4294967295 - crcOn 4294967295 (HL ++ datL (L.map Pw.pt)) = sumL seq (L.map Pw.pt) := by unfold sumL crcL; rw [← HHL.out]
      rw [EC] at hcrc
      have hbd := crcL_bd (headL seq (L.map Pw.pt) ++ datL (L.map Pw.pt)) (fun x hx => by
        rcases List.mem_append.1 hx with h | h
        · exact headL_isB _ _ x h
        · unfold datL at h
          rw [List.mem_flatten] at h
          obtain ⟨l1, hl1, hx1⟩ := h
          rw [List.map_map, List.mem_map] at hl1
          obtain ⟨p, hp, rfl⟩ := hl1
          exact (HP.out.1 p hp).1.isB x hx1)
      have hbd' : 0 ≤ sumL seq (L.map Pw.pt) ∧ sumL seq (L.map Pw.pt) < 4294967296 := hbd
      have HCRC := hid hcrc
      have HEM : Hid (M.map Pw.pt = recL seq (L.map Pw.pt)) := hid (by rw [hM, HHL.out]; rfl)
      obtain ⟨sm, hsm⟩ : ∃ sm, sm = sumL seq (L.map Pw.pt) := ⟨_, rfl⟩
      rw [← hsm] at hbd' HCRC
      have HSM := hid hsm
      clear hsm
      have hsm0 := hbd'.1
      have hsm1 := hbd'.2
      have HCE := hid (end_any wr seq sm h0 h1 hsm0 hsm1)
      clear e1 hM hB hfl hdl hro hcrc EC hbd hbd' hb
      go_wp2_with (first | (go_at_call 43; refine HCRC.out.mono ?_; rintro e w11 ⟨rfl, hw11⟩; rw [hw11]; clear hw11) | fail)
      refine HCE.out.mono ?_
      rintro e w12 ⟨g12, rfl, hy12, hb12⟩
      have hh : w12.heap[w.heap.size]? = some (.cells #[.int .i64 0, .slice none 0 0] 29 (0, 0)) := (hb12.block _ (Array.getElem?_eq_some_iff.1 HH.out).1).trans HH.out
      have hf := fun i => froz_of hh i
      have hc0 : w12.cell? ⟨w.heap.size, 0, none⟩ = some (.int .i64 0) := cell_of hh rfl
      have hc1 : w12.cell? ⟨w.heap.size, 1, none⟩ = some (.slice none 0 0) := cell_of hh rfl
      have HB12 : Hid (Below w.heap.size w w12) := hid (HB.out.trans (hb12.mono HB.out.size))
      have hW := set2 hh (.int .i64 ((k : Int) + 1)) (.slice (some ⟨g12, 0, none⟩) 512 512)
      have hmo : Mods (fun b => b = w.heap.size) w12 ((w12.setCell ⟨w.heap.size, 0, none⟩ (.int .i64 ((k : Int) + 1))).setCell ⟨w.heap.size, 1, none⟩ (.slice (some ⟨g12, 0, none⟩) 512 512)) := ((Mods.refl (fun b => b = w.heap.size) w12).setCell w.heap.size 0 _ rfl).setCell w.heap.size 1 _ rfl
      have hk5 : ∀ g cur fr, g = w.heap.size → w12.heap[g]? = some (.cells cur 5 fr) → False := fun g cur fr e e2 => by subst e; rw [hh] at e2; simp at e2
      have HY := hid ((hy12.mods hmo hk5).weak (S' := New w) (fun b hb _ => by have h2 := HB.out.size; have h3 : wr.heap.size ≤ b := hb; unfold New; omega))
      have HPO12 := hid (((HPO1.out.later hb12).keep (w' := (w12.setCell ⟨w.heap.size, 0, none⟩ (.int .i64 ((k : Int) + 1))).setCell ⟨w.heap.size, 1, none⟩ (.slice (some ⟨g12, 0, none⟩) 512 512)) (fun b hb hl => hmo.block b hl (by omega))).weak (S' := New w) (fun b hb _ => Nat.le_of_lt hb))
      have HW := hid hW
      clear hy12 hb12 hh hW hmo hk5 HCE HCRC
      go_wp2
      refine bodyPost_ret (results_tct rfl _ _ _ _ _ _ rfl HW.out Tryd.underlying29 sizePut) rfl ⟨_, M, _, rfl, HPO12.out, HEM.out, by rw [← HSM.out]; exact HY.out, (HB12.out.setCell (Nat.le_refl _) _).setCell (Nat.le_refl _) _⟩
end Go.Proofs.YtoifeioijoancaaDoor
