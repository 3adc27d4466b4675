/- Small functions: Clone, Contains, refusalOf, refusal, filledUp. -/
import Derived.Test.YtoifeioijoancaaDoorWbA
import Derived.Test.YtoifeioijoancaaDoorCcB
namespace Go.Proofs.YtoifeioijoancaaDoor
open Go.RowKit Go.Maps
set_option linter.unusedVariables false

theorem bcell {W w1 : World} (hb : Below W.heap.size W w1) : (∀ b o, b < W.heap.size → w1.cell? ⟨b, o, none⟩ = W.cell? ⟨b, o, none⟩) ∧ (∀ b o, b < W.heap.size → w1.frozen? ⟨b, o, none⟩ = W.frozen? ⟨b, o, none⟩) :=
  ⟨fun b o h => hb.cell (p := ⟨b, o, none⟩) h, fun b o h => hb.frozen (p := ⟨b, o, none⟩) h⟩
theorem info5b : ∃ i, Tryd.prog.info? 5 = some i ∧ i.zero = some (.int .u8 0) ∧ i.size = 1 ∧ i.bytes = 1 := by
  have := info5
  cases h : Tryd.prog.info? 5 with
  | none => rw [h] at this; cases this
  | some i => rw [h] at this; simp at this; exact ⟨i, rfl, this.1, this.2.1, this.2.2⟩
theorem info3b : ∃ i, Tryd.prog.info? 3 = some i ∧ i.zero = some (.int .i64 0) ∧ i.size = 1 ∧ i.bytes = 8 := by
  have : (Tryd.prog.info? 3).map (fun i => (i.zero, i.size, i.bytes)) = some (some (.int .i64 0), 1, 8) := by kernel_rfl
  cases h : Tryd.prog.info? 3 with
  | none => rw [h] at this; cases this
  | some i => rw [h] at this; simp at this; exact ⟨i, rfl, this.1, this.2.1, this.2.2⟩
theorem u8s_one (l : List Int) : ∀ u ∈ u8s l, u.oneCell' = true := by
  intro u hu
  obtain ⟨e, _, rfl⟩ := List.mem_map.1 hu
  rfl
/-- What is new. -/
def New (w : World) : Nat → Prop := fun b => w.heap.size ≤ b
theorem New.mono {w w' : World} (h : w.heap.size ≤ w'.heap.size) : ∀ b, New w' b → New w b := fun b hb => Nat.le_trans h hb
set_option maxRecDepth 100000 in
set_option maxHeartbeats 1000000 in
/-- slices.Clone of bytes. -/
theorem Clone_any (w : World) (S : Nat → Prop) (a : Option Addr) (n c : Nat) (l : List Int) (hn : l.length = n) (hp : 0 < n) (hl : n ≤ 1000000) (h : By w S a l) :
    Calls Tryd.prog 41 #[.slice a n c] w fun e w' => ∃ a' c', e = .returned (.slice a' n c') ∧ n ≤ c' ∧ By w' (New w) a' l ∧ Below w.heap.size w w' ∧ w'.ownsRow w.heap.size 5 1 (.slice a' n c') n (u8s l) := by
  have hI := h.isB
  obtain ⟨b, o, cur, fr, rfl, hs, hh, hcur⟩ := h.2 (by omega)
  have qT : ∀ (w : World) (a : Option Addr) (n c n' c' : Nat), (binOp .eql 27 (.slice a n c) (.slice none n' c')).run Tryd.prog w = .ok (.bool a.isNone) w := fun w a n c n' c' => Lib.run_eql_slice_nil w _ _ a n c n' c' Tryd.underlying27
  obtain ⟨W1, hW1⟩ : ∃ W1, W1 = w.alloc (.cells #[] 5) := ⟨_, rfl⟩
  have hb1 : Below w.heap.size w W1 := by rw [hW1]; exact (Below.refl _ _).alloc (Nat.le_refl _) _
  have hr1 : W1.ownsRow 0 5 1 (.slice (some ⟨w.heap.size, 0, none⟩) 0 0) 0 [] := by
    refine owns_of_block (cur := #[]) (by rw [hW1]; exact alloc_new w _) (by omega) (by unfold maxLen; omega) rfl (fun j hj => by omega) rfl
  have hB1 : ∀ j v, (u8s l)[j]? = some v → W1.cell? ((⟨b, o, none⟩ : Addr).add j) = some v := fun j v hj => by
    have hj2 : j < l.length := by have := (List.getElem?_eq_some_iff.1 hj).1; simpa using this
    rw [add_addr]
    refine cell_later hb1 ?_
    rw [u8s_get hj2] at hj
    simp [World.cell?, hh, hcur j hj2]
    simpa using hj
  obtain ⟨v', w2, hap, ho, hm, hob⟩ := app_gen W1 27 27 5 _ 1 Tryd.underlying27 info5b rfl (by omega) _ [] 0 rfl hr1 ⟨b, o, none⟩ n c (u8s l) (by simp [hn]) hB1 (u8s_one l) (by omega)
  have hs1 : W1.heap.size = w.heap.size + 1 := by rw [hW1]; simp
  have HR0 : w2.ownsRow w.heap.size 5 1 v' n (u8s l) := by
    have := owns_base (base' := w.heap.size) ho (fun g hg => by
      rcases hob with e | e
      · rw [e] at hg; simp [Value.ownBlock] at hg; omega
      · rw [e] at hg; simp at hg; omega)
    rw [Nat.zero_add] at this
    exact this
  obtain ⟨a', c', e', hc', _, hBy⟩ := By.of_owns (S := New w) HR0 hI (fun g hg => (owns_lt HR0 hg).2)
  subst e'
  have HB : Hid (Below w.heap.size w w2) := hid (hm.to_below hb1 hb1.size (fun g hg => by simp [Value.ownBlock] at hg; omega))
  have HR := hid HR0
  have HBY := hid hBy
  rw [Nat.zero_add] at ho
  clear hb1 hr1 hB1 ho hm hob hs1 h hh hcur HR0 hBy hI
  go_enter Tryd.func41, Tryd.ntmps41
  go_wp2_with (at_builtin; rw [← hW1]; refine wpList_append_run rfl _ _ 27 rfl rfl rfl hap ?_)
  go_ret
  exact ⟨a', c', rfl, hc', HBY.out, HB.out, HR.out⟩

/-! ### Index, Contains -/
def idx (l : List Int) (x : Int) : Int := if x ∈ l then (l.idxOf x : Nat) else -1
theorem take_snocI {l : List Int} {k : Nat} (h : k < l.length) {x : Int} (h1 : x ∉ l.take k) (h2 : l.getD k 0 ≠ x) : x ∉ l.take (k + 1) := by
  rw [take_snoc l k h]
  simp only [List.mem_append, List.mem_singleton, not_or]
  exact ⟨h1, fun e => h2 e.symm⟩
theorem idx_at {l : List Int} {x : Int} {k : Nat} (h : k < l.length) (h1 : x ∉ l.take k) (h2 : l.getD k 0 = x) : idx l x = k := by
  have hm : x ∈ l := by
    rw [← h2]
    simp [List.getD, h]
  unfold idx
  rw [if_pos hm]
  have e : l = l.take k ++ (x :: l.drop (k + 1)) := by
    conv => lhs; rw [← List.take_append_drop k l]
    rw [List.drop_eq_getElem_cons h]
    congr 2
    simpa [List.getD, h] using h2
  rw [e, List.idxOf_append, if_neg h1]
  simp
  omega
theorem idx_none {l : List Int} {x : Int} (h : x ∉ l) : idx l x = -1 := by unfold idx; rw [if_neg h]
theorem idx_nonneg (l : List Int) (x : Int) : decide (0 ≤ idx l x) = decide (x ∈ l) := by
  unfold idx
  split
  · rename_i h; simp [h]
  · rename_i h; simp [h]
set_option maxRecDepth 100000 in
set_option maxHeartbeats 1000000 in
theorem Index_any (w : World) (v : Value) (l : List Int) (x : Int) (base : Nat) (h : w.ownsRow base 3 1 v l.length (ints l)) (hl : l.length ≤ 1099511627776) :
    Calls Tryd.prog 86 #[v, .int .i64 x] w fun e w' => e = .returned (.int .i64 (idx l x)) ∧ w' = w := by
  obtain ⟨a, c, rfl⟩ := owns_slice h
  have HC : Hid (∀ j, j < l.length → ∃ g, a = some ⟨g, 0, none⟩ ∧ w.cell? ⟨g, j, none⟩ = some (.int .i64 (l.getD j 0))) := hid (fun j hj => by
    obtain ⟨g, c', e, hc, _⟩ := owns_int h hj
    simp only [Value.slice.injEq] at e
    exact ⟨g, e.1, hc⟩)
  obtain ⟨len, hln⟩ : ∃ len, len = l.length := ⟨_, rfl⟩
  rw [← hln] at hl HC ⊢
  have HL := hid hln
  obtain ⟨r, hr⟩ : ∃ r, r = idx l x := ⟨_, rfl⟩
  rw [← hr]
  have HR := hid hr
  clear h hln hr
  go_enter Tryd.func86, Tryd.ntmps86
  go_wp2
  go_loopw [8] (fun z wr => ∃ j : Nat, j ≤ len ∧ z = .int .i64 j ∧ wr = w ∧ x ∉ l.take j) (fun z _ => len - (RowKit.intOf z).toNat)
  case atStart => exact ⟨0, Nat.zero_le _, rfl, rfl, by simp⟩
  case round =>
    obtain ⟨k, hj, rfl, hww, hx⟩ := hrel
    subst hww
    have HX := hid hx
    clear hx
    by_cases hlt : k < len
    · have hki : (k : Int) < len := by omega
      obtain ⟨g, ha, hc⟩ := HC.out k hlt
      subst ha
      have hkl : k < l.length := by rw [← HL.out]; exact hlt
      have HI := hid (@idx_at l x k hkl HX.out)
      have HT := hid (@take_snocI l k hkl x HX.out)
      generalize l.getD k 0 = y at *
      by_cases hxy : x = y
      · subst hxy
        have HI2 := hid (HI.out rfl)
        clear HI HT
        go_wp2
        go_ret
        exact ⟨by rw [HR.out, HI2.out]; rfl, rfl⟩
      · go_wp2
        go_roundw
        case rel => exact ⟨k + 1, by omega, by go_num, by first | trivial | rfl, HT.out (fun e => hxy e.symm)⟩
        case measure => simp [RowKit.intOf]; omega
    · have hki : ¬ ((k : Int) < len) := by omega
      obtain rfl : k = len := by omega
      go_wp2
      go_ret
      exact ⟨by rw [HR.out, idx_none (by have := HX.out; rwa [HL.out, List.take_length] at this)]; rfl, rfl⟩
theorem Contains_any (w : World) (v : Value) (l : List Int) (x : Int) (base : Nat) (h : w.ownsRow base 3 1 v l.length (ints l)) (hl : l.length ≤ 1099511627776) :
    Calls Tryd.prog 71 #[v, .int .i64 x] w fun e w' => e = .returned (.bool (decide (x ∈ l))) ∧ w' = w := by
  have hcon := hid (Index_any w v l x base h hl)
  rw [← idx_nonneg]
  clear h
  generalize idx l x = r at *
  go_enter Tryd.func71, Tryd.ntmps71
  go_wp2_with (go_at_call 86; refine hcon.out.mono ?_; rintro e w1 ⟨rfl, rfl⟩)
  go_ret
  exact ⟨rfl, rfl⟩
/-- A number is put behind a row of a call's own. -/
theorem push_own (w : World) (B : Nat) (v : Value) (l : List Int) (h : w.ownsRow B 3 1 v l.length (ints l)) (hB : B ≤ w.heap.size) (x : Int) (hl : l.length ≤ 1000000) :
    ∃ a n c w', (Builtin.append_ #[37, 37] 37 #[v, .slice (some ⟨w.heap.size, 0, none⟩) 1 1]).run Tryd.prog (w.alloc (.cells #[.int .i64 x] 3)) = .ok (.slice a n c) w' ∧ n = l.length + 1 ∧ w'.ownsRow B 3 1 (.slice a n c) (l ++ [x]).length (ints (l ++ [x])) ∧ Mods (fun b => v.ownBlock = some b) w w' := by
  have hb1 : Below w.heap.size w (w.alloc (.cells #[.int .i64 x] 3)) := (Below.refl _ _).alloc (Nat.le_refl _) _
  have hs1 : (w.alloc (.cells #[.int .i64 x] 3)).heap.size = w.heap.size + 1 := by simp
  have hr1 : (w.alloc (.cells #[.int .i64 x] 3)).ownsRow 0 3 1 v l.length (ints l) := owns_zero (owns_keep h (fun g hg => hb1.block g (owns_lt h hg).1))
  obtain ⟨v', w', hap, ho, hm, hob⟩ := app_gen (w.alloc (.cells #[.int .i64 x] 3)) 37 37 3 _ 8 Tryd.underlying37 info3b rfl (by omega) v (ints l) l.length (by simp) hr1 ⟨w.heap.size, 0, none⟩ 1 1 [.int .i64 x] rfl (fun j u hj => by
    have hj2 : j < 1 := (List.getElem?_eq_some_iff.1 hj).1
    obtain rfl : j = 0 := by omega
    rw [add_addr, new_cell _ _ _ _ 0 (by simp)]
    simpa using hj) (by simp [Value.oneCell']) (by omega)
  obtain ⟨a, c, rfl⟩ := owns_slice ho
  refine ⟨a, l.length + 1, c, w', hap, rfl, ?_, (Mods.of_below hb1).tr hm⟩
  have h2 := owns_base (base' := B) ho (fun g hg => by
    rcases hob with e | e
    · rw [e] at hg; exact (owns_lt h hg).2
    · rw [e] at hg; simp at hg; omega)
  simpa [ints] using h2

/-! ### refusalOf, refusal -/
set_option maxRecDepth 100000 in
set_option maxHeartbeats 1000000 in
theorem refusalOf_any (w : World) (blk : Int) (a : Option Addr) (n c : Nat) (hb : blk < 9223372036854775808) :
    Calls Tryd.prog 59 #[.agg #[.int .i64 blk, .slice a n c]] w fun e w' => e = .returned (.int .i64 (badOf blk n)) ∧ Below w.heap.size w w' := by
  have hbel : Hid (Below w.heap.size w (w.alloc (.cells #[.int .i64 blk, .slice a n c] 29))) := hid ((Below.refl _ _).alloc (Nat.le_refl _) _)
  unfold badOf
  by_cases h0 : blk < 0
  · rw [if_pos (.inl h0)]
    go_enter Tryd.func59, Tryd.ntmps59
    go_wp2
    go_ret
    exact ⟨rfl, hbel.out⟩
  · by_cases h1 : 4294967295 < blk
    · rw [if_pos (.inr h1)]
      go_enter Tryd.func59, Tryd.ntmps59
      go_wp2
      go_ret
      exact ⟨rfl, hbel.out⟩
    · rw [if_neg (by omega)]
      by_cases h2 : n = 512
      · subst h2
        go_enter Tryd.func59, Tryd.ntmps59
        go_wp2
        go_ret
        exact ⟨rfl, hbel.out⟩
      · rw [if_pos h2]
        have h3 : ((n : Int) != 512) = true := by simp; omega
        go_enter Tryd.func59, Tryd.ntmps59
        go_wp2
        go_ret
        exact ⟨rfl, hbel.out⟩
theorem badFrom_hit {l : List Pt} {i k : Nat} (h : badAt l i ≠ 0) : badFrom l i (k + 1) = badAt l i := by rw [badFrom, if_pos h]
theorem badFrom_miss {l : List Pt} {i k : Nat} (h : badAt l i = 0) : badFrom l i (k + 1) = badFrom l (i + 1) k := by rw [badFrom, if_neg (by simp [h])]
theorem blks_take (L : List Pw) (k : Nat) (h : k < L.length) : ((L.map Pw.pt).take (k + 1)).map Pt.blk = ((L.map Pw.pt).take k).map Pt.blk ++ [(L.getD k default).blk] := by
  rw [List.take_succ_eq_append_getElem (by simpa using h), List.map_append]
  simp [List.getD, h, Pw.pt]
set_option maxRecDepth 100000 in
set_option maxHeartbeats 2000000 in
theorem refusal_any (w : World) (S : Nat → Prop) (a : Option Addr) (c : Nat) (L : List Pw) (h : Ps w S a L) (hI : ∀ p ∈ L, p.blk < 9223372036854775808) (hl : L.length ≤ 1000000) :
    Calls Tryd.prog 39 #[.slice a L.length c] w fun e w' => e = .returned (.int .i64 (badG (L.map Pw.pt))) ∧ Below w.heap.size w w' := by
  unfold badG
  rw [List.length_map]
  by_cases h0 : L.length = 0
  · rw [if_pos h0, h0]
    go_enter Tryd.func39, Tryd.ntmps39
    go_wp2
    go_ret
    exact ⟨rfl, Below.refl _ _⟩
  rw [if_neg h0]
  by_cases h1 : 64 < L.length
  · rw [if_pos h1]
    generalize L.length = n at *
    have g0 : ((n : Int) == 0) = false := by simp; omega
    have g1 : (64 : Int) < n := by omega
    go_enter Tryd.func39, Tryd.ntmps39
    go_wp2
    go_ret
    exact ⟨rfl, Below.refl _ _⟩
  rw [if_neg h1]
  have HP := hid h
  have HI := hid hI
  obtain ⟨n, hn⟩ : ∃ n, n = L.length := ⟨_, rfl⟩
  have HN := hid hn
  rw [← hn] at h0 h1 ⊢
  obtain ⟨R, hR⟩ : ∃ R, badFrom (L.map Pw.pt) 0 n = R := ⟨_, rfl⟩
  rw [hR]
  have HR := hid hR
  have g0 : ((n : Int) == 0) = false := by simp; omega
  have g1 : ¬ (64 : Int) < n := by omega
  clear h hI hn hR hl
  go_enter Tryd.func39, Tryd.ntmps39
  go_wp2
  go_loopw [3, 15] (fun v z wr => ∃ k : Nat, k ≤ n ∧ z = .int .i64 k ∧ badFrom (L.map Pw.pt) k (n - k) = R ∧ wr.ownsRow w.heap.size 3 1 v k (ints (((L.map Pw.pt).take k).map Pt.blk)) ∧ Below w.heap.size w wr) (fun _ z _ => n - (RowKit.intOf z).toNat)
  case atStart => exact ⟨0, Nat.zero_le _, rfl, HR.out, ⟨rfl, .inl ⟨rfl, rfl⟩⟩, Below.refl _ _⟩
  case round =>
    obtain ⟨k, hk, rfl, hbad, hrow, hb⟩ := hrel
    have HBAD := hid hbad
    have HROW := hid hrow
    have HB := hid hb
    clear hbad
    by_cases hlt : k < n
    · have hki : (k : Int) < n := by omega
      have hkL : k < L.length := by rw [← HN.out]; exact hlt
      obtain ⟨g, off, ha, _, hc0, hc1⟩ := HP.out.at_ hkL
      subst ha
      replace hc0 := cell_later hb hc0
      replace hc1 := cell_later hb hc1
      have hbk := HI.out _ (getD_memP hkL)
      have HBT := hid (blks_take L k hkL)
      have HE : Hid (badAt (L.map Pw.pt) k = if badOf (L.getD k default).blk (L.getD k default).dat.length ≠ 0 then badOf (L.getD k default).blk (L.getD k default).dat.length else if (L.getD k default).blk ∈ ((L.map Pw.pt).take k).map Pt.blk then 8 else 0) := hid (by unfold badAt; rw [map_getD L k hkL]; rfl)
      obtain ⟨a3, c3, e3⟩ := owns_slice hrow
      subst e3
      have hlen : (((L.map Pw.pt).take k).map Pt.blk).length = k := by simp; omega
      have HLEN := hid hlen
      clear hrow hb hlen
      generalize ((L.map Pw.pt).take k).map Pt.blk = T at *
      generalize L.getD k default = P at *
      obtain ⟨W, hW⟩ : ∃ W, W = wr.alloc (.cells #[.int .i64 P.blk, .slice P.a P.dat.length P.c] 29) := ⟨_, rfl⟩
      have c5 : W.cell? ⟨wr.heap.size, 0, none⟩ = some (.int .i64 P.blk) := by rw [hW, new_cell _ _ _ _ 0 (by simp)]; rfl
      have HBW : Hid (Below wr.heap.size wr W) := hid (by rw [hW]; exact (Below.refl _ _).alloc (Nat.le_refl _) _)
      have hcon := hid (refusalOf_any W P.blk P.a P.dat.length P.c hbk)
      obtain ⟨E, hE⟩ : ∃ E, badOf P.blk P.dat.length = E := ⟨_, rfl⟩
      rw [hE] at HE hcon
      clear hE
      by_cases hz : E = 0
      · subst hz
        go_wp2_with fail
        rw [← hW]
        refine hcon.out.mono ?_
        rintro e w1 ⟨rfl, hb1⟩
        replace c5 := cell_later hb1 c5
        have HB1 : Hid (Below wr.heap.size wr w1) := hid (HBW.out.trans (hb1.mono HBW.out.size))
        have HB2 : Hid (Below w.heap.size w w1) := hid (HB.out.trans (HB1.out.mono HB.out.size))
        have HR1 : Hid (w1.ownsRow w.heap.size 3 1 (.slice a3 k c3) k (ints T)) := hid (owns_keep HROW.out (fun g hg => HB1.out.block g (owns_lt HROW.out hg).1))
        have hcc := hid (Contains_any w1 (.slice a3 k c3) T P.blk w.heap.size (by rw [HLEN.out]; exact HR1.out) (by rw [HLEN.out]; omega))
        clear hb1 hc0 hc1 hW
        by_cases hm : P.blk ∈ T
        · have HM := hid hm
          rw [decide_eq_true hm] at hcc
          clear hm
          go_wp2_with (go_at_call 71; refine hcc.out.mono ?_; rintro e w2 ⟨rfl, hw2⟩; rw [hw2]; clear hw2)
          go_ret
          refine ⟨ret_int ?_, HB2.out⟩
          have := HE.out
          rw [if_neg (by simp), if_pos HM.out] at this
          rw [← HBAD.out, show n - k = n - (k + 1) + 1 by omega, badFrom_hit (by rw [this]; decide), this]
        · have HM := hid hm
          rw [decide_eq_false hm] at hcc
          clear hm
          obtain ⟨a4, n4, c4, w4, hap, hn4, ho, hmo⟩ := push_own w1 w.heap.size (.slice a3 k c3) T (by rw [HLEN.out]; exact HR1.out) HB2.out.size P.blk (by rw [HLEN.out]; omega)
          have HO := hid ho
          have HN4 := hid hn4
          have HB4 : Hid (Below w.heap.size w w4) := hid (hmo.to_below HB2.out HB2.out.size (fun g hg => (owns_lt HR1.out hg).2))
          clear hmo hn4 ho
          go_wp2_with (first | (go_at_call 71; refine hcc.out.mono ?_; rintro e w2 ⟨rfl, hw2⟩; rw [hw2]; clear hw2) | (at_builtin; refine wpList_append_run rfl _ _ 37 rfl rfl rfl hap ?_))
          go_roundw
          case rel =>
            refine ⟨k + 1, by omega, by go_num, ?_, ?_, HB4.out⟩
            · have := HE.out
              rw [if_neg (by simp), if_neg HM.out] at this
              rw [← HBAD.out, show n - k = n - (k + 1) + 1 by omega, badFrom_miss this]
            · rw [HBT.out]
              have := HO.out
              rw [List.length_append, HLEN.out] at this
              exact this
          case measure => simp [RowKit.intOf]; omega
      · have hz2 : (E != 0) = true := by simpa using hz
        have HZ := hid hz
        clear hz
        go_wp2_with fail
        rw [← hW]
        refine hcon.out.mono ?_
        rintro e w1 ⟨rfl, hb1⟩
        have HB2 : Hid (Below w.heap.size w w1) := hid (HB.out.trans ((HBW.out.trans (hb1.mono HBW.out.size)).mono HB.out.size))
        clear hb1 hW
        go_wp2
        go_ret
        refine ⟨ret_int ?_, HB2.out⟩
        have := HE.out
        rw [if_pos HZ.out] at this
        rw [← HBAD.out, show n - k = n - (k + 1) + 1 by omega, badFrom_hit (by rw [this]; exact HZ.out), this]
    · have hki : ¬ ((k : Int) < n) := by omega
      obtain rfl : k = n := by omega
      go_wp2
      go_ret
      refine ⟨ret_int ?_, HB.out⟩
      have := HBAD.out
      rw [Nat.sub_self] at this
      exact this
end Go.Proofs.YtoifeioijoancaaDoor
