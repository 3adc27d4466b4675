/- WbB, VwA, EaM in one text. -/
import Derived.Test.YtgeecahpfjllgaaGreatDoorWbA
import Derived.Test.YtgeecahpfjllgaaGreatDoorPaB
import Derived.ArgAppend
/- Small functions: Clone, Contains, refusalOf, refusal, filledUp. -/
namespace Go.Proofs.YtgeecahpfjllgaaGreatDoor
open Go.RowKit Go.Maps
set_option linter.unusedVariables false

theorem bcell {W w1 : World} (hb : Below W.heap.size W w1) : (∀ b o, b < W.heap.size → w1.cell? ⟨b, o, none⟩ = W.cell? ⟨b, o, none⟩) ∧ (∀ b o, b < W.heap.size → w1.frozen? ⟨b, o, none⟩ = W.frozen? ⟨b, o, none⟩) :=
  ⟨fun b o h => hb.cell (p := ⟨b, o, none⟩) h, fun b o h => hb.frozen (p := ⟨b, o, none⟩) h⟩
theorem info5b : ∃ i, Tryz.prog.info? 5 = some i ∧ i.zero = some (.int .u8 0) ∧ i.size = 1 ∧ i.bytes = 1 := by
  have := info5
  cases h : Tryz.prog.info? 5 with
  | none => rw [h] at this; cases this
  | some i => rw [h] at this; simp at this; exact ⟨i, rfl, this.1, this.2.1, this.2.2⟩
theorem info3b : ∃ i, Tryz.prog.info? 3 = some i ∧ i.zero = some (.int .i64 0) ∧ i.size = 1 ∧ i.bytes = 8 := by
  have : (Tryz.prog.info? 3).map (fun i => (i.zero, i.size, i.bytes)) = some (some (.int .i64 0), 1, 8) := by kernel_rfl
  cases h : Tryz.prog.info? 3 with
  | none => rw [h] at this; cases this
  | some i => rw [h] at this; simp at this; exact ⟨i, rfl, this.1, this.2.1, this.2.2⟩
theorem u8s_one (l : List Int) : ∀ u ∈ u8s l, u.oneCell' = true := by
  intro u hu
  obtain ⟨e, _, rfl⟩ := List.mem_map.1 hu
  rfl
/-- What is new. -/
def New (w : World) : Nat → Prop := fun b => w.heap.size ≤ b
theorem New.mono {w w' : World} (h : w.heap.size ≤ w'.heap.size) : ∀ b, New w' b → New w b := fun b hb => Nat.le_trans h hb
def idx (l : List Int) (x : Int) : Int := if x ∈ l then (l.idxOf x : Nat) else -1
theorem take_snocI {l : List Int} {k : Nat} (h : k < l.length) {x : Int} (h1 : x ∉ l.take k) (h2 : l.getD k 0 ≠ x) : x ∉ l.take (k + 1) := by
  rw [take_snoc l k h]
  simp only [List.mem_append, List.mem_singleton, not_or]
  exact ⟨h1, fun e => h2 e.symm⟩
theorem idx_at {l : List Int} {x : Int} {k : Nat} (h : k < l.length) (h1 : x ∉ l.take k) (h2 : l.getD k 0 = x) : idx l x = k := by
  have hm : x ∈ l := by
    rw [← h2]
    simp [List.getD, h]
  unfold idx
  rw [if_pos hm]
  have e : l = l.take k ++ (x :: l.drop (k + 1)) := by
    conv => lhs; rw [← List.take_append_drop k l]
    rw [List.drop_eq_getElem_cons h]
    congr 2
    simpa [List.getD, h] using h2
  rw [e, List.idxOf_append, if_neg h1]
  simp
  omega
theorem idx_none {l : List Int} {x : Int} (h : x ∉ l) : idx l x = -1 := by unfold idx; rw [if_neg h]
theorem idx_nonneg (l : List Int) (x : Int) : decide (0 ≤ idx l x) = decide (x ∈ l) := by
  unfold idx
  split
  · rename_i h; simp [h]
  · rename_i h; simp [h]
/-- A number is put behind a row of a call's own. -/
theorem push_own (w : World) (B : Nat) (v : Value) (l : List Int) (h : w.ownsRow B 3 1 v l.length (ints l)) (hB : B ≤ w.heap.size) (x : Int) (hl : l.length ≤ 1000000) :
    ∃ a n c w', (Builtin.append_ #[29, 29] 29 #[v, .slice (some ⟨w.heap.size, 0, none⟩) 1 1]).run Tryz.prog (w.alloc (.cells #[.int .i64 x] 3)) = .ok (.slice a n c) w' ∧ n = l.length + 1 ∧ w'.ownsRow B 3 1 (.slice a n c) (l ++ [x]).length (ints (l ++ [x])) ∧ Mods (fun b => v.ownBlock = some b) w w' := by
  have hb1 : Below w.heap.size w (w.alloc (.cells #[.int .i64 x] 3)) := (Below.refl _ _).alloc (Nat.le_refl _) _
  have hs1 : (w.alloc (.cells #[.int .i64 x] 3)).heap.size = w.heap.size + 1 := by simp
  have hr1 : (w.alloc (.cells #[.int .i64 x] 3)).ownsRow 0 3 1 v l.length (ints l) := owns_zero (owns_keep h (fun g hg => hb1.block g (owns_lt h hg).1))
  obtain ⟨v', w', hap, ho, hm, hob⟩ := app_gen (w.alloc (.cells #[.int .i64 x] 3)) 29 29 3 _ 8 Tryz.underlying29 info3b rfl (by omega) v (ints l) l.length (by simp) hr1 ⟨w.heap.size, 0, none⟩ 1 1 [.int .i64 x] rfl (fun j u hj => by
    have hj2 : j < 1 := (List.getElem?_eq_some_iff.1 hj).1
    obtain rfl : j = 0 := by omega
    rw [add_addr, new_cell _ _ _ _ 0 (by simp)]
    simpa using hj) (by simp [Value.oneCell']) (by omega)
  obtain ⟨a, c, rfl⟩ := owns_slice ho
  refine ⟨a, l.length + 1, c, w', hap, rfl, ?_, (Mods.of_below hb1).tr hm⟩
  have h2 := owns_base (base' := B) ho (fun g hg => by
    rcases hob with e | e
    · rw [e] at hg; exact (owns_lt h hg).2
    · rw [e] at hg; simp at hg; omega)
  simpa [ints] using h2

/-! ### refusalOf, refusal -/
theorem badFrom_hit {l : List Pt} {i k : Nat} (h : badAt l i ≠ 0) : badFrom l i (k + 1) = badAt l i := by rw [badFrom, if_pos h]
theorem badFrom_miss {l : List Pt} {i k : Nat} (h : badAt l i = 0) : badFrom l i (k + 1) = badFrom l (i + 1) k := by rw [badFrom, if_neg (by simp [h])]
theorem blks_take (L : List Pw) (k : Nat) (h : k < L.length) : ((L.map Pw.pt).take (k + 1)).map Pt.blk = ((L.map Pw.pt).take k).map Pt.blk ++ [(L.getD k default).blk] := by
  rw [List.take_succ_eq_append_getElem (by simpa using h), List.map_append]
  simp [List.getD, h, Pw.pt]
end Go.Proofs.YtgeecahpfjllgaaGreatDoor

/- The document's numbers as bytes: Low, Noughts. -/
namespace Go.Proofs.YtgeecahpfjllgaaGreatDoor
open Go.RowKit Go.Maps
set_option linter.unusedVariables false

theorem by_const (w : World) (l : List Int) (fr : Nat × Nat) (hl : ∀ x ∈ l, IsB x) : By (w.alloc (.cells (u8s l).toArray 5 fr)) (New w) (some ⟨w.heap.size, 0, none⟩) l :=
  ⟨hl, fun _ => ⟨w.heap.size, 0, _, fr, rfl, Nat.le_refl _, alloc_new w _, fun i hi => by rw [Nat.zero_add, List.getElem?_toArray, u8s_get hi]⟩⟩
/-- Bytes that may be appended to: a row of one's own, or one that is full. -/
def Gr (w : World) (B : Nat) (v : Value) (l : List Int) : Prop :=
  (∀ x ∈ l, IsB x) ∧ (w.ownsRow B 5 1 v l.length (u8s l) ∨ ∃ b off, v = .slice (some ⟨b, off, none⟩) l.length l.length ∧ By w (fun _ => True) (some ⟨b, off, none⟩) l)
theorem Gr.slice {w : World} {B : Nat} {v : Value} {l : List Int} (h : Gr w B v l) : ∃ a c, v = .slice a l.length c := by
  rcases h.2 with h1 | ⟨b, off, e, _⟩
  · exact owns_slice h1
  · exact ⟨_, _, e⟩
theorem Gr.by_ {w : World} {B : Nat} {v : Value} {l : List Int} (h : Gr w B v l) : ∃ a c, v = .slice a l.length c ∧ l.length ≤ c ∧ By w (fun _ => True) a l := by
  rcases h.2 with h1 | ⟨b, off, e, h2⟩
  · obtain ⟨a, c, e, h3, _, h4⟩ := By.of_owns (S := fun _ => True) h1 h.1 (fun _ _ => trivial)
    exact ⟨a, c, e, h3, h4⟩
  · exact ⟨_, _, e, Nat.le_refl _, h2⟩
theorem Gr.later {w w' : World} {B : Nat} {v : Value} {l : List Int} (h : Gr w B v l) (hb : Below w.heap.size w w') : Gr w' B v l :=
  ⟨h.1, h.2.imp (fun h1 => owns_keep h1 (fun g hg => hb.block g (owns_lt h1 hg).1)) (fun ⟨b, off, e, h2⟩ => ⟨b, off, e, h2.later hb⟩)⟩
theorem u8s_app (l m : List Int) : u8s (l ++ m) = u8s l ++ u8s m := by simp
/-- 'append' of bytes. -/
theorem Gr.push {w : World} {B : Nat} {v : Value} {l : List Int} (h : Gr w B v l) (hB : B ≤ w.heap.size) (m : List Int) (hm : ∀ x ∈ m, IsB x) (hp : 0 < m.length) (ad : Addr) (n c : Nat) (hn : m.length = n) (hc : ∀ j u, (u8s m)[j]? = some u → w.cell? (ad.add j) = some u) (hl : l.length + n ≤ 1000000) (ty : TypeId) :
    ∃ a c' w', (Builtin.append_ #[26, 26] ty #[v, .slice (some ad) n c]).run Tryz.prog w = .ok (.slice a (l.length + n) c') w' ∧ Gr w' B (.slice a (l.length + n) c') (l ++ m) ∧ w'.ownsRow B 5 1 (.slice a (l.length + n) c') (l.length + n) (u8s (l ++ m)) ∧ Below B w w' ∧ Mods (fun b => v.ownBlock = some b) w w' ∧ ((Value.slice a (l.length + n) c').ownBlock = v.ownBlock ∨ ∃ g, w.heap.size ≤ g ∧ (Value.slice a (l.length + n) c').ownBlock = some g) := by
  have hI : ∀ x ∈ l ++ m, IsB x := fun x hx => by rcases List.mem_append.1 hx with h1 | h1; exact h.1 x h1; exact hm x h1
  rcases h.2 with h1 | ⟨b, off, rfl, h2⟩
  · obtain ⟨v', w', hap, ho, hmo, hob⟩ := app_gen w 26 ty 5 _ 1 Tryz.underlying26 info5b rfl (by omega) v (u8s l) l.length (by simp) (owns_zero h1) ad n c (u8s m) (by simp [hn]) hc (u8s_one m) (by omega)
    obtain ⟨a, c', rfl⟩ := owns_slice ho
    have ho' : w'.ownsRow B 5 1 (.slice a (l.length + n) c') (l.length + n) (u8s (l ++ m)) := by
      rw [u8s_app]
      exact owns_base ho (fun g hg => by
        rcases hob with e | e
        · rw [e] at hg; exact (owns_lt h1 hg).2
        · rw [e] at hg; simp at hg; omega)
    refine ⟨a, c', w', hap, ⟨hI, .inl (by rw [List.length_append, hn]; exact ho')⟩, ho', hmo.to_below (Below.refl B w) hB (fun g hg => (owns_lt h1 hg).2), hmo, hob.imp id (fun e => ⟨_, Nat.le_refl _, e⟩)⟩
  · obtain ⟨i0, hi, hz0, hz1, hz2⟩ := info5b
    have hcl : ∀ j u, (u8s l)[j]? = some u → w.cell? ((⟨b, off, none⟩ : Addr).add j) = some u := fun j u hj => by
      have hj2 : j < l.length := by have := (List.getElem?_eq_some_iff.1 hj).1; simpa using this
      obtain ⟨b', off', cur, fr, ea, _, hh, hcur⟩ := h2.2 (by omega)
      simp only [Option.some.injEq, Addr.mk.injEq, and_true] at ea
      obtain ⟨rfl, rfl⟩ := ea
      rw [u8s_get hj2] at hj
      rw [add_addr]
      simp [World.cell?, hh, hcur j hj2]
      simpa using hj
    obtain ⟨v', w', hr, ho, hg⟩ := run_append_arg_grows (P := Tryz.prog) w 26 ty 5 i0 _ 1 1 Tryz.underlying26 hi hz0 hz1 hz2 rfl (by decide) ⟨b, off, none⟩ l.length l.length (u8s l) (by simp) hcl ad n c (u8s m) (by simp [hn]) hc (by omega) (by unfold maxLen; omega) (by omega)
    obtain ⟨a, c', rfl⟩ := owns_slice ho
    have ho' : w'.ownsRow B 5 1 (.slice a (l.length + n) c') (l.length + n) (u8s (l ++ m)) := by
      rw [u8s_app]
      exact owns_base ho (fun g hg => Nat.le_trans hB (owns_lt ho hg).2)
    exact ⟨a, c', w', hr, ⟨hI, .inl (by rw [List.length_append, hn]; exact ho')⟩, ho', ⟨hg.os, hg.tape, hg.output, hg.size, fun x hx => hg.block x (Nat.lt_of_lt_of_le hx hB) (by simp)⟩, ⟨hg.os, hg.tape, hg.output, hg.size, fun x hx _ => hg.block x hx (by simp)⟩, .inr (by
      cases ho3 : (Value.slice a (l.length + n) c').ownBlock with
      | none =>
        rcases ho.2 with ⟨e, h0⟩ | ⟨g, cap, cur, e, _⟩
        · omega
        · rw [e] at ho3; simp [Value.ownBlock] at ho3
      | some g => exact ⟨g, (owns_lt ho ho3).2, rfl⟩)⟩
theorem pow256 (k : Nat) : (2 : Int) ^ (8 * k) = 256 ^ k := by rw [Int.pow_mul]; rfl
theorem bytesLe_take (n : Nat) (x : Int) (j : Nat) (h : j < n) : (bytesLe n x).take (j + 1) = (bytesLe n x).take j ++ [x / 256 ^ j % 256] := by
  rw [take_snoc _ j (by rw [len_le]; exact h), getD_le n x j h]
/-- 'append([]byte{}, d...)'. -/
theorem twinB (W : World) (T : Nat → Prop) (a : Option Addr) (n c : Nat) (d : List Int) (hn : d.length = n) (hp : 0 < n) (hl : n ≤ 900000) (h : By W T a d) (ty : TypeId) :
    ∃ a2 c2 w2, (Builtin.append_ #[26, 26] ty #[.slice (some ⟨W.heap.size, 0, none⟩) 0 0, .slice a n c]).run Tryz.prog (W.alloc (.cells #[] 5)) = .ok (.slice a2 n c2) w2 ∧ By w2 (New W) a2 d ∧ n ≤ c2 ∧ Below W.heap.size W w2 ∧ w2.ownsRow W.heap.size 5 1 (.slice a2 n c2) n (u8s d) := by
  have hb1 : Below W.heap.size W (W.alloc (.cells #[] 5)) := (Below.refl _ _).alloc (Nat.le_refl _) _
  have hg : Gr (W.alloc (.cells #[] 5)) W.heap.size (.slice (some ⟨W.heap.size, 0, none⟩) 0 0) [] := by
    refine ⟨fun x hx => by simp at hx, .inl ⟨by simp, .inr ⟨W.heap.size, 0, #[], rfl, Nat.le_refl _, alloc_new W _, by simp, by simp, by simp, by simp⟩⟩⟩
  obtain ⟨b, off, cur, fr, rfl, _, hh, hcur⟩ := h.2 (by omega)
  obtain ⟨a2, c2, w2, hap, hg2, ho2, hb2, _, _⟩ := hg.push (by simp) d h.isB (by omega) ⟨b, off, none⟩ n c hn (fun j u hj => by
    have hj2 : j < d.length := by have := (List.getElem?_eq_some_iff.1 hj).1; simpa using this
    rw [u8s_get hj2] at hj
    rw [add_addr]
    refine cell_later hb1 ?_
    simp [World.cell?, hh, hcur j hj2]
    simpa using hj) (by simp; omega) ty
  simp only [List.length_nil, Nat.zero_add, List.nil_append] at hap hg2 ho2
  obtain ⟨a3, c3, e3, h3, _, h4⟩ := By.of_owns (S := New W) ho2 h.isB (fun g hg => (owns_lt ho2 hg).2)
  simp only [Value.slice.injEq, true_and] at e3
  obtain ⟨rfl, rfl⟩ := e3
  exact ⟨a2, c2, w2, hap, h4, h3, hb1.trans hb2, ho2⟩
theorem repl_snoc (k : Nat) : List.replicate (k + 1) (0 : Int) = List.replicate k 0 ++ [0] := List.replicate_succ'
set_option maxRecDepth 100000 in
set_option maxHeartbeats 1000000 in
theorem Noughts_any (w : World) (B : Nat) (v : Value) (l : List Int) (h : Gr w B v l) (hB : B ≤ w.heap.size) (n : Nat) (N : Int) (hN : N = n) (hn : 0 < n) (hl : l.length + n ≤ 900000) :
    Calls Tryz.prog 74 #[v, .int .i64 N] w fun e w' => ∃ a c, e = .returned (.slice a (l.length + n) c) ∧ Gr w' B (.slice a (l.length + n) c) (l ++ List.replicate n 0) ∧ w'.ownsRow B 5 1 (.slice a (l.length + n) c) (l.length + n) (u8s (l ++ List.replicate n 0)) ∧ Below B w w' := by
  obtain ⟨a0, c0, rfl⟩ := h.slice
  have HG := hid h
  subst hN
  clear h
  obtain ⟨Z, hZ⟩ : ∃ Z : Nat → List Int, Z = fun k => List.replicate k 0 := ⟨_, rfl⟩
  have HZ0 : Hid (Z 0 = []) := hid (by rw [hZ]; rfl)
  have HZs : Hid (∀ k, Z (k + 1) = Z k ++ [0]) := hid (fun k => by rw [hZ]; exact repl_snoc k)
  have HZl : Hid (∀ k, (Z k).length = k) := hid (fun k => by rw [hZ]; simp)
  have HZn : Hid (List.replicate n 0 = Z n) := hid (by rw [hZ])
  clear hZ
  go_enter Tryz.func74, Tryz.ntmps74
  go_wp2
  go_loopw [0, 5] (fun u z wr => ∃ (k : Nat), k ≤ n ∧ z = .int .i64 k ∧ Gr wr B u (l ++ Z k) ∧ (0 < k → wr.ownsRow B 5 1 u (l.length + k) (u8s (l ++ Z k))) ∧ Below B w wr ∧ B ≤ wr.heap.size) (fun _ z _ => n - (RowKit.intOf z).toNat)
  case atStart => exact ⟨0, Nat.zero_le _, rfl, by rw [HZ0.out]; simpa using HG.out, fun h => by omega, Below.refl _ _, hB⟩
  case round =>
    obtain ⟨k, hk, rfl, hg, how, hb, hBr⟩ := hrel
    have hlk : (l ++ Z k).length = l.length + k := by rw [List.length_append, HZl.out]
    obtain ⟨a1, c1, e1⟩ := hg.slice
    rw [hlk] at e1
    subst e1
    have HG1 := hid hg
    have HOW := hid how
    have HB := hid hb
    have HLK := hid hlk
    clear hg how hb hlk
    by_cases hlt : k < n
    · have hki : (k : Int) < n := by omega
      obtain ⟨W1, hW1⟩ : ∃ W1, W1 = wr.alloc (.cells #[.int .u8 0] 5) := ⟨_, rfl⟩
      have hb1 : Below wr.heap.size wr W1 := by rw [hW1]; exact (Below.refl _ _).alloc (Nat.le_refl _) _
      have hc1 : W1.cell? ⟨wr.heap.size, 0, none⟩ = some (.int .u8 0) := by rw [hW1, new_cell _ _ _ _ 0 (by simp)]; rfl
      obtain ⟨a2, c2, w2, hap, hg2, ho2, hb2, _, _⟩ := (HG1.out.later hb1).push (Nat.le_trans hBr hb1.size) [0] (by simp [IsB]) (by simp) ⟨wr.heap.size, 0, none⟩ 1 1 rfl (fun j u hj => by
        have hj2 : j < 1 := (List.getElem?_eq_some_iff.1 hj).1
        obtain rfl : j = 0 := by omega
        rw [add_addr, hc1]; simpa using hj) (by rw [HLK.out]; omega) 26
      rw [HLK.out] at hap hg2 ho2
      rw [List.append_assoc, ← HZs.out] at hg2 ho2
      have HG2 := hid hg2
      have HO2 := hid ho2
      have HB2 : Hid (Below B w w2) := hid ((HB.out.trans (hb1.mono hBr)).trans hb2)
      have HS2 : Hid (B ≤ w2.heap.size) := hid (Nat.le_trans (Nat.le_trans hBr hb1.size) hb2.size)
      clear hb1 hc1 hg2 ho2 hb2
      go_wp2_with (at_builtin; rw [← hW1]; refine wpList_append_run rfl _ _ 26 rfl rfl rfl hap ?_)
      go_roundw
      case rel => exact ⟨k + 1, by omega, by go_num, HG2.out, fun _ => HO2.out, HB2.out, HS2.out⟩
      case measure => simp [RowKit.intOf]; omega
    · have hki : ¬ ((k : Int) < n) := by omega
      obtain rfl : k = n := by omega
      go_wp2
      go_ret
      have g2 := HOW.out (by omega)
      exact ⟨a1, c1, rfl, by rw [HZn.out]; exact HG1.out, by first | (rw [HZn.out]; exact g2) | (rw [HZn.out, ← u8s_app]; exact g2) | (have e := u8s_app l (Z k); rw [← HZn.out] at g2 e; rw [e] at g2; simpa using g2), HB.out⟩
theorem Gr.of_const (w : World) (B : Nat) (l : List Int) (n : Nat) (fr : Nat × Nat) (hn : l.length = n) (hl : ∀ x ∈ l, IsB x) : Gr (w.alloc (.cells (u8s l).toArray 5 fr)) B (.slice (some ⟨w.heap.size, 0, none⟩) n n) l := by
  subst hn
  exact ⟨hl, .inr ⟨w.heap.size, 0, rfl, (by_const w l fr hl).weak (fun _ _ _ => trivial)⟩⟩
theorem By.cells {w : World} {S : Nat → Prop} {b off : Nat} {d : List Int} (h : By w S (some ⟨b, off, none⟩) d) : ∀ j u, (u8s d)[j]? = some u → w.cell? ((⟨b, off, none⟩ : Addr).add j) = some u := fun j u hj => by
  have hj2 : j < d.length := by have := (List.getElem?_eq_some_iff.1 hj).1; simpa using this
  obtain ⟨b', off', cur, fr, ea, _, hh, hcur⟩ := h.2 (by omega)
  simp only [Option.some.injEq, Addr.mk.injEq, and_true] at ea
  obtain ⟨rfl, rfl⟩ := ea
  rw [u8s_get hj2] at hj
  rw [add_addr]
  simp [World.cell?, hh, hcur j hj2]
  simpa using hj
theorem Noughts' (w : World) (B : Nat) (v : Value) (l : List Int) (h : Gr w B v l) (hB : B ≤ w.heap.size) (n : Nat) (N : Int) (hN : N = n) (hn : 0 < n) (hl : l.length + n ≤ 900000) (m : Nat) (hm : l.length + n = m) (K : List Int) (hK : l ++ List.replicate n 0 = K) :
    Calls Tryz.prog 74 #[v, .int .i64 N] w fun e w' => ∃ a c, e = .returned (.slice a m c) ∧ Gr w' B (.slice a m c) K ∧ w'.ownsRow B 5 1 (.slice a m c) m (u8s K) ∧ Below B w w' := by
  subst hm hK
  exact Noughts_any w B v l h hB n N hN hn hl
end Go.Proofs.YtgeecahpfjllgaaGreatDoor

/- Maps with keys of 32 bits. -/
namespace Go.Proofs.YtgeecahpfjllgaaGreatDoor
open Go.RowKit Go.Maps Go.WideAt
set_option linter.unusedVariables false
theorem u32Key : Keyed Tryz.prog 22 := int_keyed Tryz.underlying22
theorem wfU {k : Int} (hk : IsU k) : (Lit.int .u32 k).wf = true := WalkArith.wf_u32 (by unfold IsU at hk; omega)
theorem keyU {k : Int} (hk : IsU k) : keyOf Tryz.prog 22 (.int .u32 k) = some (.int .u32 k) := keyOf_int_mk Tryz.underlying22 (wfU hk)
/-- Block b is a map that holds M. -/
def MapU (w : World) (b n : Nat) (M : Int → Option Value) : Prop :=
  ∃ D : DataW Value, w.ownsMap Tryz.prog 22 raw b n D ∧ ∀ k, IsU k → ∀ z, D.atKey (.int .u32 k) z = ((M k).map DataW.held).getD z
theorem MapU.made (w : World) : MapU (w.alloc (.map #[] 0)) w.heap.size 0 (fun _ => none) :=
  ⟨.map [], World.ownsMap_made w Tryz.prog 22 raw, fun k _ z => by simp [DataW.atKey]⟩
theorem MapU.mono {w : World} {b n n' : Nat} {M : Int → Option Value} (h : MapU w b n M) (hn : n ≤ n') : MapU w b n' M :=
  let ⟨D, h1, h2⟩ := h; ⟨D, h1.mono hn, h2⟩
theorem MapU.lt {w : World} {b n : Nat} {M : Int → Option Value} (h : MapU w b n M) : b < w.heap.size := let ⟨_, h1, _⟩ := h; h1.lt
theorem MapU.keep {w w' : World} {b n : Nat} {M : Int → Option Value} (h : MapU w b n M) (hb : w'.heap[b]? = w.heap[b]?) : MapU w' b n M := by
  obtain ⟨D, ⟨es, c, hh, r⟩, h2⟩ := h
  exact ⟨D, ⟨es, c, hb.trans hh, r⟩, h2⟩
theorem MapU.look {w : World} {b n : Nat} {M : Int → Option Value} (h : MapU w b n M) {t e : TypeId} (ht : Tryz.prog.underlying t = some (.map 22 e)) {z : Value} (hz : (zeroValue e).run Tryz.prog w = .ok z w)
    {k : Int} (hk : IsU k) : (Instr.lookup t (.map (some b)) (.int .u32 k) false).run Tryz.prog w = .ok ((M k).getD z) w := by
  obtain ⟨D, h1, h2⟩ := h
  obtain ⟨v, ps, hrun, hR⟩ := h1.lookup u32Key ht hz (R := raw) (zd := .held z) (zp := []) rfl (keyU hk)
  rw [hrun]
  simp only [raw, Option.some.injEq, Prod.mk.injEq] at hR
  have := hR.1
  rw [h2 k hk] at this
  cases hM : M k with
  | none => rw [hM] at this; simp at this; simp [this]
  | some u => rw [hM] at this; simp at this; simp [this]
theorem MapU.put {w : World} {b n : Nat} {M : Int → Option Value} (h : MapU w b n M) {t e : TypeId} (ht : Tryz.prog.underlying t = some (.map 22 e)) (hn : n < maxLen) {k : Int} (hk : IsU k) (v : Value) :
    ∃ w', (Instr.mapUpdate t (.map (some b)) (.int .u32 k) v).run Tryz.prog w = .ok () w' ∧ MapU w' b (n + 1) (upd M k (some v)) ∧ w.grownBy w' (some b) := by
  obtain ⟨D, h1, h2⟩ := h
  obtain ⟨w', hrun, ho, hg⟩ := h1.update u32Key ht hn (keyU hk) (val := v) (d := .held v) (ps := []) rfl
  refine ⟨w', hrun, ⟨_, ho, fun j hj z => ?_⟩, hg⟩
  by_cases e : j = k
  · subst e
    rw [upd_same, atKey_put_same h1.isMap (by simp [WideAt.IsKeyLit])]
    rfl
  · rw [upd_other _ _ e, atKey_put_other (by simpa using e), h2 j hj]
theorem MapU.del {w : World} {b n : Nat} {M : Int → Option Value} (h : MapU w b n M) {t e : TypeId} (ht : Tryz.prog.underlying t = some (.map 22 e)) {k : Int} (hk : IsU k) (ty : TypeId) :
    ∃ w', (Builtin.delete_ #[t, 22] ty #[.map (some b), .int .u32 k]).run Tryz.prog w = .ok (.tuple #[]) w' ∧ MapU w' b n (upd M k none) ∧ w.grownBy w' (some b) := by
  obtain ⟨D, h1, h2⟩ := h
  obtain ⟨w', hrun, ho, hg⟩ := h1.drop u32Key ht (keyU hk) ty
  refine ⟨w', hrun, ⟨_, ho, fun j hj z => ?_⟩, hg.grown⟩
  by_cases e : j = k
  · subst e
    rw [upd_same, atKey_del_same]
    rfl
  · rw [upd_other _ _ e, atKey_del_other (by simpa using e), h2 j hj]

theorem MapU.look_ok {w : World} {b n : Nat} {M : Int → Option Value} (h : MapU w b n M) {t e : TypeId} (ht : Tryz.prog.underlying t = some (.map 22 e)) {z : Value} (hz : (zeroValue e).run Tryz.prog w = .ok z w)
    {k : Int} (hk : IsU k) : (Instr.lookup t (.map (some b)) (.int .u32 k) true).run Tryz.prog w = .ok (.tuple #[(M k).getD z, .bool (M k).isSome]) w := by
  obtain ⟨D, h1, h2⟩ := h
  obtain ⟨v, ps, hrun, hR⟩ := h1.look_ok u32Key ht hz (R := raw) (zd := .held z) (zp := []) rfl (keyU hk)
  rw [hrun]
  simp only [raw, Option.some.injEq, Prod.mk.injEq] at hR
  have := hR.1
  rw [h2 k hk] at this
  cases hM : M k with
  | none =>
    rw [hM] at this
    rw [has_false_of_atKey (D := D) (k := .int .u32 k) (fun z => by rw [h2 k hk z, hM]; rfl)]
    simp at this
    simp [this]
  | some u =>
    rw [hM] at this
    rw [has_true_of_atKey (D := D) (k := .int .u32 k) (y := .held u) (fun z => by rw [h2 k hk z, hM]; rfl)]
    simp at this
    simp [this]

end Go.Proofs.YtgeecahpfjllgaaGreatDoor
