/- Who calls: credentials of kind 1 read. -/
import Derived.Test.YtbfdkbdjipiliaaDoorYhA
import Derived.Deep.RegionLaw
namespace Go.Proofs.YtbfdkbdjipiliaaDoor
open Go.RowKit Go.Maps
set_option linter.unusedVariables false

abbrev u32v (l : List Int) : List Value := l.map fun x => Value.int .u32 x
theorem u32v_get {l : List Int} {j : Nat} (h : j < l.length) : (u32v l)[j]? = some (.int .u32 (l.getD j 0)) := by simp [List.getD, h]
theorem info32 : ∃ i, Tryd.prog.info? 41 = some i ∧ i.zero = some (.int .u32 0) ∧ i.size = 1 ∧ i.bytes = 4 := by
  have h : (Tryd.prog.info? 41).map (fun i => (i.zero, i.size, i.bytes)) = some (some (.int .u32 0), 1, 4) := by kernel_rfl
  cases hi : Tryd.prog.info? 41 with
  | none => rw [hi] at h; simp at h
  | some i => rw [hi] at h; simp at h; exact ⟨i, rfl, h.1, h.2.1, h.2.2⟩
/-- Addresses l at a, in blocks of T. -/
def UT (w : World) (T : Nat → Prop) (a : Option Addr) (l : List Int) : Prop :=
  ∀ i, i < l.length → ∃ b off, a = some ⟨b, off, none⟩ ∧ T b ∧ b < w.heap.size ∧ w.cell? ⟨b, off + i, none⟩ = some (.int .u32 (l.getD i 0)) ∧ IsU (l.getD i 0)
section
variable {w w' : World} {T T' : Nat → Prop} {a : Option Addr} {l : List Int}
theorem UT.keep (h : UT w T a l) (hz : w.heap.size ≤ w'.heap.size) (hk : ∀ b, T b → b < w.heap.size → w'.heap[b]? = w.heap[b]?) : UT w' T a l := fun i hi => by
  obtain ⟨b, off, e, ht, hb, hc, hu⟩ := h i hi
  refine ⟨b, off, e, ht, Nat.lt_of_lt_of_le hb hz, ?_, hu⟩
  simp only [World.cell?] at hc ⊢
  rw [hk b ht hb]
  exact hc
theorem UT.later (h : UT w T a l) (hb : Below w.heap.size w w') : UT w' T a l := h.keep hb.size (fun b _ hl => hb.block b hl)
theorem UT.weak (h : UT w T a l) (hk : ∀ b, T b → b < w.heap.size → T' b) : UT w T' a l := fun i hi => by
  obtain ⟨b, off, e, ht, hb, hc, hu⟩ := h i hi
  exact ⟨b, off, e, hk b ht hb, hb, hc, hu⟩
theorem UT.nil (w : World) (T : Nat → Prop) (a : Option Addr) : UT w T a [] := fun i hi => by simp at hi
theorem UT.at_ (h : UT w T a l) {i : Nat} (hi : i < l.length) : ∃ b off, a = some ⟨b, off, none⟩ ∧ w.cell? ⟨b, off + i, none⟩ = some (.int .u32 (l.getD i 0)) ∧ IsU (l.getD i 0) := by
  obtain ⟨b, off, e, _, _, hc, hu⟩ := h i hi
  exact ⟨b, off, e, hc, hu⟩
theorem UT.of_owns {base n : Nat} {v : Value} (h : w.ownsRow base 41 1 v n (u32v l)) (hl : ∀ x ∈ l, IsU x) (hT : ∀ g, v.ownBlock = some g → T g) : ∃ a c, v = .slice a n c ∧ n ≤ c ∧ l.length = n ∧ UT w T a l := by
  have h1 := h.1
  simp at h1
  rcases h.2 with ⟨rfl, h0⟩ | ⟨g, cap, cur, rfl, _, hh, hc1, hc2, hcs, ht⟩
  · refine ⟨none, 0, by rw [h0], by omega, h1, ?_⟩
    obtain rfl : l = [] := List.eq_nil_of_length_eq_zero (by omega)
    exact UT.nil _ _ _
  · refine ⟨_, cap, rfl, hc1, h1, fun i hi => ⟨g, 0, rfl, hT g rfl, (Array.getElem?_eq_some_iff.1 hh).1, ?_, mem_getD l IsU hl i hi⟩⟩
    have e : (cur.toList.take (n * 1))[i]? = (u32v l)[i]? := by rw [ht]
    rw [List.getElem?_take, if_pos (by omega), Array.getElem?_toList, u32v_get hi] at e
    rw [Nat.zero_add]
    exact cell_of hh e
end
/-- 'append' of one address to a row of one's own. -/
theorem pushU (w : World) (B : Nat) (a : Option Addr) (n c : Nat) (l : List Int) (hn : l.length = n) (h : w.ownsRow B 41 1 (.slice a n c) n (u32v l)) (hB : B ≤ w.heap.size) (x : Int) (hl : n ≤ 1000) :
    ∃ a7 c7 w7, (Builtin.append_ #[42, 42] 42 #[.slice a n c, .slice (some ⟨w.heap.size, 0, none⟩) 1 1]).run Tryd.prog (w.alloc (.cells #[.int .u32 x] 41)) = .ok (.slice a7 (n + 1) c7) w7 ∧ w7.ownsRow B 41 1 (.slice a7 (n + 1) c7) (n + 1) (u32v (l ++ [x])) ∧ Below B w w7 := by
  have b56 : Below w.heap.size w (w.alloc (.cells #[.int .u32 x] 41)) := below_alloc (Below.refl _ _) (Nat.le_refl _) _
  have hR6 := owns_keep h (fun g hg => b56.block g (owns_lt h hg).1)
  obtain ⟨v7, w7, hap, ho7, hm7, hob7⟩ := app_gen (w.alloc (.cells #[.int .u32 x] 41)) 42 42 41 _ 4 Tryd.underlying42 info32 rfl (by omega) (.slice a n c) (u32v l) n (by simp [hn]) (owns_zero hR6) ⟨w.heap.size, 0, none⟩ 1 1 [.int .u32 x] rfl (fun j u hj => by
    have hj2 : j < 1 := (List.getElem?_eq_some_iff.1 hj).1
    obtain rfl : j = 0 := by omega
    rw [add_addr, new_cell _ _ _ _ 0 (by simp)]
    simpa using hj) (by simp [Value.oneCell']) (by omega)
  obtain ⟨a7, c7, rfl⟩ := owns_slice ho7
  refine ⟨a7, c7, w7, hap, ?_, (b56.mono hB).trans (hm7.to_below (Below.refl B _) (Nat.le_trans hB b56.size) (fun g hg => (owns_lt h hg).2))⟩
  have e2 : u32v (l ++ [x]) = u32v l ++ [.int .u32 x] := by simp
  rw [e2]
  refine owns_base ho7 (fun g hg => ?_)
  rcases hob7 with e | e
  · rw [e] at hg; exact (owns_lt h hg).2
  · rw [e] at hg; simp at hg; omega
theorem step_append_run {P : Program} {ops : Array Oper} {o : Oper} {a : Act} {w : World} {K : Act → World → Prop} {Q : Exit → Act → World → Prop} {E : Prop} (hgd : o.guard = none) (s x : Operand) (t : TypeId)
    (ho : o.op = .call { callee := .builtin .append, args := #[s, x], argTypes := #[t, t] }) {v y v' : Value} {w' : World} (hs : a.eval s = v) (hx : a.eval x = y)
    (hrun : (Builtin.append_ #[t, t] o.type #[v, y]).run P w = .ok v' w') (h : K (a.put o.dst v') w') :
    if Region.wanted o (yielded ops a.tmps) = true then Oper.wp P o a w K Q else E := by
  have hw : Region.wanted o (yielded ops a.tmps) = true := by simp [Region.wanted, hgd]
  rw [if_pos hw]
  unfold Oper.wp execOp
  simp only [ho, resolve, invoke, builtin, Sem.run_bind, Sem.run_pure, Result.andThen_ok, List.map_toArray, List.map_cons, List.map_nil, hs, hx, hrun]
  exact h
theorem RU32_is {w : World} {p : Nat} {r r' : Rd} {v : Int} (e : rd32 r = (v, r')) (h : RY w 103 p r) : Calls Tryd.prog 37 #[.pointer (some ⟨p, 0, none⟩)] w fun e w' => e = .returned (.int .u32 v) ∧ RY w' 103 p r' ∧ Mods (fun b => b = p) w w' := by
  have := RU32_y h
  rw [e] at this
  exact this
theorem RBytes_is {w : World} {p : Nat} {r r' : Rd} {v : List Int} {n : Int} {m : Nat} (e : rdBy n r = (v, r')) (hm : v.length = m) (h : RY w 103 p r) (hn : II16 n) : Calls Tryd.prog 53 #[.pointer (some ⟨p, 0, none⟩), .int .i64 n] w fun e w' => (∃ a2 c2, e = .returned (.slice a2 m c2) ∧ By w' (New w) a2 v ∧ m ≤ c2) ∧ RY w' 103 p r' ∧ Mods (fun b => b = p) w w' := by
  have := RBytes_y h n hn
  rw [e] at this
  simp only [hm] at this
  exact this
theorem mods_B {B : Nat} {w w' : World} (h : Below B w w') : Mods (fun b => B ≤ b) w w' := ⟨h.os, h.tape, h.output, h.size, fun b _ hn => h.block b (by omega)⟩
theorem rdNs_snoc (k : Nat) : ∀ r : Rd, rdNs (k + 1) r = ((rdNs k r).1 ++ [(rd32 (rdNs k r).2).1], (rd32 (rdNs k r).2).2) := by
  induction k with
  | zero => intro r; simp [rdNs]
  | succ k ih =>
    intro r
    have e : rdNs (k + 1 + 1) r = ((rd32 r).1 :: (rdNs (k + 1) (rd32 r).2).1, (rdNs (k + 1) (rd32 r).2).2) := rfl
    rw [e, ih]
    simp [rdNs]
theorem rdNs_len (k : Nat) : ∀ r : Rd, (rdNs k r).1.length = k := by
  induction k with
  | zero => intro r; rfl
  | succ k ih => intro r; simp [rdNs, ih]
theorem rdNs_l (k : Nat) : ∀ r : Rd, (rdNs k r).2.l = r.l := by
  induction k with
  | zero => intro r; rfl
  | succ k ih => intro r; rw [rdNs]; simp only; rw [ih, rd32_l]
theorem rdNs_u (k : Nat) : ∀ r : Rd, (∀ x ∈ r.l, IsB x) → ∀ x ∈ (rdNs k r).1, IsU x := by
  induction k with
  | zero => intro r h x hx; simp [rdNs] at hx
  | succ k ih =>
    intro r h x hx
    simp only [rdNs, List.mem_cons] at hx
    rcases hx with rfl | hx
    · exact rd32_u h
    · exact ih _ (by rw [rd32_l]; exact h) x hx
/-- What reading credentials answers. -/
def UnixPost (w : World) (o : Option Cr) (e : Ending) (w' : World) : Prop := Below w.heap.size w w' ∧ match o with
  | none => e = .returned (.tuple #[.agg #[.int .u32 0, .int .u32 0, .slice none 0 0], .int .u32 1])
  | some x => ∃ ag cg, e = .returned (.tuple #[.agg #[.int .u32 x.uid, .int .u32 x.gid, .slice ag x.gids.length cg], .int .u32 0]) ∧ UT w' (New w) ag x.gids ∧ x.gids.length ≤ cg
set_option maxRecDepth 100000 in
set_option maxHeartbeats 4000000 in
theorem readUnix_any (w : World) (a : Option Addr) (n c : Nat) (b : List Int) (hn : b.length = n) (hl : n ≤ 900000) (hb : Bytes w a b) :
    Calls Tryd.prog 67 #[.slice a n c] w fun e w' => UnixPost w (sysP b) e w' := by
  obtain ⟨g0, hg0⟩ : ∃ g, w.heap.size = g := ⟨_, rfl⟩
  obtain ⟨W1, hW1⟩ : ∃ W, W = w.alloc (.cells #[.int .u32 0, .int .u32 0, .slice none 0 0] 44) := ⟨_, rfl⟩
  have b1 : Below w.heap.size w W1 := by rw [hW1]; exact below_alloc (Below.refl _ _) (Nat.le_refl _) _
  have z1 : W1.heap[g0]? = some (.cells #[.int .u32 0, .int .u32 0, .slice none 0 0] 44 (0, 0)) := by rw [hW1, ← hg0]; exact alloc_new w _
  have hg1 : g0 < W1.heap.size := (Array.getElem?_eq_some_iff.1 z1).1
  have hIB := hb.isB
  have HNR := hid (NewReader_any W1 a n c b hn hl (hb.later b1))
  obtain ⟨x0, r1, e0⟩ : ∃ x r, rd32 ⟨b, 0, 0⟩ = (x, r) := ⟨_, _, rfl⟩
  obtain ⟨x1, r2, e1⟩ : ∃ x r, rdBy 255 r1 = (x, r) := ⟨_, _, rfl⟩
  obtain ⟨u, r3, e2⟩ : ∃ x r, rd32 r2 = (x, r) := ⟨_, _, rfl⟩
  obtain ⟨g, r4, e3⟩ : ∃ x r, rd32 r3 = (x, r) := ⟨_, _, rfl⟩
  obtain ⟨nn, r5, e4⟩ : ∃ x r, rd32 r4 = (x, r) := ⟨_, _, rfl⟩
  have hsys : sysP b = if 16 < nn then none else if (rdNs nn.toNat r5).2.e = 0 ∧ (rdNs nn.toNat r5).2.l.length - (rdNs nn.toNat r5).2.k = 0 then some ⟨u, g, (rdNs nn.toNat r5).1⟩ else none := by
    unfold sysP
    simp only [e0, e1, e2, e3, e4]
  have l1 : r1.l = b := by have := rd32_l ⟨b, 0, 0⟩; rw [e0] at this; exact this
  have l2 : r2.l = b := by have := rdBy_l 255 r1; rw [e1] at this; exact this.trans l1
  have l3 : r3.l = b := by have := rd32_l r2; rw [e2] at this; exact this.trans l2
  have l4 : r4.l = b := by have := rd32_l r3; rw [e3] at this; exact this.trans l3
  have l5 : r5.l = b := by have := rd32_l r4; rw [e4] at this; exact this.trans l4
  have un : IsU nn := by have := rd32_u (r := r4) (by rw [l4]; exact hIB); rw [e4] at this; exact this
  unfold IsU at un
  obtain ⟨N, rfl⟩ : ∃ N : Nat, nn = N := ⟨nn.toNat, by omega⟩
  rw [hsys]
  simp only [Int.toNat_natCast]
  obtain ⟨OS, hOS⟩ : ∃ o, (if 16 < (N : Int) then none else if (rdNs N r5).2.e = 0 ∧ (rdNs N r5).2.l.length - (rdNs N r5).2.k = 0 then some (⟨u, g, (rdNs N r5).1⟩ : Cr) else none) = o := ⟨_, rfl⟩
  rw [hOS]
  have HOS := hid hOS
  obtain ⟨m1, hm1⟩ : ∃ m, x1.length = m := ⟨_, rfl⟩
  have HRU : Hid (∀ x ∈ r5.l, IsB x) := hid (by rw [l5]; exact hIB)
  have E0 := hid e0
  have E1 := hid e1
  have E2 := hid e2
  have E3 := hid e3
  have E4 := hid e4
  have HB1 := hid b1
  have HZ1 := hid z1
  have HG1 := hid hg1
  have HLM := hid hm1
  have hW1' := hW1.symm
  clear hn hl hb b1 z1 hg1 hIB e0 e1 e2 e3 e4 hsys l1 l2 l3 l4 l5 hm1 hW1 hOS
  go_enter Tryd.func67, Tryd.ntmps67
  go_upto_region 6 with (first
    | (go_at_call 22
       (try rw [hW1'])
       refine HNR.out.mono ?_
       rintro e w2 ⟨p, rfl, hp1, hx, hp2, hb2, hp3⟩
       have HX0 := hid (hx (fun b => p ≤ b) (Nat.le_refl _) (fun b _ h1 h2 => by omega))
       have HM0 : Hid (Mods (fun b => b = p) W1 w2) := hid (Mods.of_below hb2)
       have HP := hid (And.intro hp1 hp2)
       clear hx hb2 HNR hp1 hp2 hp3)
    | (go_at_call 37
       refine (RU32_is E0.out HX0.out).mono ?_
       rintro e w3 ⟨rfl, hx, hm⟩
       have HX1 := hid hx
       have HM1 := hid (HM0.out.tr hm)
       clear hx hm HX0 HM0 E0)
    | (go_at_call 53
       refine (RBytes_is E1.out HLM.out HX1.out (by unfold II16; omega)).mono ?_
       rintro e w4 ⟨⟨a4, c4, rfl, _, _⟩, hx, hm⟩
       have HX2 := hid hx
       have HM2 := hid (HM1.out.tr hm)
       clear hx hm HX1 HM1 E1)
    | (go_at_call 37
       refine (RU32_is E2.out HX2.out).mono ?_
       rintro e w5 ⟨rfl, hx, hm⟩
       have HX3 := hid hx
       have HM3 := hid (HM2.out.tr hm)
       clear hx hm HX2 HM2 E2)
    | (go_at_call 37
       refine (RU32_is E3.out HX3.out).mono ?_
       rintro e w6 ⟨rfl, hx, hm⟩
       have HX4 := hid hx
       have HM4 := hid (HM3.out.tr hm)
       have hz6 := (HM4.out.block g0 HG1.out (fun e => by have := HP.out.1; have := HG1.out; omega)).trans HZ1.out
       have HZ6 := hid hz6
       obtain ⟨W7, hW7⟩ : ∃ W, W = w6.alloc (.cells #[.int .u32 0, .int .u32 0, .slice none 0 0] 44) := ⟨_, rfl⟩
       have b7 : Below w6.heap.size w6 W7 := by rw [hW7]; exact below_alloc (Below.refl _ _) (Nat.le_refl _) _
       have z7 : W7.heap[w6.heap.size]? = some (.cells #[.int .u32 0, .int .u32 0, .slice none 0 0] 44 (0, 0)) := by rw [hW7]; exact alloc_new w6 _
       obtain ⟨gc, hgc⟩ : ∃ g, w6.heap.size = g := ⟨_, rfl⟩
       rw [hgc] at z7
       obtain ⟨W8, hW8⟩ : ∃ W, W = W7.setRow gc #[.int .u32 u, .int .u32 g, .slice none 0 0] := ⟨_, rfl⟩
       have z8 : W8.heap[gc]? = some (.cells #[.int .u32 u, .int .u32 g, .slice none 0 0] 44 (0, 0)) := by rw [hW8]; exact setRow_heap _ gc _ _ _ _ z7
       have hq8 : Mods (fun b => b = gc) W7 W8 := by rw [hW8]; exact setRow_mods _ _ _
       have hs7 : gc < W7.heap.size := (Array.getElem?_eq_some_iff.1 z7).1
       have hgp : p < gc := by rw [← hgc]; have := HP.out.2; have := HM4.out.size; have := HX4.out.lt; omega
       have hgg : g0 < gc := by rw [← hgc]; have := HG1.out; have := HM4.out.size; omega
       have HX8 := hid (RY.side (RX.later HX4.out b7) hq8 (fun b hb => by have h : b = gc := hb; omega))
       have HZ7 := hid z7
       have HZ8 := hid z8
       have hz68 : W8.heap[g0]? = some (.cells #[.int .u32 0, .int .u32 0, .slice none 0 0] 44 (0, 0)) := (hq8.block g0 (by omega) (by omega)).trans ((b7.block g0 (by omega)).trans hz6)
       have HZ68 := hid hz68
       have hm8 : Mods (fun b => b = p) W1 W8 := (HM4.out.tr (Mods.of_below b7)).trans hq8 (fun b hb => .inr (by have h : b = gc := hb; have := HM4.out.size; omega))
       have HM8 := hid hm8
       have HGC := hid (And.intro hgp (And.intro hgg hs7))
       have hW7' := hW7.symm
       have hW8' := hW8.symm
       clear hz6 b7 z7 z8 hq8 hs7 hgp hgg hz68 hm8 hW7 hW8
       clear hx hm HX3 HM3 E3)
    | ((try rw [hW7']); refine wpList_store_row rfl 44 _ _ rfl gc #[.int .u32 u, .int .u32 g, .slice none 0 0] rfl rfl 44 _ HZ7.out sizeCred rfl (crC_one _ _ _ _ _) ?_; (try rw [hW8']))
    | (go_at_call 37
       refine (RU32_is E4.out HX8.out).mono ?_
       rintro e w9 ⟨rfl, hx, hm⟩
       have hz9 := (hm.block gc (by have := HGC.out.2.2; have := HM8.out.size; exact (Array.getElem?_eq_some_iff.1 HZ8.out).1) (fun e => by have := HGC.out.1; omega)).trans HZ8.out
       have hz69 := (hm.block g0 (by have := (Array.getElem?_eq_some_iff.1 HZ8.out).1; have := HGC.out.2.1; omega) (fun e => by have := HGC.out.1; have := HGC.out.2.1; have := HP.out.1; have := HG1.out; omega)).trans HZ68.out
       have HX9 := hid hx
       have HM9 := hid (HM8.out.tr hm)
       have HZ9 := hid hz9
       have HZ69 := hid hz69
       clear hx hm hz9 hz69 HX8 HM8 E4))
  have HW9 : Hid (Below w.heap.size w w9) := hid (HM9.out.to_below HB1.out HB1.out.size (fun b hb => by have h : b = p := hb; rw [h]; exact Nat.le_trans HB1.out.size HP.out.1))
  by_cases hbig : 16 < N
  · have hbi : (16 : Int) < N := by omega
    have hON : OS = none := by rw [← HOS.out, if_pos hbi]
    have HON := hid hON
    clear hON
    go_wp2_with (refine wpList_store_row rfl 44 _ _ rfl g0 #[.int .u32 0, .int .u32 0, .slice none 0 0] rfl rfl 44 _ HZ69.out sizeCred rfl (crC_one _ _ _ _ _) ?_)
    refine bodyPost_ret (results_ct rfl _ _ g0 #[.int .u32 0, .int .u32 0, .slice none 0 0] _ _ rfl (setRow_heap _ g0 _ _ _ _ HZ69.out) Tryd.underlying44 sizeCred) rfl ?_
    exact ⟨(setRow_mods w9 g0 _).to_below HW9.out HW9.out.size (fun b hb => by have h : b = g0 := hb; omega), by rw [HON.out]; rfl⟩
  · have hbi : ¬ ((16 : Int) < N) := by omega
    have hON := HOS.out
    rw [if_neg hbi] at hON
    have HON := hid hON
    clear hON
    obtain ⟨B, hB⟩ : ∃ B, w9.heap.size = B := ⟨_, rfl⟩
    have hpB : p < B := by rw [← hB]; exact HX9.out.lt
    have hcB : gc < B := by rw [← hB]; exact (Array.getElem?_eq_some_iff.1 HZ9.out).1
    have hg0p : g0 ≠ p := by have := HP.out.1; have := HG1.out; omega
    have HBB := hid (And.intro hpB (And.intro hcB hg0p))
    have HBE := hid hB
    have hown0 : w9.ownsRow B 41 1 (.slice none 0 0) 0 (u32v []) := ⟨by simp, .inl ⟨rfl, rfl⟩⟩
    have HO0 := hid hown0
    clear hpB hcB hg0p hown0 hB
    go_wp2
    go_loopw [24] (fun i wr => ∃ (k : Nat) (ag : Option Addr) (cg : Nat), k ≤ N ∧ i = .int .u32 k ∧ RY wr 103 p (rdNs k r5).2 ∧ Mods (fun b => b = p ∨ b = gc) w9 wr ∧ wr.heap[gc]? = some (.cells #[.int .u32 u, .int .u32 g, .slice ag k cg] 44 (0, 0)) ∧ wr.ownsRow B 41 1 (.slice ag k cg) k (u32v (rdNs k r5).1) ∧ wr.heap[g0]? = some (.cells #[.int .u32 0, .int .u32 0, .slice none 0 0] 44 (0, 0))) (fun i _ => N - (intOf i).toNat)
    case atStart => exact ⟨0, none, 0, Nat.zero_le _, rfl, HX9.out, Mods.refl _ _, HZ9.out, HO0.out, HZ69.out⟩
    case round =>
      obtain ⟨k, ag, cg, hk, rfl, hx, hm, hz, ho, hz0⟩ := hrel
      have HXk := hid hx
      have HMk := hid hm
      have HOk := hid ho
      have HZk := hid hz
      have HZ0k := hid hz0
      have cg2 := cell_of hz (i := 2) (v := .slice ag k cg) rfl
      clear hx hm ho hz hz0
      by_cases hlt : k < N
      · have hki : (k : Int) < N := by omega
        have hki' : (k : Int) < (N : Nat) := hki
        have hwk : IntKind.u32.wrap ((k : Int) + 1) = (k : Int) + 1 := IntWalk.u32_in _ (by omega)
        have HSN := hid (rdNs_snoc k r5)
        have HLN := hid (rdNs_len k r5)
        obtain ⟨⟨lk, rk⟩, hq⟩ : ∃ q, rdNs k r5 = q := ⟨_, rfl⟩
        rw [hq] at HXk HOk HSN HLN
        simp only at HXk HOk HSN HLN
        obtain ⟨⟨v, r'⟩, hqv⟩ : ∃ q, rd32 rk = q := ⟨_, rfl⟩
        rw [hqv] at HSN
        simp only at HSN
        have EV := hid hqv
        clear hq hqv
        go_wp2
        go_region_law (first
          | (go_simp
             go_at_call 37
             refine (RU32_is EV.out (RX.later HXk.out (Below.refl _ _).drew)).mono ?_
             rintro e wz ⟨rfl, hx, hm⟩
             have hmz : Mods (fun b => b = p) wr wz := (Mods.of_below (al := fun b => b = p) (Below.refl _ _).drew).tr hm
             have hzz := (hmz.block gc (Array.getElem?_eq_some_iff.1 HZk.out).1 (fun e => by have := HGC.out.1; omega)).trans HZk.out
             have hz00 := (hmz.block g0 (Array.getElem?_eq_some_iff.1 HZ0k.out).1 HBB.out.2.2).trans HZ0k.out
             have hoz := owns_keep HOk.out (fun b hb => hmz.block b (owns_lt HOk.out hb).1 (fun e => by have := (owns_lt HOk.out hb).2; have := HBB.out.1; omega))
             have hBz : B ≤ wz.heap.size := by have := HMk.out.size; have := hmz.size; have := HBE.out; omega
             obtain ⟨a7, c7, w7, hap, ho7, hb7⟩ := pushU wz B ag k cg lk HLN.out hoz hBz v (by omega)
             have hz7 := (hb7.block gc HBB.out.2.1).trans hzz
             have hz07 := (hb7.block g0 (by have := HBB.out.2.1; have := HGC.out.2.1; omega)).trans hz00
             have cgz := cell_of hzz (i := 2) (v := .slice ag k cg) rfl
             obtain ⟨Wa, hWa⟩ : ∃ W, W = wz.alloc (.cells #[.int .u32 v] 41) := ⟨_, rfl⟩
             have cga : Wa.cell? ⟨gc, 2, none⟩ = some (.slice ag k cg) := by rw [hWa]; exact cell_later (below_alloc (Below.refl _ _) (Nat.le_refl _) _) cgz
             rw [← hWa] at hap
             have cg7 := cell_of hz7 (i := 2) (v := .slice ag k cg) rfl
             have fg7 := froz_of hz7 2
             have HAP := hid hap
             have HX7 := hid hx
             have HB7 := hid hb7
             have HO7 := hid ho7
             have HZ7' := hid hz7
             have HZ07 := hid hz07
             have HMZ := hid hmz
             have hWa' := hWa.symm
             clear hx hm hmz hzz hz00 hoz hBz hap ho7 hb7 hz7 hz07 hWa)
          | (refine step_append_run rfl _ _ 42 rfl rfl rfl HAP.out ?_))
        all_goals
          go_wp2
          go_roundw
          case rel =>
            have hm7 : Mods (fun b => gc ≤ b) wz (w7.setCell ⟨gc, 2, none⟩ (.slice a7 (k + 1) c7)) := ((mods_B HB7.out).weak (al' := fun b => gc ≤ b) (fun b hb => .inl (by have h : B ≤ b := hb; have := HBB.out.2.1; omega))).setCell gc 2 _ (Nat.le_refl _)
            refine ⟨k + 1, a7, c7, by omega, by go_num, ?_, ?_, setc HZ7'.out 2 _, ?_, ?_⟩
            · rw [HSN.out]
              exact RY.side HX7.out hm7 (fun b hb => Nat.lt_of_lt_of_le HGC.out.1 hb)
            · refine ((HMk.out.tr (HMZ.out.weak (al' := fun b => b = p ∨ b = gc) (fun b hb => .inl (.inl hb)))).trans (mods_B HB7.out) (fun b hb => .inr (by have h : B ≤ b := hb; rw [HBE.out]; exact h))).setCell gc 2 _ (.inr rfl)
            · rw [HSN.out]
              refine owns_keep HO7.out (fun b hb => ((Mods.refl (fun b => b = gc) w7).setCell gc 2 _ rfl).block b (owns_lt HO7.out hb).1 (fun e => by have := (owns_lt HO7.out hb).2; have := HBB.out.2.1; omega))
            · exact (((Mods.refl (fun b => b = gc) w7).setCell gc 2 _ rfl).block g0 (Array.getElem?_eq_some_iff.1 HZ07.out).1 (by have := HGC.out.2.1; omega)).trans HZ07.out
          case measure => simp [intOf]; omega
      · have hkN : N = k := by omega
        subst hkN
        have hki : ¬ ((N : Int) < N) := by omega
        have hON := HON.out
        have HUL := hid (rdNs_u N r5 HRU.out)
        have HLN := hid (rdNs_len N r5)
        obtain ⟨⟨lN, rN⟩, hq⟩ : ∃ q, rdNs N r5 = q := ⟨_, rfl⟩
        rw [hq] at HXk HOk HUL HLN hON
        simp only at HXk HOk HUL HLN hON
        obtain ⟨en, hen⟩ : ∃ e, rN.e = e := ⟨_, rfl⟩
        obtain ⟨ln, hln⟩ : ∃ e, rN.l.length - rN.k = e := ⟨_, rfl⟩
        rw [hen, hln] at hON
        have HER := hid (RErr_any HXk.out)
        rw [hen] at HER
        have HWk : Hid (Below w.heap.size w wr) := hid (HMk.out.to_below HW9.out HW9.out.size (fun b hb => by
          have h1 := HB1.out.size
          have h2 := HP.out.1
          have h3 := HGC.out.1
          rcases hb with h | h
          · rw [h]; omega
          · rw [h]; omega))
        have HLE : Hid (∀ W, RY W 103 p rN → Calls Tryd.prog 71 #[.pointer (some ⟨p, 0, none⟩)] W fun e w' => e = .returned (.int .i64 (ln : Nat)) ∧ Below W.heap.size W w') := hid (fun W hW => by have := RLeft_any hW; rwa [hln] at this)
        clear hq hen hln
        by_cases h0 : en = 0
        · subst h0
          by_cases h1 : ln = 0
          · subst h1
            rw [if_pos ⟨rfl, rfl⟩] at hON
            have HON2 := hid hON
            clear hON
            go_wp2_with (first
              | (go_at_call 39
                 refine HER.out.mono ?_
                 rintro e w2 ⟨rfl, hw2⟩
                 rw [hw2]
                 clear hw2 HER)
              | (go_at_call 71
                 refine (HLE.out _ HXk.out).mono ?_
                 rintro e w3 ⟨rfl, hb3⟩
                 have hz3 := (hb3.block g0 (Array.getElem?_eq_some_iff.1 HZ0k.out).1).trans HZ0k.out
                 have hc3 := (hb3.block gc (Array.getElem?_eq_some_iff.1 HZk.out).1).trans HZk.out
                 have HZ3 := hid hz3
                 have HC3 := hid hc3
                 have HB3 := hid hb3
                 clear hz3 hc3 hb3 HLE)
              | (refine wpList_load_row rfl 44 _ rfl gc rfl 44 _ (0, 0) _ HC3.out Tryd.underlying44 rfl sizeCred ?_)
              | (refine wpList_store_row rfl 44 _ _ rfl g0 #[.int .u32 u, .int .u32 g, .slice ag N cg] rfl rfl 44 _ HZ3.out sizeCred rfl (crC_one _ _ _ _ _) ?_))
            refine bodyPost_ret (results_ct rfl _ _ g0 #[.int .u32 u, .int .u32 g, .slice ag N cg] _ _ rfl (setRow_heap _ g0 _ _ _ _ HZ3.out) Tryd.underlying44 sizeCred) rfl ?_
            have hq := setRow_mods w3 g0 #[.int .u32 u, .int .u32 g, .slice ag N cg]
            have hbz := HWk.out.trans (HB3.out.mono HWk.out.size)
            have ho3 := owns_keep HOk.out (fun b hb => HB3.out.block b (owns_lt HOk.out hb).1)
            have hgB : g0 < B := by have := HBB.out.2.1; have := HGC.out.2.1; omega
            have ho4 := owns_keep ho3 (fun b hb => hq.block b (owns_lt ho3 hb).1 (fun e => by have h : b = g0 := e; have := (owns_lt ho3 hb).2; omega))
            obtain ⟨a', c', e1, hc', hlen', hut⟩ := UT.of_owns (T := New w) ho4 HUL.out (fun b hb => by have h1 := (owns_lt ho4 hb).2; have h2 := HBE.out; have h3 := HW9.out.size; show w.heap.size ≤ b; omega)
            simp only [Value.slice.injEq, true_and] at e1
            obtain ⟨rfl, rfl⟩ := e1
            refine ⟨hq.to_below hbz hbz.size (fun b hb => by have h : b = g0 := hb; omega), ?_⟩
            rw [← HON2.out]
            simp only [hlen']
            exact ⟨_, _, rfl, hut, hc'⟩
          · rw [if_neg (fun hh => h1 hh.2)] at hON
            have HON2 := hid hON
            have hpos : (0 : Int) < (ln : Nat) := by omega
            clear hON h1
            go_wp2_with (first
              | (go_at_call 39
                 refine HER.out.mono ?_
                 rintro e w2 ⟨rfl, hw2⟩
                 rw [hw2]
                 clear hw2 HER)
              | (go_at_call 71
                 refine (HLE.out _ HXk.out).mono ?_
                 rintro e w3 ⟨rfl, hb3⟩
                 have hz3 := (hb3.block g0 (Array.getElem?_eq_some_iff.1 HZ0k.out).1).trans HZ0k.out
                 have HZ3 := hid hz3
                 have HB3 := hid hb3
                 clear hz3 hb3 HLE)
              | (refine wpList_store_row rfl 44 _ _ rfl g0 #[.int .u32 0, .int .u32 0, .slice none 0 0] rfl rfl 44 _ HZ3.out sizeCred rfl (crC_one _ _ _ _ _) ?_))
            refine bodyPost_ret (results_ct rfl _ _ g0 #[.int .u32 0, .int .u32 0, .slice none 0 0] _ _ rfl (setRow_heap _ g0 _ _ _ _ HZ3.out) Tryd.underlying44 sizeCred) rfl ?_
            exact ⟨(setRow_mods w3 g0 _).to_below (HWk.out.trans (HB3.out.mono HWk.out.size)) (Nat.le_trans HWk.out.size HB3.out.size) (fun b hb => by have h : b = g0 := hb; omega), by rw [← HON2.out]; rfl⟩
        · rw [if_neg (fun hh => h0 hh.1)] at hON
          have HON2 := hid hON
          have hne : (en != 0) = true := by simpa using h0
          clear hON h0
          go_wp2_with (first
            | (go_at_call 39
               refine HER.out.mono ?_
               rintro e w2 ⟨rfl, hw2⟩
               rw [hw2]
               clear hw2 HER)
            | (refine wpList_store_row rfl 44 _ _ rfl g0 #[.int .u32 0, .int .u32 0, .slice none 0 0] rfl rfl 44 _ HZ0k.out sizeCred rfl (crC_one _ _ _ _ _) ?_))
          refine bodyPost_ret (results_ct rfl _ _ g0 #[.int .u32 0, .int .u32 0, .slice none 0 0] _ _ rfl (setRow_heap _ g0 _ _ _ _ HZ0k.out) Tryd.underlying44 sizeCred) rfl ?_
          exact ⟨(setRow_mods wr g0 _).to_below HWk.out HWk.out.size (fun b hb => by have h : b = g0 := hb; omega), by rw [← HON2.out]; rfl⟩

end Go.Proofs.YtbfdkbdjipiliaaDoor
