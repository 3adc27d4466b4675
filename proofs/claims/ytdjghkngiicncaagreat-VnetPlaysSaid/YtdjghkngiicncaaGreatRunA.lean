/- DrvE, PureB, PureC, RunA in one text. -/
import Derived.Test.YtdjghkngiicncaaGreatDrvD
/- Free, Flying: how many are free, which heads are in flight. -/
namespace Go.Proofs.YtdjghkngiicncaaGreat
open Go.RowKit Go.Maps Go.Sort Go.Shelf

set_option maxRecDepth 100000 in
set_option maxHeartbeats 400000 in
theorem Free_any (w : World) (pd : Nat) (q : Qu) (A : Abs) (c : Nat) (al : Nat → Prop) (hd : Drv w pd q A c al) :
    Calls Tryz.prog 33 #[.pointer (some ⟨pd, 0, none⟩)] w fun e w' => e = .returned (.int .i64 A.free.length) ∧ w' = w := by
  obtain ⟨vf, bm, M, d⟩ := hd
  obtain ⟨g, base, n, N, po, pu, Ld, Lo, Lu, geo⟩ := q
  obtain ⟨_, _, _, _, _, _, _, _, _, _, d10, _, _⟩ := d.cells
  obtain ⟨va, vc, rfl⟩ := d.fr.shape
  generalize A.free.length = len at *
  clear d
  go_enter Tryz.func33, Tryz.ntmps33
  go_wp2
  go_ret
  exact ⟨rfl, rfl⟩

theorem sorts_any (m : Nat) : AnyZI.SortsIn Tryz.prog Tryz.sortedA_ren Fence.wide m :=
  ⟨fun blk off cap ss W hH hblk hsz => callsIn_wide.2 (AnyM.slices_Sort_int Tryz.sortA blk off cap ss W hH hblk hsz),
   fun p cap W => callsIn_wide.2 (AnyM.slices_Sort_int_none Tryz.sortA p cap W)⟩

/-- L: the heads in flight, rising. -/
def Flies (A : Abs) (L : List Int) : Prop := L.Pairwise (· < ·) ∧ ∀ k, k ∈ L ↔ (look A.fl k).isSome = true

theorem flies_of {w : World} {pd bm : Nat} {vf : Value} {M : Int → Option Value} {q : Qu} {A : Abs} {c : Nat} {al : Nat → Prop} (d : DrvAt w pd vf bm M q A c al) {D : DataW Value} (h1 : w.ownsMap Tryz.prog 3 raw bm c D)
    (h2 : ∀ k, IsI k → ∀ z, D.atKey (.int .i64 k) z = ((M k).map DataW.held).getD z) {ss : List Int} (hp : ss.Perm (intKeys D)) : Flies A (ss.mergeSort (fun x y => decide (x ≤ y))) := by
  obtain ⟨hnd, hm⟩ := keys_of h1 h2
  have hp2 : (ss.mergeSort (fun x y => decide (x ≤ y))).Perm (intKeys D) := (List.mergeSort_perm _ _).trans hp
  refine ⟨?_, fun k => ?_⟩
  · have hs : (ss.mergeSort (fun x y => decide (x ≤ y))).Pairwise (fun x y => decide (x ≤ y) = true) := List.pairwise_mergeSort (le := fun x y : Int => decide (x ≤ y)) (fun a b c h h' => by simp at *; omega) (fun a b => by simp; omega) ss
    have hn2 : (ss.mergeSort (fun x y => decide (x ≤ y))).Nodup := hp2.nodup_iff.2 hnd
    exact (hs.and hn2).imp fun ⟨h, h'⟩ => by simp at h; omega
  · rw [hp2.mem_iff, hm k]
    constructor
    · rintro ⟨hI, hs⟩
      rcases d.ch k hI with ⟨e, _⟩ | ⟨v, l, _, hl, _⟩
      · rw [e] at hs; cases hs
      · rw [hl]; rfl
    · intro hs
      obtain ⟨l, hl⟩ := Option.isSome_iff_exists.1 hs
      obtain ⟨x, l1, l2, hfl, hx, _, _⟩ := look_some hl
      have hxl : x < q.n := by
        have := d.wf.perm.mem_iff (a := x)
        have hm1 : x ∈ A.free ++ A.fl.flatMap (·.2) := List.mem_append_right _ (List.mem_flatMap.2 ⟨(x, l), by rw [hfl]; simp, head_mem (d.wf.hd (x, l) (by rw [hfl]; simp))⟩)
        simpa using this.1 hm1
      have hI : IsI k := isI_of (by omega) (by have := q.geo.n2; omega)
      rcases d.ch k hI with ⟨_, e⟩ | ⟨v, _, e, _, _⟩
      · rw [hl] at e; cases e
      · exact ⟨hI, by rw [e]; rfl⟩

set_option maxRecDepth 100000 in
set_option maxHeartbeats 1000000 in
theorem Flying_any (w : World) (pd : Nat) (q : Qu) (A : Abs) (c : Nat) (al : Nat → Prop) (hd : Drv w pd q A c al) (hn : c ≤ 1099511627776) :
    Calls Tryz.prog 59 #[.pointer (some ⟨pd, 0, none⟩)] w fun e w' => ∃ (v : Value) (L : List Int), e = .returned v ∧ Flies A L ∧ w'.ownsRow w.heap.size 3 1 v L.length (L.map encZ) ∧ Below w.heap.size w w' := by
  obtain ⟨vf, bm, M, d⟩ := hd
  obtain ⟨g, base, n, N, po, pu, Ld, Lo, Lu, geo⟩ := q
  obtain ⟨_, _, _, _, _, _, _, _, _, _, _, d11, _⟩ := d.cells
  obtain ⟨D0, hown, hat⟩ := d.mp
  have hsz := hown.size_le
  have hmax : Maps.size D0 ≤ maxLen := by unfold maxLen; omega
  have hbytes : Maps.size D0 * 8 ≤ 140737488355328 := by omega
  have HD := hid (fun ss (hp : List.Perm ss (intKeys D0)) => flies_of d hown hat hp)
  clear hat d hsz
  refine (callsIn_wide (n := 6)).1 ?_
  have hbl := hown.lt
  have hseq : SeqGives Fence.wide 2 Tryz.prog 95 #[.pointer (some ⟨w.heap.size, 0, none⟩)] encZ (fun ss => ss.Perm (intKeys D0)) (Maps.size D0) (w.alloc (.cells #[.map (some bm)] 121)) :=
    AnyZI.keys_gives (ρ := Tryz.keysA_ren) { Tryz.keysA with } Fence.wide _ trivial rfl (by omega) w.heap.size bm c D0 _ (by simp) (by simp) (by
      obtain ⟨es, clock, hb, Ft, hs, hD⟩ := hown
      exact ⟨es, clock, (Below.heap_alloc _ _ bm hbl).trans hb, Ft, hs, hD⟩)
  have cK : ∀ mb W, CallsIn Fence.wide 5 Tryz.prog 81 #[.map mb] W fun e w' => e = .returned (.func (.func 95) #[] #[.pointer (some ⟨W.heap.size, 0, none⟩)]) ∧ w' = W.alloc (.cells #[.map mb] 121) := fun mb W => AnyZI.keys_in Tryz.keysA Fence.wide 5 trivial rfl mb W
  have cS := AnyZI.sorted_in Tryz.sortedA Fence.wide 5 trivial trivial trivial trivial rfl (by omega) (sorts_any _) (enters_of Tryz.func65 (by kernel_rfl) rfl) 95 #[.pointer (some ⟨w.heap.size, 0, none⟩)] trivial (enters_of Tryz.func95 (by kernel_rfl) rfl) _ _ hmax hbytes _ hseq
  change CallsIn _ _ Tryz.prog 80 _ _ _ at cS
  have hfK : Fence.wide.fn 81 := trivial
  have hfS : Fence.wide.fn 80 := trivial
  refine callsIn_of_wp Tryz.func59 rfl trivial ?_ rfl
  simp only [Tryz.ntmps59, List.size_toArray, List.length_cons, List.length_nil, Nat.reduceAdd, Nat.reduceSub, Array.replicate_succ, Array.replicate_zero, List.push_toArray, List.append_toArray, List.nil_append, List.cons_append]
  gi_wp2_with (first
    | (gi_at_call 81; refine (cK _ _).mono ?_; rintro e w' ⟨rfl, rfl⟩)
    | (gi_at_call 80; refine cS.mono ?_; rintro e w' ⟨v, ss, rfl, hS, hrow, hnil, hb⟩))
  go_ret
  refine ⟨v, ss.mergeSort (fun x y => decide (x ≤ y)), rfl, HD.out ss hS, ?_, ((Below.refl _ w).alloc (Nat.le_refl _) _).trans (hb.mono (by simp))⟩
  rw [List.length_mergeSort]
  exact ownsRow_base_a hrow (by simp)
end Go.Proofs.YtdjghkngiicncaaGreat

/- A chain as it lies in memory is read as it was laid; the rings. In plain mathematics. -/
namespace Go.Proofs.YtdjghkngiicncaaGreat

theorem put1_other (f : Nat → Int) (a : Nat) (b : Bf) (fl nx : Int) (p m : Nat) (h : p + m ≤ a ∨ a + 16 ≤ p) : rd (put1 f a b fl nx) p m = rd f p m := by
  unfold put1
  rw [rd_wr_other _ _ _ _ _ _ (by omega), rd_wr_other _ _ _ _ _ _ (by omega), rd_wr_other _ _ _ _ _ _ (by omega), rd_wr_other _ _ _ _ _ _ (by omega)]
theorem put1_rd (f : Nat → Int) (a : Nat) (b : Bf) (fl nx : Int) (hb : okB b) (hf : 0 ≤ fl ∧ fl < 4) (hn : 0 ≤ nx ∧ nx < 65536) :
    rd (put1 f a b fl nx) a 8 = b.addr ∧ rd (put1 f a b fl nx) (a + 8) 4 = b.len ∧ rd (put1 f a b fl nx) (a + 12) 2 = fl ∧ rd (put1 f a b fl nx) (a + 14) 2 = nx := by
  obtain ⟨h1, h2, h3, h4⟩ := hb
  unfold put1
  refine ⟨?_, ?_, ?_, ?_⟩
  · rw [rd_wr_other _ _ _ _ _ _ (by omega), rd_wr_other _ _ _ _ _ _ (by omega), rd_wr_other _ _ _ _ _ _ (by omega), rd_wr_same _ _ _ _ h1 (by omega)]
  · rw [rd_wr_other _ _ _ _ _ _ (by omega), rd_wr_other _ _ _ _ _ _ (by omega), rd_wr_same _ _ _ _ h3 (by omega)]
  · rw [rd_wr_other _ _ _ _ _ _ (by omega), rd_wr_same _ _ _ _ hf.1 (by omega)]
  · rw [rd_wr_same _ _ _ _ hn.1 (by omega)]

theorem layTo_other (f : Nat → Int) (base : Nat) (nums : List Nat) (l : List Bf) (p m : Nat) : ∀ k, (∀ j, j < k → p + m ≤ base + nums.getD j 0 * 16 ∨ base + nums.getD j 0 * 16 + 16 ≤ p) → rd (layTo f base nums l k) p m = rd f p m
  | 0, _ => rfl
  | k + 1, h => by
    rw [layTo, put1_other _ _ _ _ _ _ _ (h k (by omega))]
    exact layTo_other f base nums l p m k (fun j hj => h j (by omega))

def Chain (f : Nat → Int) (base : Nat) (nums : List Nat) (l : List Bf) : Prop := nums.length = l.length ∧ ∀ k, k < l.length →
  rd f (base + nums.getD k 0 * 16) 8 = (l.getD k default).addr ∧ rd f (base + nums.getD k 0 * 16 + 8) 4 = (l.getD k default).len ∧
  rd f (base + nums.getD k 0 * 16 + 12) 2 = flagsOf (l.getD k default).wt (decide (k + 1 < l.length)) ∧ (k + 1 < l.length → rd f (base + nums.getD k 0 * 16 + 14) 2 = (nums.getD (k + 1) 0 : Nat))

theorem flagsOf_bd (a b : Bool) : 0 ≤ flagsOf a b ∧ flagsOf a b < 4 := by cases a <;> cases b <;> decide
theorem flagN_of (a b : Bool) : flagN (flagsOf a b) = b := by cases a <;> cases b <;> decide
theorem flagW_of (a b : Bool) : flagW (flagsOf a b) = a := by cases a <;> cases b <;> decide

theorem getD_ne (l : List Nat) (h : l.Nodup) (i j : Nat) (hi : i < l.length) (hj : j < l.length) (hne : i ≠ j) : l.getD i 0 ≠ l.getD j 0 := by
  rw [show l.getD i 0 = l[i] by simp [List.getD, hi], show l.getD j 0 = l[j] by simp [List.getD, hj]]
  intro e
  exact hne ((List.getElem_inj h).1 e)

theorem layTo_chain (f : Nat → Int) (base : Nat) (nums : List Nat) (l : List Bf) (hl : nums.length = l.length) (hnd : nums.Nodup) (hok : ∀ b ∈ l, okB b) (hn : ∀ x ∈ nums, x < 65536) :
    ∀ k, k ≤ l.length → ∀ j, j < k → rd (layTo f base nums l k) (base + nums.getD j 0 * 16) 8 = (l.getD j default).addr ∧ rd (layTo f base nums l k) (base + nums.getD j 0 * 16 + 8) 4 = (l.getD j default).len ∧
      rd (layTo f base nums l k) (base + nums.getD j 0 * 16 + 12) 2 = flagsOf (l.getD j default).wt (decide (j + 1 < l.length)) ∧ (j + 1 < l.length → rd (layTo f base nums l k) (base + nums.getD j 0 * 16 + 14) 2 = (nums.getD (j + 1) 0 : Nat))
  | 0, _, j, hj => by omega
  | k + 1, hk, j, hj => by
    by_cases e : j = k
    · subst e
      have hnx : (0 : Int) ≤ (if j + 1 < l.length then ((nums.getD (j + 1) 0 : Nat) : Int) else 0) ∧ (if j + 1 < l.length then ((nums.getD (j + 1) 0 : Nat) : Int) else 0) < 65536 := by
        split
        · rename_i h
          have := hn _ (getD_mem nums 0 (j + 1) (by omega))
          omega
        · omega
      obtain ⟨h1, h2, h3, h4⟩ := put1_rd (layTo f base nums l j) (base + nums.getD j 0 * 16) (l.getD j default) (flagsOf (l.getD j default).wt (decide (j + 1 < l.length))) (if j + 1 < l.length then (nums.getD (j + 1) 0 : Nat) else 0) (hok _ (getD_mem l default j (by omega))) (flagsOf_bd _ _) hnx
      refine ⟨h1, h2, h3, fun hlt => ?_⟩
      rw [layTo, h4, if_pos hlt]
    · have hne := getD_ne nums hnd j k (by omega) (by omega) e
      obtain ⟨h1, h2, h3, h4⟩ := layTo_chain f base nums l hl hnd hok hn k (by omega) j (by omega)
      rw [layTo, put1_other _ _ _ _ _ _ _ (by omega), put1_other _ _ _ _ _ _ _ (by omega), put1_other _ _ _ _ _ _ _ (by omega), put1_other _ _ _ _ _ _ _ (by omega)]
      exact ⟨h1, h2, h3, h4⟩

theorem Chain.congr {f f' : Nat → Int} {base : Nat} {nums : List Nat} {l : List Bf} (h : Chain f base nums l) (he : ∀ k, k < nums.length → ∀ p m, base + nums.getD k 0 * 16 ≤ p → p + m ≤ base + nums.getD k 0 * 16 + 16 → rd f' p m = rd f p m) : Chain f' base nums l := by
  refine ⟨h.1, fun k hk => ?_⟩
  obtain ⟨h1, h2, h3, h4⟩ := h.2 k hk
  have hk' : k < nums.length := by rw [h.1]; exact hk
  rw [he k hk' _ 8 (by omega) (by omega), he k hk' _ 4 (by omega) (by omega), he k hk' _ 2 (by omega) (by omega), he k hk' _ 2 (by omega) (by omega)]
  exact ⟨h1, h2, h3, h4⟩

theorem take_snocB (l : List Bf) (k : Nat) (h : k < l.length) : l.take (k + 1) = l.take k ++ [l.getD k default] := by
  rw [List.take_succ_eq_append_getElem h]
  simp [List.getD, h]

/-- A chain that lies in memory is read as it was laid. -/
theorem rch_chain (f : Nat → Int) (base n : Nat) (nums : List Nat) (l : List Bf) (h : Chain f base nums l) (h0 : 0 < l.length) (hln : l.length ≤ n) (hn : ∀ x ∈ nums, x < n) (ha : ∀ b ∈ l, b.addr ≤ 4611686018427387904) :
    rch f base n (n + 1) (nums.getD 0 0) [] = some l := by
  have gen : ∀ d k, d + k + 1 = l.length → rch f base n (n + 1 - k) (nums.getD k 0) (l.take k) = some l := by
    intro d
    induction d with
    | zero =>
      intro k hk
      obtain ⟨fu, hfu⟩ : ∃ fu, n + 1 - k = fu + 1 := ⟨n - k, by omega⟩
      obtain ⟨h1, h2, h3, h4⟩ := h.2 k (by omega)
      have hlt := hn _ (getD_mem nums 0 k (by rw [h.1]; omega))
      have hb := ha _ (getD_mem l default k (by omega))
      rw [hfu, rch, if_neg (by rw [List.length_take]; omega), h1, if_neg (by omega), h3, flagN_of, decide_eq_false (by omega), h2, flagW_of]
      simp only [Bool.false_eq_true, if_false]
      have := take_snocB l k (by omega)
      rw [List.take_of_length_le (by omega)] at this
      exact congrArg some this.symm
    | succ d ih =>
      intro k hk
      obtain ⟨fu, hfu⟩ : ∃ fu, n + 1 - k = fu + 1 := ⟨n - k, by omega⟩
      obtain ⟨h1, h2, h3, h4⟩ := h.2 k (by omega)
      have hlt := hn _ (getD_mem nums 0 k (by rw [h.1]; omega))
      have hb := ha _ (getD_mem l default k (by omega))
      rw [hfu, rch, if_neg (by rw [List.length_take]; omega), h1, if_neg (by omega), h3, flagN_of, decide_eq_true (by omega), h2, flagW_of, h4 (by omega)]
      simp only [if_true, Int.toNat_natCast]
      have := ih (k + 1) (by omega)
      rw [show n + 1 - (k + 1) = fu by omega, take_snocB l k (by omega)] at this
      exact this
  have := gen (l.length - 1) 0 (by omega)
  simpa using this
end Go.Proofs.YtdjghkngiicncaaGreat

/- Two sides that keep to the rules: what is offered is taken in order, what is given back is used. -/
namespace Go.Proofs.YtdjghkngiicncaaGreat

/-- Nothing but the two sides wrote into memory; P: what was offered and not yet taken. -/
structure Sane (q : Qu) (f : Nat → Int) (A : Abs) (vo : Nat) (P : List (List Nat × List Bf)) : Prop where
  wf : Wf q.n A
  pw : pow2 q.n = true
  io : rd f (q.po + 2) 2 = A.offers
  iu : rd f (q.pu + 2) 2 = A.uses
  fl : A.fl = P.map (fun p => (p.1.getD 0 0, p.1))
  lt : vo < 65536
  off : A.offers = (vo + P.length) % 65536
  ring : ∀ i, i < P.length → rd f (q.po + (4 + (vo + i) % q.n * 2)) 2 = ((P.getD i default).1.getD 0 0 : Nat)
  ch : ∀ p ∈ P, Chain f q.base p.1 p.2 ∧ 0 < p.2.length ∧ ∀ b ∈ p.2, b.addr ≤ 4611686018427387904

theorem pow2_cases {n : Nat} (h : pow2 n = true) : n = 1 ∨ n = 2 ∨ n = 4 ∨ n = 8 ∨ n = 16 ∨ n = 32 ∨ n = 64 ∨ n = 128 ∨ n = 256 := by
  simp [pow2] at h
  omega
theorem mod_step {n : Nat} (h : pow2 n = true) (a i : Nat) : ((a + 1) % 65536 + i) % n = (a + (i + 1)) % n := by
  rcases pow2_cases h with rfl | rfl | rfl | rfl | rfl | rfl | rfl | rfl | rfl <;> omega
theorem mod_mod {n : Nat} (h : pow2 n = true) (a : Nat) : a % 65536 % n = a % n := by
  rcases pow2_cases h with rfl | rfl | rfl | rfl | rfl | rfl | rfl | rfl | rfl <;> omega
theorem mod_ne {n : Nat} (h : pow2 n = true) (a i j : Nat) (hij : i < j) (hj : j < n) : (a + i) % n ≠ (a + j) % n := by
  rcases pow2_cases h with rfl | rfl | rfl | rfl | rfl | rfl | rfl | rfl | rfl <;> omega

theorem flat_len (P : List (List Nat × List Bf)) (h : ∀ p ∈ P, 0 < p.1.length) : P.length ≤ ((P.map (fun p => (p.1.getD 0 0, p.1))).flatMap (·.2)).length := by
  induction P with
  | nil => simp
  | cons p P ih =>
    have h1 := h p (by simp)
    have h2 := ih (fun x hx => h x (by simp [hx]))
    simp only [List.map_cons, List.flatMap_cons, List.length_append, List.length_cons]
    omega
theorem Sane.len {q : Qu} {f : Nat → Int} {A : Abs} {vo : Nat} {P : List (List Nat × List Bf)} (h : Sane q f A vo P) : A.free.length + P.length ≤ q.n := by
  have h1 := h.wf.len
  have h2 := flat_len P (fun p hp => by have := (h.ch p hp).1.1; have := (h.ch p hp).2.1; omega)
  rw [h.fl] at h1
  omega
theorem Sane.num_lt {q : Qu} {f : Nat → Int} {A : Abs} {vo : Nat} {P : List (List Nat × List Bf)} (h : Sane q f A vo P) {p : List Nat × List Bf} (hp : p ∈ P) : ∀ x ∈ p.1, x < q.n := fun x hx => by
  have := h.wf.perm.mem_iff (a := x)
  have hm : x ∈ A.free ++ A.fl.flatMap (·.2) := List.mem_append_right _ (List.mem_flatMap.2 ⟨(p.1.getD 0 0, p.1), by rw [h.fl]; exact List.mem_map.2 ⟨p, hp, rfl⟩, hx⟩)
  simpa using this.1 hm
theorem Sane.num_free {q : Qu} {f : Nat → Int} {A : Abs} {vo : Nat} {P : List (List Nat × List Bf)} (h : Sane q f A vo P) {p : List Nat × List Bf} (hp : p ∈ P) : ∀ x ∈ p.1, x ∉ A.free := fun x hx hf => by
  have hn := h.wf.nodup
  rw [List.nodup_append] at hn
  exact hn.2.2 x hf x (List.mem_flatMap.2 ⟨(p.1.getD 0 0, p.1), by rw [h.fl]; exact List.mem_map.2 ⟨p, hp, rfl⟩, hx⟩) rfl

theorem take_getD (l : List Nat) (m j : Nat) (h : j < m) : (l.take m).getD j 0 = l.getD j 0 := by simp [List.getD, h]

theorem Sane.add {q : Qu} {f : Nat → Int} {A : Abs} {vo : Nat} {P : List (List Nat × List Bf)} (h : Sane q f A vo P) (bufs : List Bf) (h0 : 0 < bufs.length) (hm : bufs.length ≤ A.free.length) (hok : ∀ b ∈ bufs, okB b) (ha : ∀ b ∈ bufs, b.addr ≤ 4611686018427387904) :
    Sane q (addF f q A bufs) (AddA A bufs.length) vo (P ++ [(A.free.take bufs.length, bufs)]) := by
  have hn1 := q.geo.n1
  have hn2 := q.geo.n2
  have epo := q.geo.epo
  have epu := q.geo.epu
  have hlen := h.len
  have hk1 := Nat.mod_lt A.offers (show 0 < q.n from hn1)
  have hfl : ∀ j, j < bufs.length → (A.free.take bufs.length).getD j 0 < q.n := fun j hj => by
    rw [take_getD _ _ _ hj]
    exact h.wf.free_lt (getD_mem _ 0 j (by omega))
  -- what lies below the rings
  have hlow : ∀ p m, p + m ≤ q.po → rd (addF f q A bufs) p m = rd (layTo f q.base (A.free.take bufs.length) bufs bufs.length) p m := fun p m hp => by
    unfold addF
    rw [rd_wr_other _ _ _ _ _ _ (by omega), rd_wr_other _ _ _ _ _ _ (by omega)]
  -- what lies above the descriptors
  have hhigh : ∀ p m, q.po ≤ p → rd (layTo f q.base (A.free.take bufs.length) bufs bufs.length) p m = rd f p m := fun p m hp => by
    refine layTo_other f q.base _ bufs p m _ (fun j hj => .inr ?_)
    have := hfl j hj
    omega
  have hnd : (A.free.take bufs.length).Nodup := by
    have hn := h.wf.nodup
    rw [List.nodup_append] at hn
    exact hn.1.sublist (List.take_sublist _ _)
  have hhd : (A.free.getD 0 0 : Int) < 65536 ∧ (0 : Int) ≤ (A.free.getD 0 0 : Nat) := by
    have := hfl 0 h0
    rw [take_getD _ _ _ h0] at this
    omega
  refine { wf := AddA_wf h.wf _ h0 hm, pw := h.pw, io := ?_, iu := ?_, fl := ?_, lt := h.lt, off := ?_, ring := ?_, ch := ?_ }
  · unfold addF
    rw [rd_wr_same _ _ _ _ (by omega) (by omega)]
    rfl
  · show rd (addF f q A bufs) (q.pu + 2) 2 = A.uses
    unfold addF
    rw [rd_wr_other _ _ _ _ _ _ (by omega), rd_wr_other _ _ _ _ _ _ (by omega), hhigh _ _ (by omega)]
    exact h.iu
  · simp only [AddA, h.fl, List.map_append, List.map_cons, List.map_nil]
    rw [take_getD _ _ _ h0]
  · simp only [AddA, h.off, List.length_append, List.length_cons, List.length_nil]
    omega
  · intro i hi
    simp only [List.length_append, List.length_cons, List.length_nil] at hi
    have hki := Nat.mod_lt (vo + i) (show 0 < q.n from hn1)
    have eo : A.offers % q.n = (vo + P.length) % q.n := by rw [h.off, mod_mod h.pw]
    unfold addF
    rw [rd_wr_other _ _ _ _ _ _ (by omega)]
    by_cases e : i = P.length
    · subst e
      rw [eo, rd_wr_same _ _ _ _ hhd.2 (by omega)]
      simp [h0]
    · have hne := mod_ne h.pw vo i P.length (by omega) (by omega)
      rw [rd_wr_other _ _ _ _ _ _ (by rw [eo]; omega), hhigh _ _ (by omega), h.ring i (by omega)]
      congr 3
      simp [List.getD, List.getElem?_append_left (show i < P.length by omega)]
  · intro p hp
    rw [List.mem_append, List.mem_singleton] at hp
    rcases hp with hp | rfl
    · obtain ⟨h1, h2, h3⟩ := h.ch p hp
      refine ⟨h1.congr (fun k hk x m hx1 hx2 => ?_), h2, h3⟩
      have hmem : p.1.getD k 0 ∈ p.1 := getD_mem _ 0 k hk
      have hlt := h.num_lt hp _ hmem
      rw [hlow _ _ (by omega)]
      refine layTo_other f q.base _ bufs x m _ (fun j hj => ?_)
      have hne : (A.free.take bufs.length).getD j 0 ≠ p.1.getD k 0 := fun e => h.num_free hp _ hmem (by
        rw [← e, take_getD _ _ _ hj]
        exact getD_mem _ 0 j (by omega))
      omega
    · refine ⟨⟨by rw [List.length_take]; simp; omega, fun k hk => ?_⟩, h0, ha⟩
      have hlt := hfl k hk
      obtain ⟨h1, h2, h3, h4⟩ := layTo_chain f q.base (A.free.take bufs.length) bufs (by rw [List.length_take]; omega) hnd hok (fun x hx => by have := h.wf.free_lt (List.mem_of_mem_take hx); omega) bufs.length (Nat.le_refl _) k hk
      simp only
      rw [hlow _ _ (by omega), hlow _ _ (by omega), hlow _ _ (by omega), hlow _ _ (by omega)]
      exact ⟨h1, h2, h3, h4⟩

theorem Sane.none_o {q : Qu} {f : Nat → Int} {A : Abs} {vo : Nat} (h : Sane q f A vo []) : rd f (q.po + 2) 2 = vo := by
  rw [h.io, h.off]
  have := h.lt
  simp
  omega
theorem Sane.head {q : Qu} {f : Nat → Int} {A : Abs} {vo : Nat} {p : List Nat × List Bf} {P : List (List Nat × List Bf)} (h : Sane q f A vo (p :: P)) :
    rd f (q.po + 2) 2 ≠ vo ∧ rd f (q.po + (4 + vo % q.n * 2)) 2 = (p.1.getD 0 0 : Nat) ∧ p.1.getD 0 0 < q.n ∧ rch f q.base q.n (q.n + 1) (p.1.getD 0 0) [] = some p.2 ∧ 0 < p.2.length ∧ p.2.length ≤ q.n ∧ p.1.length = p.2.length := by
  have hl := h.len
  have hn2 := q.geo.n2
  simp only [List.length_cons] at hl
  obtain ⟨h1, h2, h3⟩ := h.ch p (by simp)
  have hl1 := h.wf.len
  rw [h.fl] at hl1
  simp only [List.map_cons, List.flatMap_cons, List.length_append] at hl1
  refine ⟨?_, ?_, h.num_lt (by simp) _ (getD_mem _ 0 0 (by rw [h1.1]; exact h2)), rch_chain f q.base q.n p.1 p.2 h1 h2 (by rw [← h1.1]; omega) (h.num_lt (by simp)) h3, h2, by rw [← h1.1]; omega, h1.1⟩
  · rw [h.io, h.off]
    have := h.lt
    simp only [List.length_cons]
    omega
  · have := h.ring 0 (by simp)
    simpa using this
theorem given_low (f : Nat → Int) (q : Qu) (u : Nat) (hd len : Int) (p m : Nat) (h : p + m ≤ q.pu) : rd (given f q.pu q.n u hd len) p m = rd f p m := by
  unfold given
  rw [rd_wr_other _ _ _ _ _ _ (by omega), rd_wr_other _ _ _ _ _ _ (by omega), rd_wr_other _ _ _ _ _ _ (by omega)]
theorem given_rd (f : Nat → Int) (q : Qu) (u : Nat) (hd len : Int) (h1 : 0 ≤ hd) (h2 : hd < 4294967296) (h3 : 0 ≤ len) (h4 : len < 4294967296) :
    rd (given f q.pu q.n u hd len) (q.pu + 2) 2 = ((u + 1) % 65536 : Nat) ∧ rd (given f q.pu q.n u hd len) (q.pu + (4 + u % q.n * 8)) 4 = hd ∧ rd (given f q.pu q.n u hd len) (q.pu + (4 + u % q.n * 8) + 4) 4 = len := by
  unfold given
  refine ⟨?_, ?_, ?_⟩
  · rw [rd_wr_same _ _ _ _ (by omega) (by omega)]
  · rw [rd_wr_other _ _ _ _ _ _ (by omega), rd_wr_other _ _ _ _ _ _ (by omega), rd_wr_same _ _ _ _ h1 (by omega)]
  · rw [rd_wr_other _ _ _ _ _ _ (by omega), rd_wr_same _ _ _ _ h3 (by omega)]
theorem Sane.pop {q : Qu} {f : Nat → Int} {A : Abs} {vo : Nat} {p : List Nat × List Bf} {P : List (List Nat × List Bf)} (h : Sane q f A vo (p :: P)) (len : Int) (h3 : 0 ≤ len) (h4 : len < 4294967296) :
    look A.fl (p.1.getD 0 0 : Nat) = some p.1 ∧ Sane q (given f q.pu q.n A.uses (p.1.getD 0 0 : Nat) len) (UseA A (p.1.getD 0 0 : Nat) p.1) ((vo + 1) % 65536) P := by
  have epo := q.geo.epo
  have epu := q.geo.epu
  have hn2 := q.geo.n2
  obtain ⟨a1, a2, a3, a4, a5, a6, _⟩ := h.head
  have hlook : look A.fl (p.1.getD 0 0 : Nat) = some p.1 := by
    rw [h.fl]
    simp [look]
  obtain ⟨g1, _, _⟩ := given_rd f q A.uses (p.1.getD 0 0 : Nat) len (by omega) (by omega) h3 h4
  have hoff := h.off
  simp only [List.length_cons] at hoff
  refine ⟨hlook, { wf := UseA_wf h.wf hlook, pw := h.pw, io := ?_, iu := g1, fl := ?_, lt := Nat.mod_lt _ (by omega), off := ?_, ring := ?_, ch := ?_ }⟩
  · rw [given_low _ _ _ _ _ _ _ (by omega)]
    exact h.io
  · simp only [UseA, h.fl, List.map_cons]
    rw [List.eraseP_cons_of_pos (by simp [hp])]
  · show A.offers = _
    omega
  · intro i hi
    have hki := Nat.mod_lt (vo + (i + 1)) (show 0 < q.n from q.geo.n1)
    rw [mod_step h.pw, given_low _ _ _ _ _ _ _ (by omega), h.ring (i + 1) (by simp; omega)]
    rfl
  · intro p' hp'
    obtain ⟨h1, h2, h5⟩ := h.ch p' (by simp [hp'])
    refine ⟨h1.congr (fun k hk x m hx1 hx2 => ?_), h2, h5⟩
    have := h.num_lt (p := p') (by simp [hp']) _ (getD_mem _ 0 k hk)
    rw [given_low _ _ _ _ _ _ _ (by omega)]
theorem Sane.start (q : Qu) (f : Nat → Int) (hp : pow2 q.n = true) (hf : ∀ i, q.base ≤ i → i < q.base + (8 + 26 * q.n) → f i = 0) : Sane q f (A0 q.n) 0 [] := by
  have epo := q.geo.epo
  have epu := q.geo.epu
  have z : ∀ p, q.base ≤ p → p + 2 ≤ q.base + (8 + 26 * q.n) → rd f p 2 = 0 := fun p h1 h2 => by
    unfold rd at_
    simp [List.range_succ, leOf, hf p h1 (by omega), hf (p + 1) (by omega) (by omega)]
  refine { wf := wf0 _, pw := hp, io := ?_, iu := ?_, fl := rfl, lt := by omega, off := rfl, ring := fun i hi => by simp at hi, ch := fun p hp => by simp at hp }
  · rw [z _ (by omega) (by omega)]; rfl
  · rw [z _ (by omega) (by omega)]; rfl
end Go.Proofs.YtdjghkngiicncaaGreat

/- Both sides over one memory, held by a law beside blocks of its own (K): one call of each. -/
namespace Go.Proofs.YtdjghkngiicncaaGreat
open Go.RowKit

structure RunAt (B : Nat) (w0 w : World) (K : Nat → Prop) (pd pv : Nat) (q : Qu) (A : Abs) (c : Nat) (f : Nat → Int) (o u : Nat) (al : Nat → Prop) : Prop where
  drv : Drv w pd q A c al
  own : ∀ b, al b → B ≤ b
  npv : ¬ al pv
  bpv : B ≤ pv
  bg : B ≤ q.g
  dev : Dev w pv q o u
  mem : Mem w q.g q.N f
  bel : Below B w0 w
  size : B ≤ w.heap.size
  kp : ∀ b, K b → b < w.heap.size ∧ ¬ al b ∧ b ≠ pv ∧ b ≠ q.g
def Run (B : Nat) (w0 w : World) (K : Nat → Prop) (pd pv : Nat) (q : Qu) (A : Abs) (c : Nat) (f : Nat → Int) (o u : Nat) : Prop := ∃ al, RunAt B w0 w K pd pv q A c f o u al
def Kept (K : Nat → Prop) (w w' : World) : Prop := ∀ b, K b → w'.heap[b]? = w.heap[b]?
theorem Kept.trans {K : Nat → Prop} {w w' w'' : World} (h : Kept K w w') (h' : Kept K w' w'') : Kept K w w'' := fun b hb => (h' b hb).trans (h b hb)

section
variable {B : Nat} {w0 w w' : World} {K : Nat → Prop} {pd pv : Nat} {q : Qu} {A A' : Abs} {c c' : Nat} {f f' : Nat → Int} {o u o' u' : Nat} {al : Nat → Prop}

theorem RunAt.below (h : RunAt B w0 w K pd pv q A c f o u al) (hb : Below w.heap.size w w') : RunAt B w0 w' K pd pv q A c f o u al :=
  ⟨h.drv.below hb, h.own, h.npv, h.bpv, h.bg, h.dev.mods (Mods.of_below (al := fun _ => False) hb) (fun e => e), h.mem.below hb, h.bel.trans (hb.mono h.size), Nat.le_trans h.size hb.size, fun b hk => ⟨Nat.lt_of_lt_of_le (h.kp b hk).1 hb.size, (h.kp b hk).2⟩⟩
theorem RunAt.kept (h : RunAt B w0 w K pd pv q A c f o u al) (hb : Below w.heap.size w w') : Kept K w w' := fun b hk => hb.block b (h.kp b hk).1
theorem Run.below (h : Run B w0 w K pd pv q A c f o u) (hb : Below w.heap.size w w') : Run B w0 w' K pd pv q A c f o u := let ⟨al, r⟩ := h; ⟨al, r.below hb⟩
theorem Run.kept (h : Run B w0 w K pd pv q A c f o u) (hb : Below w.heap.size w w') : Kept K w w' := let ⟨_, r⟩ := h; r.kept hb
theorem Run.bel (h : Run B w0 w K pd pv q A c f o u) : Below B w0 w ∧ B ≤ w.heap.size := let ⟨_, r⟩ := h; ⟨r.bel, r.size⟩
theorem Run.wf (h : Run B w0 w K pd pv q A c f o u) : Wf q.n A := let ⟨_, r⟩ := h; let ⟨_, _, _, d⟩ := r.drv; d.wf
theorem Run.mem (h : Run B w0 w K pd pv q A c f o u) : Mem w q.g q.N f := let ⟨_, r⟩ := h; r.mem
theorem Run.lt (h : Run B w0 w K pd pv q A c f o u) {b : Nat} (hb : K b) : b < w.heap.size := let ⟨_, r⟩ := h; (r.kp b hb).1
theorem Run.less (h : Run B w0 w K pd pv q A c f o u) {K' : Nat → Prop} (hk : ∀ b, K' b → K b) : Run B w0 w K' pd pv q A c f o u := let ⟨al, r⟩ := h; ⟨al, r.drv, r.own, r.npv, r.bpv, r.bg, r.dev, r.mem, r.bel, r.size, fun b hb => r.kp b (hk b hb)⟩
/-- Blocks that came since. -/
theorem Run.more (h : Run B w0 w K pd pv q A c f o u) (hb : Below w.heap.size w w') {K' : Nat → Prop} (hk : ∀ b, K' b → K b ∨ (w.heap.size ≤ b ∧ b < w'.heap.size)) : Run B w0 w' K' pd pv q A c f o u := by
  obtain ⟨al, r⟩ := h
  have r' := r.below hb
  refine ⟨al, r'.drv, r'.own, r'.npv, r'.bpv, r'.bg, r'.dev, r'.mem, r'.bel, r'.size, fun b hk' => ?_⟩
  rcases hk b hk' with h1 | ⟨h1, h2⟩
  · exact r'.kp b h1
  · have hg := r.mem.lt
    have hp := r.dev.lt
    exact ⟨h2, fun e => by have := r.drv.lt b e; omega, by omega, by omega⟩
theorem RunAt.step (h : RunAt B w0 w K pd pv q A c f o u al) (hs : Step w w' pd q A' c' al) (hm : Mem w' q.g q.N f') : Run B w0 w' K pd pv q A' c' f' o u ∧ Kept K w w' := by
  obtain ⟨al', h1, h2, h3⟩ := hs
  have hpl := h.dev.lt
  refine ⟨⟨al', h1, fun b hb => (h2 b hb).elim (h.own b) (fun e => Nat.le_trans h.size e), fun e => (h2 pv e).elim h.npv (fun e => by omega), h.bpv, h.bg, h.dev.mods h3 (fun e => e.elim h.npv (fun e => h.dev.2.2.2 e)), hm, h3.to_below h.bel h.size (fun b hb => hb.elim (h.own b) (fun e => by rw [e]; exact h.bg)), Nat.le_trans h.size h3.size, fun b hk => ?_⟩, fun b hk => ?_⟩
  · obtain ⟨k1, k2, k3, k4⟩ := h.kp b hk
    exact ⟨Nat.lt_of_lt_of_le k1 h3.size, fun e => (h2 b e).elim k2 (fun e => by omega), k3, k4⟩
  · obtain ⟨k1, k2, k3, k4⟩ := h.kp b hk
    exact h3.block b k1 (fun e => e.elim k2 k4)
theorem RunAt.dstep (h : RunAt B w0 w K pd pv q A c f o u al) (hd : Dev w' pv q o' u') (hm : Mem w' q.g q.N f') (hmo : Mods (fun b => b = pv ∨ b = q.g) w w') : Run B w0 w' K pd pv q A c f' o' u' ∧ Kept K w w' :=
  ⟨⟨al, h.drv.mods hmo (fun b hb e => by
      rcases e with e | e
      · exact h.npv (e ▸ hb)
      · obtain ⟨_, _, _, d⟩ := h.drv
        exact d.ng (e ▸ hb)), h.own, h.npv, h.bpv, h.bg, hd, hm, hmo.to_below h.bel h.size (fun b hb => hb.elim (fun e => by rw [e]; exact h.bpv) (fun e => by rw [e]; exact h.bg)), Nat.le_trans h.size hmo.size, fun b hk => ⟨Nat.lt_of_lt_of_le (h.kp b hk).1 hmo.size, (h.kp b hk).2⟩⟩,
   fun b hk => hmo.block b (h.kp b hk).1 (fun e => e.elim (h.kp b hk).2.2.1 (h.kp b hk).2.2.2)⟩

theorem Run.add (h : Run B w0 w K pd pv q A c f o u) (w1 : World) (hb1 : Below w.heap.size w w1) (ab : Option Addr) (m capb : Nat) (bufs : List Bf) (hb : bufs.length = m) (hB : Bufs w1 ab bufs q.g) (hfr : ∀ b off, ab = some ⟨b, off, none⟩ → w.heap.size ≤ b)
    (hok : ∀ b ∈ bufs, okB b) (h0 : 0 < m) (hfm : m ≤ A.free.length) (hc : c < 1099511627776) :
    Calls Tryz.prog 56 #[.pointer (some ⟨pd, 0, none⟩), .slice ab m capb] w1 fun e w' => e = .returned (.tuple #[.int .i64 (A.free.getD 0 0 : Nat), .int .i64 0]) ∧ Run B w0 w' K pd pv q (AddA A m) (c + 1) (addF f q A bufs) o u ∧ Kept K w w' := by
  obtain ⟨al, r⟩ := h
  have r1 := r.below hb1
  refine (Add_ok w1 pd q A c al f r1.drv r1.mem ab m capb bufs hb hB (fun b off e ha => ?_) hok h0 hfm hc).mono ?_
  · have := hfr b off e
    have := r.drv.lt b ha
    omega
  · rintro e w' ⟨rfl, h1, h2⟩
    obtain ⟨s1, s2⟩ := r1.step h1 h2
    exact ⟨rfl, s1, (r.kept hb1).trans s2⟩
theorem Run.add_full (h : Run B w0 w K pd pv q A c f o u) (w1 : World) (hb1 : Below w.heap.size w w1) (ab : Option Addr) (m capb : Nat) (bufs : List Bf) (hb : bufs.length = m) (hB : Bufs w1 ab bufs q.g) (hok : ∀ b ∈ bufs, okB b) (hm : m ≤ 65536) (h0 : 0 < m) (hfm : A.free.length < m) :
    Calls Tryz.prog 56 #[.pointer (some ⟨pd, 0, none⟩), .slice ab m capb] w1 fun e w' => e = .returned (.tuple #[.int .i64 0, .int .i64 7]) ∧ Run B w0 w' K pd pv q A c f o u ∧ Kept K w w' := by
  obtain ⟨al, r⟩ := h
  have r1 := r.below hb1
  refine (Add_full w1 pd q A c al r1.drv ab m capb bufs hb hB hok hm h0 hfm).mono ?_
  rintro e w' ⟨rfl, h1⟩
  exact ⟨rfl, ⟨al, r1.below h1⟩, (r.kept hb1).trans (r1.kept h1)⟩
theorem Run.take_none (h : Run B w0 w K pd pv q A c f o u) (he : rd f (q.po + 2) 2 = o) :
    Calls Tryz.prog 67 #[.pointer (some ⟨pv, 0, none⟩)] w fun e w' => e = .returned (.tuple #[.int .i64 0, .slice none 0 0, .int .i64 2]) ∧ Run B w0 w' K pd pv q A c f o u ∧ Kept K w w' := by
  obtain ⟨al, r⟩ := h
  refine (Take_any w pv q o u f r.dev r.mem).mono ?_
  rintro e w' ⟨hm, hp⟩
  rcases hp with ⟨_, rfl, hd⟩ | ⟨hne, _⟩
  · exact ⟨rfl, r.dstep hd (r.mem.mods hm (fun e => r.dev.2.2.2 e.symm)) (hm.weak (fun b e => .inl (.inl e)))⟩
  · exact absurd he hne
theorem Run.take_some (h : Run B w0 w K pd pv q A c f o u) (hne : rd f (q.po + 2) 2 ≠ o) (hd : Nat) (hh : rd f (q.po + (4 + o % q.n * 2)) 2 = hd) (L : List Bf) (hL : rch f q.base q.n (q.n + 1) hd [] = some L) :
    Calls Tryz.prog 67 #[.pointer (some ⟨pv, 0, none⟩)] w fun e w' => ∃ v, e = .returned (.tuple #[.int .i64 hd, v, .int .i64 0]) ∧ w'.ownsRow w.heap.size 88 3 v L.length (cellsB L) ∧ Run B w0 w' (fun b => K b ∨ v.ownBlock = some b) pd pv q A c f ((o + 1) % 65536) u ∧ Kept K w w' := by
  obtain ⟨al, r⟩ := h
  refine (Take_any w pv q o u f r.dev r.mem).mono ?_
  rintro e w' ⟨hm, hp⟩
  rcases hp with ⟨he, _⟩ | ⟨_, hdv, hd', h1, _, h3⟩
  · exact absurd he hne
  · obtain rfl : hd' = hd := by rw [hh] at h1; omega
    obtain ⟨hr, hk⟩ := r.dstep hdv (r.mem.mods hm (fun e => r.dev.2.2.2 e.symm)) (hm.weak (fun b e => .inl (.inl e)))
    rcases h3 with ⟨h3, _⟩ | ⟨L', v, h3, rfl, h4⟩
    · rw [hL] at h3; cases h3
    · obtain rfl : L = L' := by rw [hL] at h3; simpa using h3
      refine ⟨v, rfl, h4, ?_, hk⟩
      have hg := r.mem.lt
      have hp := r.dev.lt
      have hs := hm.size
      refine ⟨al, r.drv.mods hm (fun b hb e => r.npv (e ▸ hb)), r.own, r.npv, r.bpv, r.bg, hdv, r.mem.mods hm (fun e => r.dev.2.2.2 e.symm), hm.to_below r.bel r.size (fun b e => by rw [e]; exact r.bpv), Nat.le_trans r.size hs, fun b hb => ?_⟩
      rcases hb with hb | hb
      · exact ⟨Nat.lt_of_lt_of_le (r.kp b hb).1 hs, (r.kp b hb).2⟩
      · obtain ⟨l1, l2⟩ := owns_lt h4 hb
        exact ⟨l1, fun e => by have := r.drv.lt b e; omega, by omega, by omega⟩
theorem Run.give (h : Run B w0 w K pd pv q A c f o u) (hd len : Int) (hb : giveB q.n hd len = true) :
    Calls Tryz.prog 47 #[.pointer (some ⟨pv, 0, none⟩), .int .i64 hd, .int .i64 len] w fun e w' => e = .returned (.int .i64 0) ∧ Run B w0 w' K pd pv q A c (given f q.pu q.n u hd len) o ((u + 1) % 65536) ∧ Kept K w w' := by
  obtain ⟨al, r⟩ := h
  refine (Give_ok w pv q o u f r.dev r.mem hd len hb).mono ?_
  rintro e w' ⟨rfl, h1, h2, h3⟩
  exact ⟨rfl, r.dstep h2 h3 h1⟩
theorem Run.used_none (h : Run B w0 w K pd pv q A c f o u) (he : rd f (q.pu + 2) 2 = A.uses) :
    Calls Tryz.prog 40 #[.pointer (some ⟨pd, 0, none⟩)] w fun e w' => e = .returned (.tuple #[.int .i64 0, .int .i64 0, .int .i64 2]) ∧ Run B w0 w' K pd pv q A c f o u ∧ Kept K w w' := by
  obtain ⟨al, r⟩ := h
  refine (Used_any w pd q A c al f r.drv r.mem).mono ?_
  rintro e w' ⟨hm, hp⟩
  rcases hp with ⟨_, rfl, hs⟩ | ⟨hne, _⟩
  · exact ⟨rfl, r.step hs hm⟩
  · exact absurd he hne
theorem Run.used_some (h : Run B w0 w K pd pv q A c f o u) (hne : rd f (q.pu + 2) 2 ≠ A.uses) (hd len : Int) (hh : rd f (q.pu + (4 + A.uses % q.n * 8)) 4 = hd) (hl : rd f (q.pu + (4 + A.uses % q.n * 8) + 4) 4 = len) (ch : List Nat) (hc : look A.fl hd = some ch) :
    Calls Tryz.prog 40 #[.pointer (some ⟨pd, 0, none⟩)] w fun e w' => e = .returned (.tuple #[.int .i64 hd, .int .i64 len, .int .i64 0]) ∧ Run B w0 w' K pd pv q (UseA A hd ch) c f o u ∧ Kept K w w' := by
  obtain ⟨al, r⟩ := h
  subst hh hl
  refine (Used_any w pd q A c al f r.drv r.mem).mono ?_
  rintro e w' ⟨hm, hp⟩
  rcases hp with ⟨he, _⟩ | ⟨_, h3⟩
  · exact absurd he hne
  · rcases h3 with ⟨h3, _⟩ | ⟨ch', h3, rfl, hs⟩
    · rw [hc] at h3; cases h3
    · obtain rfl : ch = ch' := by rw [hc] at h3; simpa using h3
      exact ⟨rfl, r.step hs hm⟩
theorem Run.free (h : Run B w0 w K pd pv q A c f o u) : Calls Tryz.prog 33 #[.pointer (some ⟨pd, 0, none⟩)] w fun e w' => e = .returned (.int .i64 A.free.length) ∧ w' = w :=
  let ⟨_, r⟩ := h; Free_any w pd q A c _ r.drv
end

/-- Both sides are made over memory of a law's own. -/
theorem made (B : Nat) (w0 w : World) (q : Qu) (len cap : Nat) (f : Nat → Int) (hbel : Below B w0 w) (hB : B ≤ w.heap.size) (hg : B ≤ q.g) (hm : Mem w q.g q.N f) (hp : pow2 q.n = true) (hf : q.base + (8 + 26 * q.n) ≤ len) (hc : len ≤ cap) (hl : len ≤ 1099511627776) :
    Calls Tryz.prog 54 #[.slice (some ⟨q.g, 0, none⟩) len cap, .int .i64 q.base, .int .i64 q.n] w fun e w1 => ∃ pd, e = .returned (.tuple #[.pointer (some ⟨pd, 0, none⟩), .int .i64 0]) ∧
    Calls Tryz.prog 58 #[.slice (some ⟨q.g, 0, none⟩) len cap, .int .i64 q.base, .int .i64 q.n] w1 fun e w2 => ∃ pv, e = .returned (.tuple #[.pointer (some ⟨pv, 0, none⟩), .int .i64 0]) ∧ Run B w0 w2 (fun _ => False) pd pv q (A0 q.n) 0 (zr f q.base (8 + 26 * q.n)) 0 0 := by
  refine (NewDriver_ok w q len cap f hm hp hf hc hl).mono ?_
  rintro e w1 ⟨pd, rfl, hmo, hm1, al, hd, hal⟩
  refine ⟨pd, rfl, ?_⟩
  have hgl := hm1.lt
  refine (NewDevice_ok w1 q len cap hp hf hc hl hgl).mono ?_
  rintro e w2 ⟨pv, rfl, hb2, hpv, hdv⟩
  have hs := hmo.size
  have hb1 : Below B w0 w1 := hmo.to_below hbel hB (fun b e => by rw [e]; exact hg)
  exact ⟨pv, rfl, al, hd.below hb2, fun b hb => Nat.le_trans hB (hal b hb), fun e => by have := hd.lt pv e; omega, by omega, hg, hdv, hm1.below hb2, hb1.trans (hb2.mono (by omega)), by have := hb2.size; omega, fun b e => e.elim⟩
theorem Sane.of_zr (q : Qu) (f : Nat → Int) (hp : pow2 q.n = true) : Sane q (zr f q.base (8 + 26 * q.n)) (A0 q.n) 0 [] := Sane.start q _ hp (fun i h1 h2 => by unfold zr; rw [if_pos ⟨h1, h2⟩])
theorem cell_kept {K : Nat → Prop} {w w' : World} (h : Kept K w w') {b o : Nat} (hb : K b) {v : Value} (hc : w.cell? ⟨b, o, none⟩ = some v) : w'.cell? ⟨b, o, none⟩ = some v := (World.cell?_of_block (w := w) (h b hb)).trans hc
end Go.Proofs.YtdjghkngiicncaaGreat
