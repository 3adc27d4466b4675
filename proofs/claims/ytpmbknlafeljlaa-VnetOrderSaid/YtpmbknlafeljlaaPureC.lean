/- Two sides that keep to the rules: what is offered is taken in order, what is given back is used. -/
import Derived.Test.YtpmbknlafeljlaaPureB
namespace Go.Proofs.Ytpmbknlafeljlaa

/-- Nothing but the two sides wrote into memory; P: what was offered and not yet taken. -/
structure Sane (q : Qu) (f : Nat → Int) (A : Abs) (vo : Nat) (P : List (List Nat × List Bf)) : Prop where
  wf : Wf q.n A
  pw : pow2 q.n = true
  io : rd f (q.po + 2) 2 = A.offers
  iu : rd f (q.pu + 2) 2 = A.uses
  fl : A.fl = P.map (fun p => (p.1.getD 0 0, p.1))
  lt : vo < 65536
  off : A.offers = (vo + P.length) % 65536
  ring : ∀ i, i < P.length → rd f (q.po + (4 + (vo + i) % q.n * 2)) 2 = ((P.getD i default).1.getD 0 0 : Nat)
  ch : ∀ p ∈ P, Chain f q.base p.1 p.2 ∧ 0 < p.2.length ∧ ∀ b ∈ p.2, b.addr ≤ 4611686018427387904

theorem pow2_cases {n : Nat} (h : pow2 n = true) : n = 1 ∨ n = 2 ∨ n = 4 ∨ n = 8 ∨ n = 16 ∨ n = 32 ∨ n = 64 ∨ n = 128 ∨ n = 256 := by
  simp [pow2] at h
  omega
theorem mod_step {n : Nat} (h : pow2 n = true) (a i : Nat) : ((a + 1) % 65536 + i) % n = (a + (i + 1)) % n := by
  rcases pow2_cases h with rfl | rfl | rfl | rfl | rfl | rfl | rfl | rfl | rfl <;> omega
theorem mod_mod {n : Nat} (h : pow2 n = true) (a : Nat) : a % 65536 % n = a % n := by
  rcases pow2_cases h with rfl | rfl | rfl | rfl | rfl | rfl | rfl | rfl | rfl <;> omega
theorem mod_ne {n : Nat} (h : pow2 n = true) (a i j : Nat) (hij : i < j) (hj : j < n) : (a + i) % n ≠ (a + j) % n := by
  rcases pow2_cases h with rfl | rfl | rfl | rfl | rfl | rfl | rfl | rfl | rfl <;> omega

theorem flat_len (P : List (List Nat × List Bf)) (h : ∀ p ∈ P, 0 < p.1.length) : P.length ≤ ((P.map (fun p => (p.1.getD 0 0, p.1))).flatMap (·.2)).length := by
  induction P with
  | nil => simp
  | cons p P ih =>
    have h1 := h p (by simp)
    have h2 := ih (fun x hx => h x (by simp [hx]))
    simp only [List.map_cons, List.flatMap_cons, List.length_append, List.length_cons]
    omega
theorem Sane.len {q : Qu} {f : Nat → Int} {A : Abs} {vo : Nat} {P : List (List Nat × List Bf)} (h : Sane q f A vo P) : A.free.length + P.length ≤ q.n := by
  have h1 := h.wf.len
  have h2 := flat_len P (fun p hp => by have := (h.ch p hp).1.1; have := (h.ch p hp).2.1; omega)
  rw [h.fl] at h1
  omega
theorem Sane.num_lt {q : Qu} {f : Nat → Int} {A : Abs} {vo : Nat} {P : List (List Nat × List Bf)} (h : Sane q f A vo P) {p : List Nat × List Bf} (hp : p ∈ P) : ∀ x ∈ p.1, x < q.n := fun x hx => by
  have := h.wf.perm.mem_iff (a := x)
  have hm : x ∈ A.free ++ A.fl.flatMap (·.2) := List.mem_append_right _ (List.mem_flatMap.2 ⟨(p.1.getD 0 0, p.1), by rw [h.fl]; exact List.mem_map.2 ⟨p, hp, rfl⟩, hx⟩)
  simpa using this.1 hm
theorem Sane.num_free {q : Qu} {f : Nat → Int} {A : Abs} {vo : Nat} {P : List (List Nat × List Bf)} (h : Sane q f A vo P) {p : List Nat × List Bf} (hp : p ∈ P) : ∀ x ∈ p.1, x ∉ A.free := fun x hx hf => by
  have hn := h.wf.nodup
  rw [List.nodup_append] at hn
  exact hn.2.2 x hf x (List.mem_flatMap.2 ⟨(p.1.getD 0 0, p.1), by rw [h.fl]; exact List.mem_map.2 ⟨p, hp, rfl⟩, hx⟩) rfl

theorem take_getD (l : List Nat) (m j : Nat) (h : j < m) : (l.take m).getD j 0 = l.getD j 0 := by simp [List.getD, h]

theorem Sane.add {q : Qu} {f : Nat → Int} {A : Abs} {vo : Nat} {P : List (List Nat × List Bf)} (h : Sane q f A vo P) (bufs : List Bf) (h0 : 0 < bufs.length) (hm : bufs.length ≤ A.free.length) (hok : ∀ b ∈ bufs, okB b) (ha : ∀ b ∈ bufs, b.addr ≤ 4611686018427387904) :
    Sane q (addF f q A bufs) (AddA A bufs.length) vo (P ++ [(A.free.take bufs.length, bufs)]) := by
  have hn1 := q.geo.n1
  have hn2 := q.geo.n2
  have epo := q.geo.epo
  have epu := q.geo.epu
  have hlen := h.len
  have hk1 := Nat.mod_lt A.offers (show 0 < q.n from hn1)
  have hfl : ∀ j, j < bufs.length → (A.free.take bufs.length).getD j 0 < q.n := fun j hj => by
    rw [take_getD _ _ _ hj]
    exact h.wf.free_lt (getD_mem _ 0 j (by omega))
  -- what lies below the rings
  have hlow : ∀ p m, p + m ≤ q.po → rd (addF f q A bufs) p m = rd (layTo f q.base (A.free.take bufs.length) bufs bufs.length) p m := fun p m hp => by
    unfold addF
    rw [rd_wr_other _ _ _ _ _ _ (by omega), rd_wr_other _ _ _ _ _ _ (by omega)]
  -- what lies above the descriptors
  have hhigh : ∀ p m, q.po ≤ p → rd (layTo f q.base (A.free.take bufs.length) bufs bufs.length) p m = rd f p m := fun p m hp => by
    refine layTo_other f q.base _ bufs p m _ (fun j hj => .inr ?_)
    have := hfl j hj
    omega
  have hnd : (A.free.take bufs.length).Nodup := by
    have hn := h.wf.nodup
    rw [List.nodup_append] at hn
    exact hn.1.sublist (List.take_sublist _ _)
  have hhd : (A.free.getD 0 0 : Int) < 65536 ∧ (0 : Int) ≤ (A.free.getD 0 0 : Nat) := by
    have := hfl 0 h0
    rw [take_getD _ _ _ h0] at this
    omega
  refine { wf := AddA_wf h.wf _ h0 hm, pw := h.pw, io := ?_, iu := ?_, fl := ?_, lt := h.lt, off := ?_, ring := ?_, ch := ?_ }
  · unfold addF
    rw [rd_wr_same _ _ _ _ (by omega) (by omega)]
    rfl
  · show rd (addF f q A bufs) (q.pu + 2) 2 = A.uses
    unfold addF
    rw [rd_wr_other _ _ _ _ _ _ (by omega), rd_wr_other _ _ _ _ _ _ (by omega), hhigh _ _ (by omega)]
    exact h.iu
  · simp only [AddA, h.fl, List.map_append, List.map_cons, List.map_nil]
    rw [take_getD _ _ _ h0]
  · simp only [AddA, h.off, List.length_append, List.length_cons, List.length_nil]
    omega
  · intro i hi
    simp only [List.length_append, List.length_cons, List.length_nil] at hi
    have hki := Nat.mod_lt (vo + i) (show 0 < q.n from hn1)
    have eo : A.offers % q.n = (vo + P.length) % q.n := by rw [h.off, mod_mod h.pw]
    unfold addF
    rw [rd_wr_other _ _ _ _ _ _ (by omega)]
    by_cases e : i = P.length
    · subst e
      rw [eo, rd_wr_same _ _ _ _ hhd.2 (by omega)]
      simp [h0]
    · have hne := mod_ne h.pw vo i P.length (by omega) (by omega)
      rw [rd_wr_other _ _ _ _ _ _ (by rw [eo]; omega), hhigh _ _ (by omega), h.ring i (by omega)]
      congr 3
      simp [List.getD, List.getElem?_append_left (show i < P.length by omega)]
  · intro p hp
    rw [List.mem_append, List.mem_singleton] at hp
    rcases hp with hp | rfl
    · obtain ⟨h1, h2, h3⟩ := h.ch p hp
      refine ⟨h1.congr (fun k hk x m hx1 hx2 => ?_), h2, h3⟩
      have hmem : p.1.getD k 0 ∈ p.1 := getD_mem _ 0 k hk
      have hlt := h.num_lt hp _ hmem
      rw [hlow _ _ (by omega)]
      refine layTo_other f q.base _ bufs x m _ (fun j hj => ?_)
      have hne : (A.free.take bufs.length).getD j 0 ≠ p.1.getD k 0 := fun e => h.num_free hp _ hmem (by
        rw [← e, take_getD _ _ _ hj]
        exact getD_mem _ 0 j (by omega))
      omega
    · refine ⟨⟨by rw [List.length_take]; simp; omega, fun k hk => ?_⟩, h0, ha⟩
      have hlt := hfl k hk
      obtain ⟨h1, h2, h3, h4⟩ := layTo_chain f q.base (A.free.take bufs.length) bufs (by rw [List.length_take]; omega) hnd hok (fun x hx => by have := h.wf.free_lt (List.mem_of_mem_take hx); omega) bufs.length (Nat.le_refl _) k hk
      simp only
      rw [hlow _ _ (by omega), hlow _ _ (by omega), hlow _ _ (by omega), hlow _ _ (by omega)]
      exact ⟨h1, h2, h3, h4⟩

theorem Sane.none_o {q : Qu} {f : Nat → Int} {A : Abs} {vo : Nat} (h : Sane q f A vo []) : rd f (q.po + 2) 2 = vo := by
  rw [h.io, h.off]
  have := h.lt
  simp
  omega
theorem Sane.head {q : Qu} {f : Nat → Int} {A : Abs} {vo : Nat} {p : List Nat × List Bf} {P : List (List Nat × List Bf)} (h : Sane q f A vo (p :: P)) :
    rd f (q.po + 2) 2 ≠ vo ∧ rd f (q.po + (4 + vo % q.n * 2)) 2 = (p.1.getD 0 0 : Nat) ∧ p.1.getD 0 0 < q.n ∧ rch f q.base q.n (q.n + 1) (p.1.getD 0 0) [] = some p.2 ∧ 0 < p.2.length ∧ p.2.length ≤ q.n ∧ p.1.length = p.2.length := by
  have hl := h.len
  have hn2 := q.geo.n2
  simp only [List.length_cons] at hl
  obtain ⟨h1, h2, h3⟩ := h.ch p (by simp)
  have hl1 := h.wf.len
  rw [h.fl] at hl1
  simp only [List.map_cons, List.flatMap_cons, List.length_append] at hl1
  refine ⟨?_, ?_, h.num_lt (by simp) _ (getD_mem _ 0 0 (by rw [h1.1]; exact h2)), rch_chain f q.base q.n p.1 p.2 h1 h2 (by rw [← h1.1]; omega) (h.num_lt (by simp)) h3, h2, by rw [← h1.1]; omega, h1.1⟩
  · rw [h.io, h.off]
    have := h.lt
    simp only [List.length_cons]
    omega
  · have := h.ring 0 (by simp)
    simpa using this
theorem given_low (f : Nat → Int) (q : Qu) (u : Nat) (hd len : Int) (p m : Nat) (h : p + m ≤ q.pu) : rd (given f q.pu q.n u hd len) p m = rd f p m := by
  unfold given
  rw [rd_wr_other _ _ _ _ _ _ (by omega), rd_wr_other _ _ _ _ _ _ (by omega), rd_wr_other _ _ _ _ _ _ (by omega)]
theorem given_rd (f : Nat → Int) (q : Qu) (u : Nat) (hd len : Int) (h1 : 0 ≤ hd) (h2 : hd < 4294967296) (h3 : 0 ≤ len) (h4 : len < 4294967296) :
    rd (given f q.pu q.n u hd len) (q.pu + 2) 2 = ((u + 1) % 65536 : Nat) ∧ rd (given f q.pu q.n u hd len) (q.pu + (4 + u % q.n * 8)) 4 = hd ∧ rd (given f q.pu q.n u hd len) (q.pu + (4 + u % q.n * 8) + 4) 4 = len := by
  unfold given
  refine ⟨?_, ?_, ?_⟩
  · rw [rd_wr_same _ _ _ _ (by omega) (by omega)]
  · rw [rd_wr_other _ _ _ _ _ _ (by omega), rd_wr_other _ _ _ _ _ _ (by omega), rd_wr_same _ _ _ _ h1 (by omega)]
  · rw [rd_wr_other _ _ _ _ _ _ (by omega), rd_wr_same _ _ _ _ h3 (by omega)]
theorem Sane.pop {q : Qu} {f : Nat → Int} {A : Abs} {vo : Nat} {p : List Nat × List Bf} {P : List (List Nat × List Bf)} (h : Sane q f A vo (p :: P)) (len : Int) (h3 : 0 ≤ len) (h4 : len < 4294967296) :
    look A.fl (p.1.getD 0 0 : Nat) = some p.1 ∧ Sane q (given f q.pu q.n A.uses (p.1.getD 0 0 : Nat) len) (UseA A (p.1.getD 0 0 : Nat) p.1) ((vo + 1) % 65536) P := by
  have epo := q.geo.epo
  have epu := q.geo.epu
  have hn2 := q.geo.n2
  obtain ⟨a1, a2, a3, a4, a5, a6, _⟩ := h.head
  have hlook : look A.fl (p.1.getD 0 0 : Nat) = some p.1 := by
    rw [h.fl]
    simp [look]
  obtain ⟨g1, _, _⟩ := given_rd f q A.uses (p.1.getD 0 0 : Nat) len (by omega) (by omega) h3 h4
  have hoff := h.off
  simp only [List.length_cons] at hoff
  refine ⟨hlook, { wf := UseA_wf h.wf hlook, pw := h.pw, io := ?_, iu := g1, fl := ?_, lt := Nat.mod_lt _ (by omega), off := ?_, ring := ?_, ch := ?_ }⟩
  · rw [given_low _ _ _ _ _ _ _ (by omega)]
    exact h.io
  · simp only [UseA, h.fl, List.map_cons]
    rw [List.eraseP_cons_of_pos (by simp [hp])]
  · show A.offers = _
    omega
  · intro i hi
    have hki := Nat.mod_lt (vo + (i + 1)) (show 0 < q.n from q.geo.n1)
    rw [mod_step h.pw, given_low _ _ _ _ _ _ _ (by omega), h.ring (i + 1) (by simp; omega)]
    rfl
  · intro p' hp'
    obtain ⟨h1, h2, h5⟩ := h.ch p' (by simp [hp'])
    refine ⟨h1.congr (fun k hk x m hx1 hx2 => ?_), h2, h5⟩
    have := h.num_lt (p := p') (by simp [hp']) _ (getD_mem _ 0 k hk)
    rw [given_low _ _ _ _ _ _ _ (by omega)]
theorem Sane.start (q : Qu) (f : Nat → Int) (hp : pow2 q.n = true) (hf : ∀ i, q.base ≤ i → i < q.base + (8 + 26 * q.n) → f i = 0) : Sane q f (A0 q.n) 0 [] := by
  have epo := q.geo.epo
  have epu := q.geo.epu
  have z : ∀ p, q.base ≤ p → p + 2 ≤ q.base + (8 + 26 * q.n) → rd f p 2 = 0 := fun p h1 h2 => by
    unfold rd at_
    simp [List.range_succ, leOf, hf p h1 (by omega), hf (p + 1) (by omega) (by omega)]
  refine { wf := wf0 _, pw := hp, io := ?_, iu := ?_, fl := rfl, lt := by omega, off := rfl, ring := fun i hi => by simp at hi, ch := fun p hp => by simp at hp }
  · rw [z _ (by omega) (by omega)]; rfl
  · rw [z _ (by omega) (by omega)]; rfl
end Go.Proofs.Ytpmbknlafeljlaa
