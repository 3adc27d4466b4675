/- SchedLocks: workers that share a lock, as an automaton beside the Sched. -/
import Derived.Test.YtacmdhlemolngaaScEa
namespace Go.Proofs.Ytacmdhlemolngaa

structure Sh where
  t : Nat
  w : Nat
  n : Nat
  s : Nat
def updN {α : Type} (f : Nat → α) (i : Nat) (v : α) : Nat → α := fun k => if k = i then v else f k
theorem updN_same {α : Type} (f : Nat → α) (i : Nat) (v : α) : updN f i v i = v := if_pos rfl
theorem updN_other {α : Type} (f : Nat → α) {i k : Nat} (v : α) (h : k ≠ i) : updN f i v k = f k := if_neg h
def sm (f : Nat → Nat) : Nat → Nat
  | 0 => 0
  | k + 1 => sm f k + f k
theorem sm_congr {f g : Nat → Nat} : ∀ N, (∀ i, i < N → f i = g i) → sm f N = sm g N
  | 0, _ => rfl
  | N + 1, h => by rw [sm, sm, sm_congr N (fun i hi => h i (by omega)), h N (by omega)]
theorem sm_upd {α : Type} (g : α → Nat) (sh : Nat → α) (i : Nat) (v : α) : ∀ N, i < N → sm (fun k => g (updN sh i v k)) N + g (sh i) = sm (fun k => g (sh k)) N + g v
  | 0, h => by omega
  | N + 1, h => by
    rw [sm, sm]
    by_cases e : i = N
    · subst e
      rw [sm_congr (f := fun k => g (updN sh i v k)) (g := fun k => g (sh k)) i (fun k hk => by rw [updN_other sh v (by omega)]), updN_same]
      omega
    · have := sm_upd g sh i v N (by omega)
      rw [updN_other sh v (show N ≠ i by omega)]
      omega
theorem sm_le {f : Nat → Nat} {c : Nat} : ∀ N, (∀ i, i < N → f i ≤ c) → sm f N ≤ N * c
  | 0, _ => by simp [sm]
  | N + 1, h => by
    have h1 := sm_le N (fun i hi => h i (by omega))
    have h2 := h N (by omega)
    rw [sm, Nat.succ_mul]
    omega
theorem sm_zero {f : Nat → Nat} : ∀ N, (∀ i, i < N → f i = 0) → sm f N = 0
  | 0, _ => rfl
  | N + 1, h => by rw [sm, sm_zero N (fun i hi => h i (by omega)), h N (by omega)]
/-- How many picks a worker wants still. -/
def phi (x : Sh) : Nat := if x.s = 0 then x.t * (x.w + 3) + 1 else if x.s = 1 then x.t * (x.w + 3) else if x.s = 2 then (x.t - 1) * (x.w + 3) + x.n + 2 else 0
def came : List Int → List Int
  | [] => []
  | x :: r => if x < 0 then (-1 - x) :: came r else came r
def got : List Int → List Int
  | [] => []
  | x :: r => if x < 0 then got r else x :: got r
theorem came_app : ∀ (l m : List Int), came (l ++ m) = came l ++ came m
  | [], _ => rfl
  | x :: r, m => by
    rw [List.cons_append, came, came, came_app r m]
    split <;> rfl
theorem got_app : ∀ (l m : List Int), got (l ++ m) = got l ++ got m
  | [], _ => rfl
  | x :: r, m => by
    rw [List.cons_append, got, got, got_app r m]
    split <;> rfl
/-- Those that wait, in their order. -/
def waits (sh : Nat → Sh) (l : List Int) : List Int := l.filter fun x => decide ((sh x.toNat).s = 1)
structure Lk (A : Ab) (r : Option Int) (N T : Nat) (sh : Nat → Sh) (ins ord : List Int) : Prop where
  inv : Inv A r
  len : A.ws.length = N
  oth : ∀ k, k ≠ 3 → A.lk k = []
  st : ∀ i, i < N → (sh i).s ≤ 3 ∧ ((A.wk (i : Int)).st = 5 ↔ (sh i).s = 3) ∧ ((A.wk (i : Int)).st = 1 ∨ (A.wk (i : Int)).st = 3 ∨ (A.wk (i : Int)).st = 5)
  mem : ∀ i, i < N → ((i : Int) ∈ A.lk 3 ↔ (sh i).s = 1 ∨ (sh i).s = 2)
  s2 : ∀ i, i < N → (sh i).s = 2 → (A.lk 3).head? = some (i : Int)
  hd : ∀ i, i < N → (A.lk 3).head? = some (i : Int) → (A.wk (i : Int)).st = 1
  nm : ∀ i, i < N → ((sh i).s = 3 → (sh i).t = 0) ∧ ((sh i).s = 1 ∨ (sh i).s = 2 → 1 ≤ (sh i).t) ∧ (sh i).t ≤ T ∧ (sh i).w ≤ 3 ∧ (sh i).n ≤ 3
  ins : ins = [] ∨ ∃ j, j < N ∧ (sh j).s = 2
  eq : came ord = got ord ++ waits sh (A.lk 3)
  cnt : (got ord).length + sm (fun i => (sh i).t) N = N * T + sm (fun i => if (sh i).s = 2 then 1 else 0) N
  bd : ∀ y ∈ ord, -1 - (N : Int) ≤ y ∧ y ≤ N
theorem Lk.has {A : Ab} {r : Option Int} {N T : Nat} {sh : Nat → Sh} {ins ord : List Int} (h : Lk A r N T sh ins ord) {i : Nat} (hi : i < N) : A.has (i : Int) = true := by unfold Ab.has; rw [h.len]; simpa using hi
theorem Lk.idx {A : Ab} {r : Option Int} {N T : Nat} {sh : Nat → Sh} {ins ord : List Int} (h : Lk A r N T sh ins ord) {x : Int} (hx : A.has x = true) : ∃ i : Nat, x = (i : Int) ∧ i < N := by
  have := has_bd hx
  rw [h.len] at this
  exact ⟨x.toNat, by omega, by omega⟩
theorem Lk.ended {A : Ab} {N T : Nat} {sh : Nat → Sh} {ins ord : List Int} {x : Int} (h : Lk A (some x) N T sh ins ord) (hx : A.has x = true) : Lk (A.ended x) none N T sh ins ord := by
  have hI := h.inv.ended hx
  have hw : (A.ended x).ws = A.ws := by unfold Ab.ended; split <;> rfl
  have hl : (A.ended x).lk = A.lk := by unfold Ab.ended; split <;> rfl
  have hk : ∀ y, (A.ended x).wk y = A.wk y := fun y => by unfold Ab.wk; rw [hw]
  refine ⟨hI, by rw [hw]; exact h.len, by rw [hl]; exact h.oth, fun i hi => by rw [hk]; exact h.st i hi, fun i hi => by rw [hl]; exact h.mem i hi, fun i hi => by rw [hl]; exact h.s2 i hi, fun i hi => by rw [hl, hk]; exact h.hd i hi, h.nm, h.ins, by rw [hl]; exact h.eq, h.cnt, h.bd⟩
theorem waits_upd_not (sh : Nat → Sh) (i : Nat) (v : Sh) (l : List Int) (h : ∀ x ∈ l, x.toNat ≠ i) : waits (updN sh i v) l = waits sh l := by
  unfold waits
  apply List.filter_congr
  intro x hx
  rw [updN_other sh v (h x hx)]
/-- A worker that has no turn left ends. -/
theorem Lk.exit {A : Ab} {N T : Nat} {sh : Nat → Sh} {ins ord : List Int} {x : Nat} (hx : x < N) (h : Lk A (some (x : Int)) N T sh ins ord) (h0 : (sh x).s = 0) (ht : (sh x).t = 0) {L : List Int} (hL : Holds (A.fin (x : Int)) x L) :
    Lk ((A.fin (x : Int)).hands L) (some (x : Int)) N T (updN sh x { sh x with s := 3 }) ins ord := by
  have hhas := h.has hx
  obtain ⟨f1, f2, f3, f4⟩ := fin_wk hhas
  have hn3 : (x : Int) ∉ A.lk 3 := fun e => by rcases (h.mem x hx).1 e with e | e <;> omega
  have hst := (h.st x hx).2
  have h3 : (A.wk (x : Int)).st ≠ 3 := fun e => by
    have := h.inv.l2 x hhas e (by simp)
    by_cases e3 : (A.wk (x : Int)).row = 3
    · rw [e3] at this; exact hn3 (List.mem_of_mem_tail this)
    · rw [h.oth _ e3] at this; simp at this
  have hlk : (A.fin (x : Int)).lk = A.lk := by
    show (A.leave (x : Int)).lk = A.lk
    rw [Ab.leave_eq, if_neg h3]
    split
    · rfl
    · split
      · rfl
      · split <;> rfl
  have hLn : L = [] := by
    cases L with
    | nil => rfl
    | cons k L =>
      have := (hL.mem k).1 (by simp)
      rw [hlk] at this
      by_cases e : k = 3
      · rw [e] at this; exact absurd (List.mem_of_mem_head? this.2) hn3
      · rw [h.oth k e] at this; simp at this
  subst hLn
  show Lk (A.fin (x : Int)) _ N T _ ins ord
  have ne : ∀ {i : Nat}, i ≠ x → ((i : Int) ≠ (x : Int)) := fun h e => h (by omega)
  refine ⟨h.inv.fin hhas, by rw [f1]; exact h.len, by rw [hlk]; exact h.oth, fun i hi => ?_, fun i hi => ?_, fun i hi e => ?_, fun i hi e => ?_, fun i hi => ?_, ?_, ?_, ?_, h.bd⟩
  · by_cases e : i = x
    · subst e; rw [f3, updN_same]; exact ⟨by simp, by simp, .inr (.inr rfl)⟩
    · rw [f4 _ (by omega) (ne e), updN_other sh _ e]; exact h.st i hi
  · rw [hlk]
    by_cases e : i = x
    · subst e; rw [updN_same]; simp only [hn3, false_iff]; simp
    · rw [updN_other sh _ e]; exact h.mem i hi
  · rw [hlk]
    by_cases e2 : i = x
    · subst e2; rw [updN_same] at e; simp at e
    · rw [updN_other sh _ e2] at e; exact h.s2 i hi e
  · rw [hlk] at e
    by_cases e2 : i = x
    · subst e2; exact absurd (List.mem_of_mem_head? e) hn3
    · rw [f4 _ (by omega) (ne e2)]; exact h.hd i hi e
  · by_cases e : i = x
    · subst e; rw [updN_same]; have := h.nm i hi; exact ⟨fun _ => ht, fun e => by simp at e, this.2.2⟩
    · rw [updN_other sh _ e]; exact h.nm i hi
  · rcases h.ins with e | ⟨j, hj, e⟩
    · exact .inl e
    · exact .inr ⟨j, hj, by rw [updN_other sh _ (fun e2 => by rw [e2] at e; omega)]; exact e⟩
  · rw [hlk, waits_upd_not]
    · exact h.eq
    · intro y hy e
      have hyh := h.inv.l0 3 y hy
      have := has_bd hyh
      exact hn3 (by rw [show (x : Int) = y by omega]; exact hy)
  · have h1 := sm_upd (fun z => z.t) sh x { sh x with s := 3 } N hx
    have h2 := sm_upd (fun z => if z.s = 2 then 1 else 0) sh x { sh x with s := 3 } N hx
    have h3 := h.cnt
    dsimp only at h1 h2 h3 ⊢
    rw [if_neg (show ¬ (sh x).s = 2 by omega), if_neg (show ¬ (3 : Nat) = 2 by omega)] at h2
    omega
/-- A worker asks for the lock. -/
theorem Lk.ask {A : Ab} {N T : Nat} {sh : Nat → Sh} {ins ord : List Int} {x : Nat} (hx : x < N) (h : Lk A (some (x : Int)) N T sh ins ord) (h0 : (sh x).s = 0) (ht : 1 ≤ (sh x).t) (h1 : (A.wk (x : Int)).st = 1) :
    Lk (lockS A (x : Int) 3) (some (x : Int)) N T (updN sh x { sh x with s := 1 }) ins (ord ++ [-1 - (x : Int)]) := by
  have hhas := h.has hx
  have hn3 : (x : Int) ∉ A.lk 3 := fun e => by rcases (h.mem x hx).1 e with e | e <;> omega
  have hne : ∀ {i : Nat}, i ≠ x → ((i : Int) ≠ (x : Int)) := fun h e => h (by omega)
  have ha : allowR A (x : Int) 0 = 0 := by unfold allowR; rw [hhas, h1]; rfl
  have hlk3 : (lockS A (x : Int) 3).lk 3 = A.lk 3 ++ [(x : Int)] := by
    unfold lockS
    rw [if_pos ha]
    split
    · rename_i e
      show upd A.lk 3 [(x : Int)] 3 = _
      rw [upd_same, e]; rfl
    · split
      · rename_i e1 e2
        cases hl : A.lk 3 with
        | nil => exact absurd hl e1
        | cons a t => rw [hl] at e2 hn3; simp at e2; rw [e2] at hn3; simp at hn3
      · exact upd_same A.lk 3 (A.lk 3 ++ [(x : Int)])
  have hlko : ∀ k, k ≠ 3 → (lockS A (x : Int) 3).lk k = [] := fun k hk => by
    unfold lockS
    rw [if_pos ha]
    split
    · show upd A.lk 3 _ k = _; rw [upd_other _ _ hk]; exact h.oth k hk
    · split
      · exact h.oth k hk
      · show upd A.lk 3 _ k = _; rw [upd_other _ _ hk]; exact h.oth k hk
  have hwo : ∀ i : Nat, i < N → i ≠ x → (lockS A (x : Int) 3).wk (i : Int) = A.wk (i : Int) := fun i hi e => by
    rcases (lockS_wk (x : Int) 3 (i : Int) (h.has hi)).2 with e2 | ⟨e2, _⟩
    · exact e2
    · exact absurd e2 (hne e)
  have hwx : ((lockS A (x : Int) 3).wk (x : Int)).st = 1 ∨ ((lockS A (x : Int) 3).wk (x : Int)).st = 3 := by
    rcases (lockS_wk (x : Int) 3 (x : Int) hhas).2 with e2 | ⟨_, _, e2⟩
    · exact .inl (by rw [e2]; exact h1)
    · exact .inr (by rw [e2])
  refine ⟨h.inv.lockS _ _ (isI_of (by omega) (by omega)), by rw [lockS_len]; exact h.len, hlko, fun i hi => ?_, fun i hi => ?_, fun i hi e => ?_, fun i hi e => ?_, fun i hi => ?_, ?_, ?_, ?_, fun y hy => (List.mem_append.1 hy).elim (h.bd y) (fun e => by simp at e; omega)⟩
  · by_cases e : i = x
    · subst e
      rw [updN_same]
      dsimp only
      refine ⟨by omega, ?_, ?_⟩
      · constructor
        · intro e; rcases hwx with e2 | e2 <;> omega
        · intro e; omega
      · rcases hwx with e2 | e2
        · exact .inl e2
        · exact .inr (.inl e2)
    · rw [hwo i hi e, updN_other sh _ e]; exact h.st i hi
  · rw [hlk3, List.mem_append]
    by_cases e : i = x
    · subst e; rw [updN_same]; simp
    · rw [updN_other sh _ e, ← h.mem i hi]
      constructor
      · rintro (e2 | e2)
        · exact e2
        · simp at e2; omega
      · exact .inl
  · rw [hlk3]
    by_cases e2 : i = x
    · subst e2; rw [updN_same] at e; simp at e
    · rw [updN_other sh _ e2] at e
      have := h.s2 i hi e
      cases hl : A.lk 3 with
      | nil => rw [hl] at this; simp at this
      | cons a t => rw [hl] at this; exact this
  · rw [hlk3] at e
    cases hl : A.lk 3 with
    | nil =>
      rw [hl] at e
      simp at e
      have e3 : i = x := by omega
      subst e3
      have e4 : lockS A (i : Int) 3 = { A with lk := upd A.lk 3 [(i : Int)] } := by unfold lockS; rw [if_pos ha, if_pos hl]
      rw [e4]; exact h1
    | cons a t =>
      rw [hl] at e
      have e5 : (A.lk 3).head? = some (i : Int) := by rw [hl]; exact e
      have e6 : i ≠ x := fun e6 => by subst e6; exact hn3 (List.mem_of_mem_head? e5)
      rw [hwo i hi e6]
      exact h.hd i hi e5
  · by_cases e : i = x
    · subst e; rw [updN_same]; have := h.nm i hi; exact ⟨fun e => by simp at e, fun _ => ht, this.2.2⟩
    · rw [updN_other sh _ e]; exact h.nm i hi
  · rcases h.ins with e | ⟨j, hj, e⟩
    · exact .inl e
    · exact .inr ⟨j, hj, by rw [updN_other sh _ (fun e2 => by rw [e2] at e; omega)]; exact e⟩
  · have e1 : came (ord ++ [-1 - (x : Int)]) = came ord ++ [(x : Int)] := by
      rw [came_app, came, if_pos (by omega)]
      congr 1
      rw [came]
      congr 1
      omega
    have e2 : got (ord ++ [-1 - (x : Int)]) = got ord := by rw [got_app, got, if_pos (by omega), got, List.append_nil]
    have e3 : waits (updN sh x { sh x with s := 1 }) (A.lk 3) = waits sh (A.lk 3) := waits_upd_not sh x _ _ (fun y hy e => by
      have := has_bd (h.inv.l0 3 y hy)
      exact hn3 (by rw [show (x : Int) = y by omega]; exact hy))
    have e4 : waits (updN sh x { sh x with s := 1 }) [(x : Int)] = [(x : Int)] := by
      unfold waits
      simp [updN_same]
    have e5 : ∀ l m, waits (updN sh x { sh x with s := 1 }) (l ++ m) = waits (updN sh x { sh x with s := 1 }) l ++ waits (updN sh x { sh x with s := 1 }) m := fun l m => by unfold waits; rw [List.filter_append]
    rw [e1, e2, hlk3, e5, e3, e4, h.eq, List.append_assoc]
  · have h1 := sm_upd (fun z => z.t) sh x { sh x with s := 1 } N hx
    have h2 := sm_upd (fun z => if z.s = 2 then 1 else 0) sh x { sh x with s := 1 } N hx
    have h3 := h.cnt
    have e2 : got (ord ++ [-1 - (x : Int)]) = got ord := by rw [got_app, got, if_pos (by omega), got, List.append_nil]
    rw [e2]
    dsimp only at h1 h2 h3 ⊢
    rw [if_neg (show ¬ (sh x).s = 2 by omega), if_neg (show ¬ (1 : Nat) = 2 by omega)] at h2
    omega
theorem phi_ask (x : Sh) (h0 : x.s = 0) : phi { x with s := 1 } + 1 = phi x := by unfold phi; simp [h0]
/-- A worker that is picked in state 1 holds the lock, and nobody is inside. -/
theorem Lk.first {A : Ab} {r : Option Int} {N T : Nat} {sh : Nat → Sh} {ins ord : List Int} {x : Nat} (hx : x < N) (h : Lk A r N T sh ins ord) (h1 : (A.wk (x : Int)).st = 1) (hs : (sh x).s = 1 ∨ (sh x).s = 2) : (A.lk 3).head? = some (x : Int) := by
  have hm := (h.mem x hx).2 hs
  cases hl : A.lk 3 with
  | nil => rw [hl] at hm; simp at hm
  | cons a t =>
    rw [hl] at hm
    rcases List.mem_cons.1 hm with e | e
    · rw [e]; rfl
    · have := (h.inv.l1 3 x (by rw [hl]; exact e)).1
      omega
theorem Lk.nobody {A : Ab} {r : Option Int} {N T : Nat} {sh : Nat → Sh} {ins ord : List Int} {x : Nat} (hx : x < N) (h : Lk A r N T sh ins ord) (h1 : (A.wk (x : Int)).st = 1) (hs : (sh x).s = 1) : ins = [] := by
  rcases h.ins with e | ⟨j, hj, e⟩
  · exact e
  · have e1 := h.first hx h1 (.inl hs)
    have e2 := h.s2 j hj e
    rw [e1] at e2
    simp at e2
    have : x = j := by omega
    subst this
    omega
theorem phi_exit (x : Sh) (h0 : x.s = 0) (ht : x.t = 0) : phi { x with s := 3 } + 1 = phi x := by unfold phi; simp [h0, ht]
end Go.Proofs.Ytacmdhlemolngaa
