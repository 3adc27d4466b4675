/- What one round of Write leaves: a row of bytes of its own, and behind the versions of one block one more. -/
import Derived.Test.YtdbpjdaaggenpaaBridge
namespace Go.Proofs.Ytdbpjdaaggenpaa
open Go.RowKit Go.Shelf

def wrA (A : Abs) (x : Int) (ls : List (List Int)) : Abs := { A with V := fun k => A.V k ++ (if x ≤ k ∧ k < x + ls.length then [ls.getD (k - x).toNat []] else []) }

theorem wrA_nil (A : Abs) (x : Int) : wrA A x [] = A := by
  cases A
  simp only [wrA, Abs.mk.injEq, true_and]
  funext k
  have : ¬ (x ≤ k ∧ k < x + ([] : List (List Int)).length) := by simp
  rw [if_neg this, List.append_nil]

theorem wrA_snoc (A : Abs) (x : Int) (ls : List (List Int)) (c : List Int) : wrA A x (ls ++ [c]) = { wrA A x ls with V := upd (wrA A x ls).V (x + ls.length) ((wrA A x ls).V (x + ls.length) ++ [c]) } := by
  simp only [wrA, Abs.mk.injEq, true_and]
  funext k
  by_cases e : k = x + ls.length
  · subst e
    rw [upd_same]
    simp
    have : ¬ (x + (ls.length : Int) < x + ls.length) := by omega
    have h2 : (x ≤ x + (ls.length : Int)) := by omega
    have h3 : x + (ls.length : Int) - x = ls.length := by omega
    simp [h2, h3]
    omega
  · rw [upd_other _ _ e]
    simp only [List.length_append, List.length_singleton]
    by_cases h : x ≤ k ∧ k < x + ls.length
    · rw [if_pos h, if_pos (by omega)]
      simp only [List.getD]
      rw [List.getElem?_append_left (by omega)]
    · rw [if_neg h, if_neg (by push_cast; omega)]

/-- The slice at a key, with its rows. -/
theorem DiskAt.at_key {w : World} {pd bp bv : Nat} {MP MV : Int → Option Value} {A : Abs} {n : Nat} {al : Nat → Prop} (d : DiskAt w pd bp bv MP MV A n al) (k : Int) (hk : IsI k) :
    ∃ vs, vs.length = (A.V k).length ∧ w.ownsRow 0 42 1 ((MV k).getD (.slice none 0 0)) (A.V k).length vs ∧ (∀ i, (h : i < (A.V k).length) → ∃ u, vs[i]? = some u ∧ Row w al u (A.V k)[i]) ∧ ∀ g, ((MV k).getD (.slice none 0 0)).ownBlock = some g → al g := by
  rcases d.rv k hk with ⟨h1, h2⟩ | ⟨v, h1, h2, vs, h3⟩
  · rw [h1, h2]
    exact ⟨[], rfl, World.ownsRow_nil _ _ _ _, fun i h => by simp at h, fun g h => by simp [Value.ownBlock] at h⟩
  · rw [h1]
    exact ⟨vs, h3⟩

theorem Row.keep2 {w w' : World} {al al' : Nat → Prop} {v : Value} {l : List Int} (h : Row w al v l) (hk : ∀ g cur, al g → w.heap[g]? = some (.cells cur 5 (0, 0)) → w'.heap[g]? = w.heap[g]? ∧ al' g) : Row w' al' v l :=
  ⟨owns_keep h.1 (fun g hg => by obtain ⟨cur, hc⟩ := owns_kind h.1 hg; exact (hk g cur (h.2.2.2 g hg) hc).1), h.2.1, h.2.2.1, fun g hg => by obtain ⟨cur, hc⟩ := owns_kind h.1 hg; exact (hk g cur (h.2.2.2 g hg) hc).2⟩
theorem Rows2.keep2 {w w' : World} {al al' : Nat → Prop} {v : Value} {ls : List (List Int)} (h : Rows2 w al v ls) (hk : ∀ g cur, al g → w.heap[g]? = some (.cells cur 5 (0, 0)) → w'.heap[g]? = w.heap[g]? ∧ al' g)
    (hv : ∀ g, v.ownBlock = some g → w'.heap[g]? = w.heap[g]? ∧ al' g) : Rows2 w' al' v ls := by
  obtain ⟨vs, h1, h2, h3, h4⟩ := h
  refine ⟨vs, h1, owns_keep h2 (fun g hg => (hv g hg).1), fun i hi => ?_, fun g hg => (hv g hg).2⟩
  obtain ⟨u, hu, hr⟩ := h3 i hi
  exact ⟨u, hu, hr.keep2 hk⟩

theorem DiskAt.wrote {w wu : World} {pd bp bv : Nat} {MP MV : Int → Option Value} {A : Abs} {n : Nat} {al : Nat → Prop} (d : DiskAt w pd bp bv MP MV A n al) (k : Int) (hk : IsI k) (hkN : 0 ≤ k ∧ k < A.N)
    (vs : List Value) (hvs : vs.length = (A.V k).length) (v : Value) (hv : v = (MV k).getD (.slice none 0 0)) (hown : w.ownsRow 0 42 1 v (A.V k).length vs) (hrows : ∀ i, (h : i < (A.V k).length) → ∃ u, vs[i]? = some u ∧ Row w al u (A.V k)[i]) (hva : ∀ g, v.ownBlock = some g → al g)
    (vc v' : Value) (c : List Int) (hc : c.length = 512 ∧ ∀ y ∈ c, IsB y)
    (hs : w.heap.size ≤ wu.heap.size) (hkeep : ∀ b, b < w.heap.size → b ≠ bv → v.ownBlock ≠ some b → wu.heap[b]? = w.heap[b]?)
    (hrow : wu.ownsRow w.heap.size 5 1 vc 512 (c.map fun x => Value.int .u8 x)) (hout : wu.ownsRow 0 42 1 v' ((A.V k).length + 1) (vs ++ [vc])) (hloc : v'.ownBlock = v.ownBlock ∨ ∃ g, v'.ownBlock = some g ∧ w.heap.size ≤ g)
    (hmap : MapIs wu bv (n + 1) (upd MV k (some v'))) :
    DiskAt wu pd bp bv MP (upd MV k (some v')) { A with V := upd A.V k (A.V k ++ [c]) } (n + 1) (fun b => (al b ∧ (v.ownBlock = some b → v'.ownBlock = some b)) ∨ (w.heap.size ≤ b ∧ (vc.ownBlock = some b ∨ v'.ownBlock = some b))) := by
  obtain ⟨es, cl, hmb⟩ := d.mv.block
  -- a block of cells of 'al' that is not v's own row lies as it lay
  have hcell : ∀ g cur t, al g → w.heap[g]? = some (.cells cur t (0, 0)) → v.ownBlock ≠ some g → wu.heap[g]? = w.heap[g]? := fun g cur t ha hcu hne =>
    hkeep g (d.lt g ha) (fun e => by rw [e, hmb] at hcu; cases hcu) hne
  have h5n : ∀ g cur, w.heap[g]? = some (.cells cur 5 (0, 0)) → v.ownBlock ≠ some g := fun g cur hcu e => by
    obtain ⟨cur', h'⟩ := owns_kind hown e
    rw [hcu] at h'
    cases h'
  have h5 : ∀ g cur, al g → w.heap[g]? = some (.cells cur 5 (0, 0)) → wu.heap[g]? = w.heap[g]? ∧ ((al g ∧ (v.ownBlock = some g → v'.ownBlock = some g)) ∨ (w.heap.size ≤ g ∧ (vc.ownBlock = some g ∨ v'.ownBlock = some g))) := fun g cur ha hcu =>
    ⟨hcell g cur 5 ha hcu (h5n g cur hcu), .inl ⟨ha, fun e => absurd e (h5n g cur hcu)⟩⟩
  have hav : ∀ g, al g → v.ownBlock ≠ some g → ((al g ∧ (v.ownBlock = some g → v'.ownBlock = some g)) ∨ (w.heap.size ≤ g ∧ (vc.ownBlock = some g ∨ v'.ownBlock = some g))) := fun g ha hne => .inl ⟨ha, fun e => absurd e hne⟩
  have hrow2 : ∀ {u l}, Row w al u l → Row wu (fun b => (al b ∧ (v.ownBlock = some b → v'.ownBlock = some b)) ∨ (w.heap.size ≤ b ∧ (vc.ownBlock = some b ∨ v'.ownBlock = some b))) u l := fun h => h.keep2 h5
  have hpdv : v.ownBlock ≠ some pd := fun e => by
    obtain ⟨cur', h'⟩ := owns_kind hown e
    rw [d.box] at h'
    cases h'
  have hbpv : ∀ g, v.ownBlock = some g → g ≠ bp := fun g e e' => by
    obtain ⟨cur', h'⟩ := owns_kind hown e
    obtain ⟨es', cl', h2⟩ := d.mp.block
    rw [e', h2] at h'
    cases h'
  have hbvv : v.ownBlock ≠ some bv := fun e => by
    obtain ⟨cur', h'⟩ := owns_kind hown e
    rw [hmb] at h'
    cases h'
  refine { lt := ?_, box := (hcell pd _ 60 d.apd d.box hpdv).trans d.box, apd := hav pd d.apd hpdv, abp := hav bp d.abp (fun e => hbpv bp e rfl), abv := hav bv d.abv hbvv, ne := d.ne, mp := (d.mp.keep (hkeep bp (d.lt bp d.abp) d.ne (fun e => hbpv bp e rfl))).mono (by omega), mv := hmap, rp := ?_, rv := ?_, ap := ?_, hN := d.hN, vN := ?_, vL := ?_ }
  · rintro g (⟨hg, _⟩ | ⟨_, hg | hg⟩)
    · exact Nat.lt_of_lt_of_le (d.lt g hg) hs
    · exact (owns_lt hrow hg).1
    · exact (owns_lt hout hg).1
  · intro j hj
    exact (d.rp j hj).imp id (fun ⟨v, l, h1, h2, h3⟩ => ⟨v, l, h1, h2, hrow2 h3⟩)
  · intro j hj
    by_cases e : j = k
    · subst e
      right
      refine ⟨v', upd_same _ _ _, by simp only [upd_same]; simp, ?_⟩
      simp only [upd_same]
      refine ⟨vs ++ [vc], by simp [hvs], by simpa using hout, fun i hi => ?_, fun g hg => ?_⟩
      · by_cases h : i < (A.V j).length
        · obtain ⟨u, hu, hr⟩ := hrows i h
          refine ⟨u, by rw [List.getElem?_append_left (by omega)]; exact hu, ?_⟩
          rw [List.getElem_append_left h]
          exact hrow2 hr
        · have hi' : i = (A.V j).length := by simp at hi; omega
          subst hi'
          refine ⟨vc, by rw [List.getElem?_append_right (by omega), hvs]; simp, ?_⟩
          rw [List.getElem_append_right (by omega)]
          simp only [Nat.sub_self, List.getElem_singleton]
          refine ⟨?_, hc.1, hc.2, fun g hg => .inr ⟨(owns_lt hrow hg).2, .inl hg⟩⟩
          rw [hc.1]
          exact ⟨hrow.1, hrow.2.imp id (fun ⟨g, cap, cur, h1, _, h2⟩ => ⟨g, cap, cur, h1, Nat.zero_le _, h2⟩)⟩
      · rcases hloc with h | ⟨g', h1, h2⟩
        · exact .inl ⟨hva g (h ▸ hg), fun _ => hg⟩
        · rw [hg] at h1
          cases h1
          exact .inr ⟨h2, .inr hg⟩
    · simp only [upd_other _ _ e]
      refine (d.rv j hj).imp id (fun ⟨u, h1, h2, h3⟩ => ⟨u, h1, h2, h3.keep2 h5 (fun g hg => ?_)⟩)
      obtain ⟨vs', _, ho, _, ha⟩ := h3
      obtain ⟨cur, hcu⟩ := owns_kind ho hg
      suffices hne : v.ownBlock ≠ some g from ⟨hcell g cur 42 (ha g hg) hcu hne, hav g (ha g hg) hne⟩
      refine fun e2 => e ?_
      have hmk : MV k = some v := by
        cases hM : MV k with
        | none => rw [hM] at hv; rw [hv] at e2; simp [Value.ownBlock] at e2
        | some z => rw [hM] at hv; rw [hv]; rfl
      exact d.ap j k u v g hj hk h1 hmk hg e2
  · intro j j' u u' g hj hj' h1 h2 h3 h4
    have key : ∀ j u, IsI j → j ≠ k → MV j = some u → u.ownBlock = some g → v'.ownBlock = some g → False := by
      intro j u hj hne h1 h3 h4
      have hlt : g < w.heap.size := by
        rcases d.rv j hj with ⟨h, _⟩ | ⟨z, hz, _, vs', _, ho, _, _⟩
        · rw [h] at h1; cases h1
        · rw [hz] at h1; cases h1; exact (owns_lt ho h3).1
      rcases hloc with h | ⟨g', h5, h6⟩
      · rw [h] at h4
        have hmk : MV k = some v := by
          cases hM : MV k with
          | none => rw [hM] at hv; rw [hv] at h4; simp [Value.ownBlock] at h4
          | some z => rw [hM] at hv; rw [hv]; rfl
        exact hne (d.ap j k u v g hj hk h1 hmk h3 h4)
      · rw [h4] at h5; cases h5; omega
    by_cases e : j = k
    · by_cases e' : j' = k
      · rw [e, e']
      · subst e
        rw [upd_same] at h1
        cases h1
        rw [upd_other _ _ e'] at h2
        exact (key j' u' hj' e' h2 h4 h3).elim
    · rw [upd_other _ _ e] at h1
      by_cases e' : j' = k
      · subst e'
        rw [upd_same] at h2
        cases h2
        exact (key j u hj e h1 h3 h4).elim
      · rw [upd_other _ _ e'] at h2
        exact d.ap j j' u u' g hj hj' h1 h2 h3 h4
  · intro j hj
    by_cases e : j = k
    · subst e; exact hkN
    · simp only [upd_other _ _ e] at hj
      exact d.vN j hj
  · intro j
    by_cases e : j = k
    · subst e
      simp only [upd_same, List.length_append, List.length_singleton]
      have := d.vL j
      omega
    · simp only [upd_other _ _ e]
      have := d.vL j
      omega
end Go.Proofs.Ytdbpjdaaggenpaa
