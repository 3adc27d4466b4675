/- vnet, by thinking alone: a queue whose chains are one piece each, both sides keeping to the rules. -/
import Derived.Test.YtpmbknlafeljlaaNetN
namespace Go.Proofs.Ytpmbknlafeljlaa
open Go.RowKit

def sgl (x : Nat) : Nat × List Nat := (x, [x])
structure Lane (q : Qu) (S : Sd) (P : List (Nat × Bf)) (G : List (Nat × Int)) : Prop where
  p2 : pow2 q.n = true
  ok : Ok q S
  fl : S.A.fl = (G.map fun g => sgl g.1) ++ (P.map fun p => sgl p.1)
  io : rd S.f (q.po + 2) 2 = S.A.offers
  iu : rd S.f (q.pu + 2) 2 = S.u
  off : S.A.offers = (S.o + P.length) % 65536
  us : S.u = (S.A.uses + G.length) % 65536
  ring : ∀ i, i < P.length → rd S.f (q.po + (4 + (S.o + i) % q.n * 2)) 2 = ((P.getD i default).1 : Nat)
  dsc : ∀ p ∈ P, rd S.f (q.base + p.1 * 16) 8 = p.2.addr ∧ rd S.f (q.base + p.1 * 16 + 8) 4 = p.2.len ∧ rd S.f (q.base + p.1 * 16 + 12) 2 = flagsOf p.2.wt false ∧ p.2.addr ≤ 4611686018427387904
  used : ∀ i, i < G.length → rd S.f (q.pu + (4 + (S.A.uses + i) % q.n * 8)) 4 = ((G.getD i default).1 : Nat) ∧ rd S.f (q.pu + (4 + (S.A.uses + i) % q.n * 8) + 4) 4 = (G.getD i default).2
theorem flat_one (l : List Nat) : (l.map sgl).flatMap (·.2) = l := by
  induction l with
  | nil => rfl
  | cons x l ih => simp [sgl, ih]
theorem Lane.flat {q : Qu} {S : Sd} {P : List (Nat × Bf)} {G : List (Nat × Int)} (h : Lane q S P G) : S.A.fl.flatMap (·.2) = G.map (·.1) ++ P.map (·.1) := by
  rw [h.fl, List.flatMap_append, ← flat_one (G.map (·.1)), ← flat_one (P.map (·.1))]
  simp [List.map_map, Function.comp_def]
theorem Lane.len {q : Qu} {S : Sd} {P : List (Nat × Bf)} {G : List (Nat × Int)} (h : Lane q S P G) : S.A.free.length + G.length + P.length = q.n := by
  have := h.ok.wf.len
  rw [h.flat] at this
  simp at this
  omega
theorem Lane.lt {q : Qu} {S : Sd} {P : List (Nat × Bf)} {G : List (Nat × Int)} (h : Lane q S P G) : ∀ x, x ∈ G.map (·.1) ++ P.map (·.1) → x < q.n := fun x hx => by
  have h1 : x ∈ S.A.free ++ S.A.fl.flatMap (·.2) := List.mem_append_right _ (by rw [h.flat]; exact hx)
  simpa using h.ok.wf.perm.mem_iff.1 h1
theorem Lane.nd {q : Qu} {S : Sd} {P : List (Nat × Bf)} {G : List (Nat × Int)} (h : Lane q S P G) : (S.A.free ++ (G.map (·.1) ++ P.map (·.1))).Nodup := by
  have := h.ok.wf.nodup
  rw [h.flat] at this
  exact this
theorem Lane.one {q : Qu} {S : Sd} {P : List (Nat × Bf)} {G : List (Nat × Int)} (h : Lane q S P G) : One S.A := fun p hp => by
  rw [h.fl] at hp
  rcases List.mem_append.1 hp with h1 | h1
  · obtain ⟨g, _, rfl⟩ := List.mem_map.1 h1; rfl
  · obtain ⟨g, _, rfl⟩ := List.mem_map.1 h1; rfl

theorem Lane.take_none {q : Qu} {S : Sd} {G : List (Nat × Int)} (h : Lane q S [] G) : (takeR q S).2.2 = 2 := by
  rw [takeR_none, h.io, h.off]
  have := h.ok.o
  simp
  omega
theorem rch_one (f : Nat → Int) (base n x : Nat) (b : Bf) (hx : x < n) (h1 : rd f (base + x * 16) 8 = b.addr) (h2 : rd f (base + x * 16 + 8) 4 = b.len) (h3 : rd f (base + x * 16 + 12) 2 = flagsOf b.wt false) (h4 : b.addr ≤ 4611686018427387904) : rch f base n (n + 1) x [] = some [b] := by
  rw [rch, if_neg (by simp; omega), if_neg (by rw [h1]; omega), h3, flagN_of, if_neg (by simp), flagW_of, h1, h2]
  rfl
theorem Lane.take {q : Qu} {S : Sd} {p : Nat × Bf} {P : List (Nat × Bf)} {G : List (Nat × Int)} (h : Lane q S (p :: P) G) : takeR q S = ((p.1 : Int), [p.2], 0) ∧ takeS q S = { S with o := (S.o + 1) % 65536 } := by
  have hlen := h.len
  have hn2 := q.geo.n2
  have hne : ¬ rd S.f (q.po + 2) 2 = S.o := by
    rw [h.io, h.off]
    have := h.ok.o
    simp at hlen ⊢
    omega
  have hr := h.ring 0 (by simp)
  simp at hr
  have hx : p.1 < q.n := h.lt p.1 (by simp)
  obtain ⟨d1, d2, d3, d4⟩ := h.dsc p (by simp)
  have hc := rch_one S.f q.base q.n p.1 p.2 hx d1 d2 d3 d4
  constructor
  · unfold takeR
    rw [if_neg hne, hr]
    simp only [Int.toNat_natCast]
    rw [hc]
  · unfold takeS
    rw [if_neg hne]
/-- What is changed outside the queue. -/
theorem rd_same {f f' : Nat → Int} {lo hi : Nat} (h : ∀ i, lo ≤ i → i < hi → f' i = f i) (a n : Nat) (h1 : lo ≤ a) (h2 : a + n ≤ hi) : rd f' a n = rd f a n := rd_congr (fun i hi => h _ (by omega) (by omega))
theorem Lane.congr {q : Qu} {S S' : Sd} {P : List (Nat × Bf)} {G : List (Nat × Int)} (h : Lane q S P G) (hA : S'.A = S.A) (ho : S'.o = S.o) (hu : S'.u = S.u) (hf : ∀ i, q.base ≤ i → i < q.base + (8 + 26 * q.n) → S'.f i = S.f i) (hb : ∀ i, i < q.N → IsB (S'.f i)) : Lane q S' P G := by
  have e1 := q.geo.epo
  have e2 := q.geo.epu
  have hn := q.geo.n1
  refine ⟨h.p2, ⟨hb, by rw [ho]; exact h.ok.o, by rw [hu]; exact h.ok.u, by rw [hA]; exact h.ok.wf⟩, by rw [hA]; exact h.fl, ?_, ?_, by rw [hA, ho]; exact h.off, by rw [hA, hu]; exact h.us, fun i hi => ?_, fun p hp => ?_, fun i hi => ?_⟩
  · rw [rd_same hf _ _ (by omega) (by omega), hA]; exact h.io
  · rw [rd_same hf _ _ (by omega) (by omega), hu]; exact h.iu
  · have := Nat.mod_lt (S.o + i) (show 0 < q.n from hn)
    rw [ho, rd_same hf _ _ (by omega) (by omega)]; exact h.ring i hi
  · have hx := h.lt p.1 (List.mem_append_right _ (List.mem_map.2 ⟨p, hp, rfl⟩))
    rw [rd_same hf _ _ (by omega) (by omega), rd_same hf _ _ (by omega) (by omega), rd_same hf _ _ (by omega) (by omega)]; exact h.dsc p hp
  · have := Nat.mod_lt (S.A.uses + i) (show 0 < q.n from hn)
    rw [hA, rd_same hf _ _ (by omega) (by omega), rd_same hf _ _ (by omega) (by omega)]; exact h.used i hi
theorem getD_snoc {α : Type} [Inhabited α] (l : List α) (x : α) (i : Nat) (h : i < l.length) : (l ++ [x]).getD i default = l.getD i default := by simp [List.getD, List.getElem?_append_left h]
theorem getD_last {α : Type} [Inhabited α] (l : List α) (x : α) : (l ++ [x]).getD l.length default = x := by simp [List.getD]
/-- A chain is taken and given back. -/
theorem Lane.give {q : Qu} {S : Sd} {p : Nat × Bf} {P : List (Nat × Bf)} {G : List (Nat × Int)} (h : Lane q S (p :: P) G) (len : Int) (h0 : 0 ≤ len) (h1 : len < 4294967296) :
    giveB q.n p.1 len = true ∧ Lane q ⟨S.A, given S.f q.pu q.n S.u p.1 len, (S.o + 1) % 65536, (S.u + 1) % 65536⟩ P (G ++ [(p.1, len)]) := by
  have hx : p.1 < q.n := h.lt p.1 (by simp)
  have hlen := h.len
  have e1 := q.geo.epo
  have e2 := q.geo.epu
  have hn := q.geo.n1
  have hn2 := q.geo.n2
  simp at hlen
  have hg := given_rd S.f q S.u (p.1 : Int) len (by omega) (by omega) h0 h1
  have hum : S.u % q.n = (S.A.uses + G.length) % q.n := by rw [h.us, mod_mod h.p2]
  refine ⟨by simp [giveB, lenB]; omega, h.p2, ⟨wr_b (wr_b (wr_b h.ok.b)), Nat.mod_lt _ (by omega), Nat.mod_lt _ (by omega), h.ok.wf⟩, ?_, ?_, hg.1, ?_, ?_, fun i hi => ?_, fun r hr => ?_, fun i hi => ?_⟩
  · rw [h.fl]; simp [sgl]
  · rw [given_low _ _ _ _ _ _ _ (by omega)]; exact h.io
  · have := h.off
    simp at this ⊢
    omega
  · have := h.us
    simp
    omega
  · have hk := Nat.mod_lt ((S.o + 1) % 65536 + i) (show 0 < q.n from hn)
    show rd (given S.f q.pu q.n S.u p.1 len) (q.po + (4 + ((S.o + 1) % 65536 + i) % q.n * 2)) 2 = _
    rw [given_low _ _ _ _ _ _ _ (by omega), mod_step h.p2]
    have := h.ring (i + 1) (by simp; omega)
    simpa using this
  · have hxr := h.lt r.1 (List.mem_append_right _ (List.mem_map.2 ⟨r, List.mem_cons_of_mem _ hr, rfl⟩))
    rw [given_low _ _ _ _ _ _ _ (by omega), given_low _ _ _ _ _ _ _ (by omega), given_low _ _ _ _ _ _ _ (by omega)]
    exact h.dsc r (List.mem_cons_of_mem _ hr)
  · simp at hi
    by_cases e : i = G.length
    · subst e
      rw [getD_last, ← hum]
      exact ⟨hg.2.1, hg.2.2⟩
    · have hne := mod_ne h.p2 S.A.uses i G.length (by omega) (by omega)
      have k1 := Nat.mod_lt (S.A.uses + i) (show 0 < q.n from hn)
      have k2 := Nat.mod_lt (S.A.uses + G.length) (show 0 < q.n from hn)
      rw [getD_snoc _ _ _ (by omega)]
      unfold given
      simp only [hum]
      rw [rd_wr_other _ _ _ _ _ _ (by omega), rd_wr_other _ _ _ _ _ _ (by omega), rd_wr_other _ _ _ _ _ _ (by omega), rd_wr_other _ _ _ _ _ _ (by omega), rd_wr_other _ _ _ _ _ _ (by omega), rd_wr_other _ _ _ _ _ _ (by omega)]
      exact h.used i (by omega)
theorem Lane.used_none {q : Qu} {S : Sd} {P : List (Nat × Bf)} (h : Lane q S P []) : (usedR q S).2.2 = 2 := by
  rw [usedR_none, h.iu, h.us]
  have := h.ok.wf.u
  simp
  omega
/-- A chain that was given back is taken back. -/
theorem Lane.pop {q : Qu} {S : Sd} {P : List (Nat × Bf)} {g : Nat × Int} {G : List (Nat × Int)} (h : Lane q S P (g :: G)) :
    usedR q S = ((g.1 : Int), g.2, 0) ∧ usedS q S = { S with A := UseA S.A g.1 [g.1] } ∧ Lane q (usedS q S) P G := by
  have hlen := h.len
  have hn2 := q.geo.n2
  have hne : ¬ rd S.f (q.pu + 2) 2 = S.A.uses := by
    rw [h.iu, h.us]
    have := h.ok.wf.u
    simp at hlen ⊢
    omega
  have hu := h.used 0 (by simp)
  simp at hu
  have hl : look S.A.fl (g.1 : Int) = some [g.1] := by rw [h.fl]; simp [look, sgl]
  have hR : usedR q S = ((g.1 : Int), g.2, 0) := by
    unfold usedR
    rw [if_neg hne, hu.1, hl, hu.2]
  have hS : usedS q S = { S with A := UseA S.A g.1 [g.1] } := by
    unfold usedS
    rw [if_neg hne, hu.1, hl]
  refine ⟨hR, hS, ?_⟩
  rw [hS]
  refine ⟨h.p2, ⟨h.ok.b, h.ok.o, h.ok.u, UseA_wf h.ok.wf hl⟩, ?_, h.io, h.iu, h.off, ?_, h.ring, h.dsc, fun i hi => ?_⟩
  · show S.A.fl.eraseP (hp g.1) = _
    rw [h.fl]
    simp [sgl, hp]
  · have := h.us
    show S.u = ((S.A.uses + 1) % 65536 + G.length) % 65536
    simp at this
    omega
  · have := h.used (i + 1) (by simp; omega)
    show rd S.f (q.pu + (4 + ((S.A.uses + 1) % 65536 + i) % q.n * 8)) 4 = _ ∧ rd S.f (q.pu + (4 + ((S.A.uses + 1) % 65536 + i) % q.n * 8) + 4) 4 = _
    rw [mod_step h.p2]
    simpa using this
theorem addF_one (f : Nat → Int) (q : Qu) (A : Abs) (b : Bf) (hf : 0 < A.free.length) : addF f q A [b] = wr (wr (put1 f (q.base + A.free.getD 0 0 * 16) b (flagsOf b.wt false) 0) (q.po + (4 + A.offers % q.n * 2)) 2 (A.free.getD 0 0 : Nat)) (q.po + 2) 2 ((A.offers + 1) % 65536 : Nat) := by
  unfold addF
  rw [List.length_singleton, take_one hf]
  simp [layTo]
/-- A chain is offered. -/
theorem Lane.add {q : Qu} {S : Sd} {P : List (Nat × Bf)} {G : List (Nat × Int)} (h : Lane q S P G) (b : Bf) (hb : okB b) (ha : b.addr ≤ 4611686018427387904) (hf : 0 < S.A.free.length) :
    Lane q (addS q S b) (P ++ [(S.A.free.getD 0 0, b)]) G := by
  have hxm : S.A.free.getD 0 0 ∈ S.A.free := getD_mem _ _ _ hf
  have hx := h.ok.wf.free_lt hxm
  have hnd := h.nd
  rw [List.nodup_append] at hnd
  have hxP : ∀ p ∈ P, p.1 ≠ S.A.free.getD 0 0 := fun p hp e => hnd.2.2 _ hxm p.1 (List.mem_append_right _ (List.mem_map.2 ⟨p, hp, rfl⟩)) e.symm
  have hlen := h.len
  have e1 := q.geo.epo
  have e2 := q.geo.epu
  have hn := q.geo.n1
  have hn2 := q.geo.n2
  have hone := addF_one S.f q S.A b hf
  have hom : S.A.offers % q.n = (S.o + P.length) % q.n := by rw [h.off, mod_mod h.p2]
  have hpr := put1_rd S.f (q.base + S.A.free.getD 0 0 * 16) b (flagsOf b.wt false) 0 hb (flagsOf_bd _ _) (by omega)
  refine ⟨h.p2, h.ok.add hf b, ?_, ?_, ?_, ?_, ?_, fun i hi => ?_, fun p hp => ?_, fun i hi => ?_⟩
  · show S.A.fl ++ [(S.A.free.getD 0 0, S.A.free.take 1)] = _
    rw [h.fl, take_one hf]
    simp [sgl]
  · show rd (addF S.f q S.A [b]) (q.po + 2) 2 = _
    rw [hone, rd_wr_same _ _ _ _ (by omega) (by omega)]
    rfl
  · show rd (addF S.f q S.A [b]) (q.pu + 2) 2 = _
    rw [addF_up _ _ _ _ hx hf _ _ (by omega)]
    exact h.iu
  · have := h.off
    show (S.A.offers + 1) % 65536 = _
    simp [addS]
    omega
  · exact h.us
  · show rd (addF S.f q S.A [b]) _ 2 = _
    rw [hone]
    simp at hi
    have k2 := Nat.mod_lt (S.o + P.length) (show 0 < q.n from hn)
    have k3 := Nat.mod_lt (S.o + i) (show 0 < q.n from hn)
    simp only [addS]
    rw [rd_wr_other _ _ _ _ _ _ (by omega)]
    by_cases e : i = P.length
    · subst e
      rw [getD_last, hom, rd_wr_same _ _ _ _ (by omega) (by omega)]
    · have hne := mod_ne h.p2 S.o i P.length (by omega) (by omega)
      rw [getD_snoc _ _ _ (by omega), hom, rd_wr_other _ _ _ _ _ _ (by omega), put1_other _ _ _ _ _ _ _ (by omega)]
      exact h.ring i (by omega)
  · show rd (addF S.f q S.A [b]) _ 8 = _ ∧ rd (addF S.f q S.A [b]) _ 4 = _ ∧ rd (addF S.f q S.A [b]) _ 2 = _ ∧ _
    have k2 := Nat.mod_lt S.A.offers (show 0 < q.n from hn)
    have hpn : p.1 < q.n := by
      rcases List.mem_append.1 hp with h3 | h3
      · exact h.lt p.1 (List.mem_append_right _ (List.mem_map.2 ⟨p, h3, rfl⟩))
      · simp at h3; rw [h3]; simpa using hx
    rw [hone, rd_wr_other _ _ _ _ _ _ (by omega), rd_wr_other _ _ _ _ _ _ (by omega), rd_wr_other _ _ _ _ _ _ (by omega), rd_wr_other _ _ _ _ _ _ (by omega), rd_wr_other _ _ _ _ _ _ (by omega), rd_wr_other _ _ _ _ _ _ (by omega)]
    rcases List.mem_append.1 hp with h3 | h3
    · have hne := hxP p h3
      generalize S.A.free.getD 0 0 = x at *
      rw [put1_other _ _ _ _ _ _ _ (by omega), put1_other _ _ _ _ _ _ _ (by omega), put1_other _ _ _ _ _ _ _ (by omega)]
      exact h.dsc p h3
    · simp only [List.mem_singleton] at h3
      subst h3
      exact ⟨hpr.1, hpr.2.1, hpr.2.2.1, ha⟩
  · show rd (addF S.f q S.A [b]) _ 4 = _ ∧ rd (addF S.f q S.A [b]) _ 4 = _
    rw [addF_up _ _ _ _ hx hf _ _ (by omega), addF_up _ _ _ _ hx hf _ _ (by omega)]
    exact h.used i hi
theorem Lane.start (q : Qu) (f : Nat → Int) (hp : pow2 q.n = true) (hb : ∀ i, i < q.N → IsB (f i)) (hf : ∀ i, q.base ≤ i → i < q.base + (8 + 26 * q.n) → f i = 0) : Lane q ⟨A0 q.n, f, 0, 0⟩ [] [] := by
  have h := Sane.start q f hp hf
  exact ⟨hp, ⟨hb, by show 0 < 65536; omega, by show 0 < 65536; omega, wf0 _⟩, rfl, h.io, h.iu, rfl, rfl, fun i hi => by simp at hi, fun p hp => by simp at hp, fun i hi => by simp at hi⟩
end Go.Proofs.Ytpmbknlafeljlaa
