/- NetP, NetQ in one text. -/
import Derived.Test.YtdjghkngiicncaaGreatNetN
/- vnet, by thinking alone: a queue whose chains are one piece each, both sides keeping to the rules. -/
namespace Go.Proofs.YtdjghkngiicncaaGreat
open Go.RowKit

def sgl (x : Nat) : Nat × List Nat := (x, [x])
structure Lane (q : Qu) (S : Sd) (P : List (Nat × Bf)) (G : List (Nat × Int)) : Prop where
  p2 : pow2 q.n = true
  ok : Ok q S
  fl : S.A.fl = (G.map fun g => sgl g.1) ++ (P.map fun p => sgl p.1)
  io : rd S.f (q.po + 2) 2 = S.A.offers
  iu : rd S.f (q.pu + 2) 2 = S.u
  off : S.A.offers = (S.o + P.length) % 65536
  us : S.u = (S.A.uses + G.length) % 65536
  ring : ∀ i, i < P.length → rd S.f (q.po + (4 + (S.o + i) % q.n * 2)) 2 = ((P.getD i default).1 : Nat)
  dsc : ∀ p ∈ P, rd S.f (q.base + p.1 * 16) 8 = p.2.addr ∧ rd S.f (q.base + p.1 * 16 + 8) 4 = p.2.len ∧ rd S.f (q.base + p.1 * 16 + 12) 2 = flagsOf p.2.wt false ∧ p.2.addr ≤ 4611686018427387904
  used : ∀ i, i < G.length → rd S.f (q.pu + (4 + (S.A.uses + i) % q.n * 8)) 4 = ((G.getD i default).1 : Nat) ∧ rd S.f (q.pu + (4 + (S.A.uses + i) % q.n * 8) + 4) 4 = (G.getD i default).2
theorem flat_one (l : List Nat) : (l.map sgl).flatMap (·.2) = l := by
  induction l with
  | nil => rfl
  | cons x l ih => simp [sgl, ih]
theorem Lane.flat {q : Qu} {S : Sd} {P : List (Nat × Bf)} {G : List (Nat × Int)} (h : Lane q S P G) : S.A.fl.flatMap (·.2) = G.map (·.1) ++ P.map (·.1) := by
  rw [h.fl, List.flatMap_append, ← flat_one (G.map (·.1)), ← flat_one (P.map (·.1))]
  simp [List.map_map, Function.comp_def]
theorem Lane.len {q : Qu} {S : Sd} {P : List (Nat × Bf)} {G : List (Nat × Int)} (h : Lane q S P G) : S.A.free.length + G.length + P.length = q.n := by
  have := h.ok.wf.len
  rw [h.flat] at this
  simp at this
  omega
theorem Lane.lt {q : Qu} {S : Sd} {P : List (Nat × Bf)} {G : List (Nat × Int)} (h : Lane q S P G) : ∀ x, x ∈ G.map (·.1) ++ P.map (·.1) → x < q.n := fun x hx => by
  have h1 : x ∈ S.A.free ++ S.A.fl.flatMap (·.2) := List.mem_append_right _ (by rw [h.flat]; exact hx)
  simpa using h.ok.wf.perm.mem_iff.1 h1
theorem Lane.nd {q : Qu} {S : Sd} {P : List (Nat × Bf)} {G : List (Nat × Int)} (h : Lane q S P G) : (S.A.free ++ (G.map (·.1) ++ P.map (·.1))).Nodup := by
  have := h.ok.wf.nodup
  rw [h.flat] at this
  exact this
theorem Lane.one {q : Qu} {S : Sd} {P : List (Nat × Bf)} {G : List (Nat × Int)} (h : Lane q S P G) : One S.A := fun p hp => by
  rw [h.fl] at hp
  rcases List.mem_append.1 hp with h1 | h1
  · obtain ⟨g, _, rfl⟩ := List.mem_map.1 h1; rfl
  · obtain ⟨g, _, rfl⟩ := List.mem_map.1 h1; rfl

theorem Lane.take_none {q : Qu} {S : Sd} {G : List (Nat × Int)} (h : Lane q S [] G) : (takeR q S).2.2 = 2 := by
  rw [takeR_none, h.io, h.off]
  have := h.ok.o
  simp
  omega
theorem rch_one (f : Nat → Int) (base n x : Nat) (b : Bf) (hx : x < n) (h1 : rd f (base + x * 16) 8 = b.addr) (h2 : rd f (base + x * 16 + 8) 4 = b.len) (h3 : rd f (base + x * 16 + 12) 2 = flagsOf b.wt false) (h4 : b.addr ≤ 4611686018427387904) : rch f base n (n + 1) x [] = some [b] := by
  rw [rch, if_neg (by simp; omega), if_neg (by rw [h1]; omega), h3, flagN_of, if_neg (by simp), flagW_of, h1, h2]
  rfl
theorem Lane.take {q : Qu} {S : Sd} {p : Nat × Bf} {P : List (Nat × Bf)} {G : List (Nat × Int)} (h : Lane q S (p :: P) G) : takeR q S = ((p.1 : Int), [p.2], 0) ∧ takeS q S = { S with o := (S.o + 1) % 65536 } := by
  have hlen := h.len
  have hn2 := q.geo.n2
  have hne : ¬ rd S.f (q.po + 2) 2 = S.o := by
    rw [h.io, h.off]
    have := h.ok.o
    simp at hlen ⊢
    omega
  have hr := h.ring 0 (by simp)
  simp at hr
  have hx : p.1 < q.n := h.lt p.1 (by simp)
  obtain ⟨d1, d2, d3, d4⟩ := h.dsc p (by simp)
  have hc := rch_one S.f q.base q.n p.1 p.2 hx d1 d2 d3 d4
  constructor
  · unfold takeR
    rw [if_neg hne, hr]
    simp only [Int.toNat_natCast]
    rw [hc]
  · unfold takeS
    rw [if_neg hne]
/-- What is changed outside the queue. -/
theorem rd_same {f f' : Nat → Int} {lo hi : Nat} (h : ∀ i, lo ≤ i → i < hi → f' i = f i) (a n : Nat) (h1 : lo ≤ a) (h2 : a + n ≤ hi) : rd f' a n = rd f a n := rd_congr (fun i hi => h _ (by omega) (by omega))
theorem Lane.congr {q : Qu} {S S' : Sd} {P : List (Nat × Bf)} {G : List (Nat × Int)} (h : Lane q S P G) (hA : S'.A = S.A) (ho : S'.o = S.o) (hu : S'.u = S.u) (hf : ∀ i, q.base ≤ i → i < q.base + (8 + 26 * q.n) → S'.f i = S.f i) (hb : ∀ i, i < q.N → IsB (S'.f i)) : Lane q S' P G := by
  have e1 := q.geo.epo
  have e2 := q.geo.epu
  have hn := q.geo.n1
  refine ⟨h.p2, ⟨hb, by rw [ho]; exact h.ok.o, by rw [hu]; exact h.ok.u, by rw [hA]; exact h.ok.wf⟩, by rw [hA]; exact h.fl, ?_, ?_, by rw [hA, ho]; exact h.off, by rw [hA, hu]; exact h.us, fun i hi => ?_, fun p hp => ?_, fun i hi => ?_⟩
  · rw [rd_same hf _ _ (by omega) (by omega), hA]; exact h.io
  · rw [rd_same hf _ _ (by omega) (by omega), hu]; exact h.iu
  · have := Nat.mod_lt (S.o + i) (show 0 < q.n from hn)
    rw [ho, rd_same hf _ _ (by omega) (by omega)]; exact h.ring i hi
  · have hx := h.lt p.1 (List.mem_append_right _ (List.mem_map.2 ⟨p, hp, rfl⟩))
    rw [rd_same hf _ _ (by omega) (by omega), rd_same hf _ _ (by omega) (by omega), rd_same hf _ _ (by omega) (by omega)]; exact h.dsc p hp
  · have := Nat.mod_lt (S.A.uses + i) (show 0 < q.n from hn)
    rw [hA, rd_same hf _ _ (by omega) (by omega), rd_same hf _ _ (by omega) (by omega)]; exact h.used i hi
theorem getD_snoc {α : Type} [Inhabited α] (l : List α) (x : α) (i : Nat) (h : i < l.length) : (l ++ [x]).getD i default = l.getD i default := by simp [List.getD, List.getElem?_append_left h]
theorem getD_last {α : Type} [Inhabited α] (l : List α) (x : α) : (l ++ [x]).getD l.length default = x := by simp [List.getD]
/-- A chain is taken and given back. -/
theorem Lane.give {q : Qu} {S : Sd} {p : Nat × Bf} {P : List (Nat × Bf)} {G : List (Nat × Int)} (h : Lane q S (p :: P) G) (len : Int) (h0 : 0 ≤ len) (h1 : len < 4294967296) :
    giveB q.n p.1 len = true ∧ Lane q ⟨S.A, given S.f q.pu q.n S.u p.1 len, (S.o + 1) % 65536, (S.u + 1) % 65536⟩ P (G ++ [(p.1, len)]) := by
  have hx : p.1 < q.n := h.lt p.1 (by simp)
  have hlen := h.len
  have e1 := q.geo.epo
  have e2 := q.geo.epu
  have hn := q.geo.n1
  have hn2 := q.geo.n2
  simp at hlen
  have hg := given_rd S.f q S.u (p.1 : Int) len (by omega) (by omega) h0 h1
  have hum : S.u % q.n = (S.A.uses + G.length) % q.n := by rw [h.us, mod_mod h.p2]
  refine ⟨by simp [giveB, lenB]; omega, h.p2, ⟨wr_b (wr_b (wr_b h.ok.b)), Nat.mod_lt _ (by omega), Nat.mod_lt _ (by omega), h.ok.wf⟩, ?_, ?_, hg.1, ?_, ?_, fun i hi => ?_, fun r hr => ?_, fun i hi => ?_⟩
  · rw [h.fl]; simp [sgl]
  · rw [given_low _ _ _ _ _ _ _ (by omega)]; exact h.io
  · have := h.off
    simp at this ⊢
    omega
  · have := h.us
    simp
    omega
  · have hk := Nat.mod_lt ((S.o + 1) % 65536 + i) (show 0 < q.n from hn)
    show rd (given S.f q.pu q.n S.u p.1 len) (q.po + (4 + ((S.o + 1) % 65536 + i) % q.n * 2)) 2 = _
    rw [given_low _ _ _ _ _ _ _ (by omega), mod_step h.p2]
    have := h.ring (i + 1) (by simp; omega)
    simpa using this
  · have hxr := h.lt r.1 (List.mem_append_right _ (List.mem_map.2 ⟨r, List.mem_cons_of_mem _ hr, rfl⟩))
    rw [given_low _ _ _ _ _ _ _ (by omega), given_low _ _ _ _ _ _ _ (by omega), given_low _ _ _ _ _ _ _ (by omega)]
    exact h.dsc r (List.mem_cons_of_mem _ hr)
  · simp at hi
    by_cases e : i = G.length
    · subst e
      rw [getD_last, ← hum]
      exact ⟨hg.2.1, hg.2.2⟩
    · have hne := mod_ne h.p2 S.A.uses i G.length (by omega) (by omega)
      have k1 := Nat.mod_lt (S.A.uses + i) (show 0 < q.n from hn)
      have k2 := Nat.mod_lt (S.A.uses + G.length) (show 0 < q.n from hn)
      rw [getD_snoc _ _ _ (by omega)]
      unfold given
      simp only [hum]
      rw [rd_wr_other _ _ _ _ _ _ (by omega), rd_wr_other _ _ _ _ _ _ (by omega), rd_wr_other _ _ _ _ _ _ (by omega), rd_wr_other _ _ _ _ _ _ (by omega), rd_wr_other _ _ _ _ _ _ (by omega), rd_wr_other _ _ _ _ _ _ (by omega)]
      exact h.used i (by omega)
theorem Lane.used_none {q : Qu} {S : Sd} {P : List (Nat × Bf)} (h : Lane q S P []) : (usedR q S).2.2 = 2 := by
  rw [usedR_none, h.iu, h.us]
  have := h.ok.wf.u
  simp
  omega
/-- A chain that was given back is taken back. -/
theorem Lane.pop {q : Qu} {S : Sd} {P : List (Nat × Bf)} {g : Nat × Int} {G : List (Nat × Int)} (h : Lane q S P (g :: G)) :
    usedR q S = ((g.1 : Int), g.2, 0) ∧ usedS q S = { S with A := UseA S.A g.1 [g.1] } ∧ Lane q (usedS q S) P G := by
  have hlen := h.len
  have hn2 := q.geo.n2
  have hne : ¬ rd S.f (q.pu + 2) 2 = S.A.uses := by
    rw [h.iu, h.us]
    have := h.ok.wf.u
    simp at hlen ⊢
    omega
  have hu := h.used 0 (by simp)
  simp at hu
  have hl : look S.A.fl (g.1 : Int) = some [g.1] := by rw [h.fl]; simp [look, sgl]
  have hR : usedR q S = ((g.1 : Int), g.2, 0) := by
    unfold usedR
    rw [if_neg hne, hu.1, hl, hu.2]
  have hS : usedS q S = { S with A := UseA S.A g.1 [g.1] } := by
    unfold usedS
    rw [if_neg hne, hu.1, hl]
  refine ⟨hR, hS, ?_⟩
  rw [hS]
  refine ⟨h.p2, ⟨h.ok.b, h.ok.o, h.ok.u, UseA_wf h.ok.wf hl⟩, ?_, h.io, h.iu, h.off, ?_, h.ring, h.dsc, fun i hi => ?_⟩
  · show S.A.fl.eraseP (hp g.1) = _
    rw [h.fl]
    simp [sgl, hp]
  · have := h.us
    show S.u = ((S.A.uses + 1) % 65536 + G.length) % 65536
    simp at this
    omega
  · have := h.used (i + 1) (by simp; omega)
    show rd S.f (q.pu + (4 + ((S.A.uses + 1) % 65536 + i) % q.n * 8)) 4 = _ ∧ rd S.f (q.pu + (4 + ((S.A.uses + 1) % 65536 + i) % q.n * 8) + 4) 4 = _
    rw [mod_step h.p2]
    simpa using this
theorem addF_one (f : Nat → Int) (q : Qu) (A : Abs) (b : Bf) (hf : 0 < A.free.length) : addF f q A [b] = wr (wr (put1 f (q.base + A.free.getD 0 0 * 16) b (flagsOf b.wt false) 0) (q.po + (4 + A.offers % q.n * 2)) 2 (A.free.getD 0 0 : Nat)) (q.po + 2) 2 ((A.offers + 1) % 65536 : Nat) := by
  unfold addF
  rw [List.length_singleton, take_one hf]
  simp [layTo]
/-- A chain is offered. -/
theorem Lane.add {q : Qu} {S : Sd} {P : List (Nat × Bf)} {G : List (Nat × Int)} (h : Lane q S P G) (b : Bf) (hb : okB b) (ha : b.addr ≤ 4611686018427387904) (hf : 0 < S.A.free.length) :
    Lane q (addS q S b) (P ++ [(S.A.free.getD 0 0, b)]) G := by
  have hxm : S.A.free.getD 0 0 ∈ S.A.free := getD_mem _ _ _ hf
  have hx := h.ok.wf.free_lt hxm
  have hnd := h.nd
  rw [List.nodup_append] at hnd
  have hxP : ∀ p ∈ P, p.1 ≠ S.A.free.getD 0 0 := fun p hp e => hnd.2.2 _ hxm p.1 (List.mem_append_right _ (List.mem_map.2 ⟨p, hp, rfl⟩)) e.symm
  have hlen := h.len
  have e1 := q.geo.epo
  have e2 := q.geo.epu
  have hn := q.geo.n1
  have hn2 := q.geo.n2
  have hone := addF_one S.f q S.A b hf
  have hom : S.A.offers % q.n = (S.o + P.length) % q.n := by rw [h.off, mod_mod h.p2]
  have hpr := put1_rd S.f (q.base + S.A.free.getD 0 0 * 16) b (flagsOf b.wt false) 0 hb (flagsOf_bd _ _) (by omega)
  refine ⟨h.p2, h.ok.add hf b, ?_, ?_, ?_, ?_, ?_, fun i hi => ?_, fun p hp => ?_, fun i hi => ?_⟩
  · show S.A.fl ++ [(S.A.free.getD 0 0, S.A.free.take 1)] = _
    rw [h.fl, take_one hf]
    simp [sgl]
  · show rd (addF S.f q S.A [b]) (q.po + 2) 2 = _
    rw [hone, rd_wr_same _ _ _ _ (by omega) (by omega)]
    rfl
  · show rd (addF S.f q S.A [b]) (q.pu + 2) 2 = _
    rw [addF_up _ _ _ _ hx hf _ _ (by omega)]
    exact h.iu
  · have := h.off
    show (S.A.offers + 1) % 65536 = _
    simp [addS]
    omega
  · exact h.us
  · show rd (addF S.f q S.A [b]) _ 2 = _
    rw [hone]
    simp at hi
    have k2 := Nat.mod_lt (S.o + P.length) (show 0 < q.n from hn)
    have k3 := Nat.mod_lt (S.o + i) (show 0 < q.n from hn)
    simp only [addS]
    rw [rd_wr_other _ _ _ _ _ _ (by omega)]
    by_cases e : i = P.length
    · subst e
      rw [getD_last, hom, rd_wr_same _ _ _ _ (by omega) (by omega)]
    · have hne := mod_ne h.p2 S.o i P.length (by omega) (by omega)
      rw [getD_snoc _ _ _ (by omega), hom, rd_wr_other _ _ _ _ _ _ (by omega), put1_other _ _ _ _ _ _ _ (by omega)]
      exact h.ring i (by omega)
  · show rd (addF S.f q S.A [b]) _ 8 = _ ∧ rd (addF S.f q S.A [b]) _ 4 = _ ∧ rd (addF S.f q S.A [b]) _ 2 = _ ∧ _
    have k2 := Nat.mod_lt S.A.offers (show 0 < q.n from hn)
    have hpn : p.1 < q.n := by
      rcases List.mem_append.1 hp with h3 | h3
      · exact h.lt p.1 (List.mem_append_right _ (List.mem_map.2 ⟨p, h3, rfl⟩))
      · simp at h3; rw [h3]; simpa using hx
    rw [hone, rd_wr_other _ _ _ _ _ _ (by omega), rd_wr_other _ _ _ _ _ _ (by omega), rd_wr_other _ _ _ _ _ _ (by omega), rd_wr_other _ _ _ _ _ _ (by omega), rd_wr_other _ _ _ _ _ _ (by omega), rd_wr_other _ _ _ _ _ _ (by omega)]
    rcases List.mem_append.1 hp with h3 | h3
    · have hne := hxP p h3
      generalize S.A.free.getD 0 0 = x at *
      rw [put1_other _ _ _ _ _ _ _ (by omega), put1_other _ _ _ _ _ _ _ (by omega), put1_other _ _ _ _ _ _ _ (by omega)]
      exact h.dsc p h3
    · simp only [List.mem_singleton] at h3
      subst h3
      exact ⟨hpr.1, hpr.2.1, hpr.2.2.1, ha⟩
  · show rd (addF S.f q S.A [b]) _ 4 = _ ∧ rd (addF S.f q S.A [b]) _ 4 = _
    rw [addF_up _ _ _ _ hx hf _ _ (by omega), addF_up _ _ _ _ hx hf _ _ (by omega)]
    exact h.used i hi
theorem Lane.start (q : Qu) (f : Nat → Int) (hp : pow2 q.n = true) (hb : ∀ i, i < q.N → IsB (f i)) (hf : ∀ i, q.base ≤ i → i < q.base + (8 + 26 * q.n) → f i = 0) : Lane q ⟨A0 q.n, f, 0, 0⟩ [] [] := by
  have h := Sane.start q f hp hf
  exact ⟨hp, ⟨hb, by show 0 < 65536; omega, by show 0 < 65536; omega, wf0 _⟩, rfl, h.io, h.iu, rfl, rfl, fun i hi => by simp at hi, fun p hp => by simp at hp, fun i hi => by simp at hi⟩
end Go.Proofs.YtdjghkngiicncaaGreat

/- vnet, by thinking alone: what a card and a port do that keep to the rules. -/
namespace Go.Proofs.YtdjghkngiicncaaGreat
open Go.RowKit

def inB (H : Nh) (x : Nat) : Bf := ⟨(H.fi + x * 1528 : Nat), 1526, true⟩
def outB (H : Nh) (x len : Nat) : Bf := ⟨(H.fo + x * 1528 : Nat), (12 + len : Nat), false⟩
def InR (H : Nh) (i : Nat) : Prop := (H.base ≤ i ∧ i < H.base + (8 + 26 * H.n)) ∨ (H.fi ≤ i ∧ i < H.fi + H.n * 1528)
def OutR (H : Nh) (i : Nat) : Prop := (H.base + (8 + 26 * H.n) ≤ i ∧ i < H.base + (8 + 26 * H.n) + (8 + 26 * H.n)) ∨ (H.fo ≤ i ∧ i < H.fo + H.n * 1528)
def Only (R : Nat → Prop) (f f' : Nat → Int) : Prop := ∀ i, ¬ R i → f' i = f i
theorem Only.refl (R : Nat → Prop) (f : Nat → Int) : Only R f f := fun _ _ => rfl
theorem Only.trans {R : Nat → Prop} {f f' f'' : Nat → Int} (h : Only R f f') (h' : Only R f' f'') : Only R f f'' := fun i hi => (h' i hi).trans (h i hi)
theorem frAt_congr {f f' : Nat → Int} {z len : Nat} (h : ∀ i, z ≤ i → i < z + len → f' i = f i) : frAt f' z len = frAt f z len := by
  unfold frAt at_
  congr 1
  apply List.map_congr_left
  intro i hi
  simp at hi
  exact h _ (by omega) (by omega)
theorem frAt_puts (f : Nat → Int) (z : Nat) (L : List Int) : frAt (puts f z (rowL L)) z (12 + L.length) = L := by
  have h1 : at_ (puts f z (rowL L)) z (12 + L.length) = rowL L := by
    apply List.ext_getElem
    · rw [at_len, rowL_len]
    · intro i h2 h3
      rw [rowL_len] at h3
      simp only [at_, List.getElem_map, List.getElem_range]
      unfold puts
      rw [rowL_len, if_pos (by omega), show z + i - z = i by omega]
      simp [List.getD, show i < (rowL L).length by rw [rowL_len]; exact h3]
  unfold frAt
  rw [h1]
  unfold rowL
  rw [List.drop_append]
  simp
theorem addF_out (f : Nat → Int) (q : Qu) (A : Abs) (b : Bf) (hx : A.free.getD 0 0 < q.n) (hf : 0 < A.free.length) (i : Nat) (h : i < q.base ∨ q.base + (8 + 26 * q.n) ≤ i) : addF f q A [b] i = f i := by
  have h1 := q.geo.epo
  have h2 := q.geo.epu
  have h3 := Nat.mod_lt A.offers (show 0 < q.n from q.geo.n1)
  rw [addF_one f q A b hf]
  generalize A.free.getD 0 0 = x at *
  unfold put1 wr
  rw [if_neg (by omega), if_neg (by omega), if_neg (by omega), if_neg (by omega), if_neg (by omega), if_neg (by omega)]
def Good (L : List Int) : Prop := 14 ≤ L.length ∧ L.length ≤ 1514 ∧ ∀ x ∈ L, IsB x
theorem Good.fr {L : List Int} (h : Good L) : frB (L.length : Int) = true := frB_iff.2 ⟨h.1, h.2.1⟩

structure InL (H : Nh) (S : Ns) (P : List Nat) (G : List (Nat × List Int)) : Prop where
  lane : Lane H.qi S.i (P.map fun x => (x, inB H x)) (G.map fun g => (g.1, ((12 + g.2.length : Nat) : Int)))
  free : S.Ai.free = []
  fr : ∀ g ∈ G, frAt S.f (H.fi + g.1 * 1528) (12 + g.2.length) = g.2 ∧ Good g.2
structure OutL (H : Nh) (S : Ns) (P : List (Nat × List Int)) (G : List Nat) : Prop where
  lane : Lane H.qo S.o (P.map fun p => (p.1, outB H p.1 p.2.length)) (G.map fun x => (x, 0))
  fr : ∀ p ∈ P, frAt S.f (H.fo + p.1 * 1528) (12 + p.2.length) = p.2 ∧ Good p.2
theorem InL.ltG {H : Nh} {S : Ns} {P : List Nat} {G : List (Nat × List Int)} (h : InL H S P G) : ∀ g ∈ G, g.1 < H.n := fun g hg => h.lane.lt g.1 (List.mem_append_left _ (by simp only [List.map_map, List.mem_map, Function.comp_def]; exact ⟨g, hg, rfl⟩))
theorem InL.ltP {H : Nh} {S : Ns} {P : List Nat} {G : List (Nat × List Int)} (h : InL H S P G) : ∀ x ∈ P, x < H.n := fun x hx => h.lane.lt x (List.mem_append_right _ (by simp only [List.map_map, List.mem_map, Function.comp_def]; exact ⟨x, hx, rfl⟩))
theorem OutL.ltP {H : Nh} {S : Ns} {P : List (Nat × List Int)} {G : List Nat} (h : OutL H S P G) : ∀ p ∈ P, p.1 < H.n := fun p hp => h.lane.lt p.1 (List.mem_append_right _ (by simp only [List.map_map, List.mem_map, Function.comp_def]; exact ⟨p, hp, rfl⟩))
theorem InL.len {H : Nh} {S : Ns} {P : List Nat} {G : List (Nat × List Int)} (h : InL H S P G) : G.length + P.length = H.n := by
  have := h.lane.len
  have e : S.i.A.free = [] := h.free
  rw [e] at this
  simpa using this
theorem InL.keep {H : Nh} {S S' : Ns} {P : List Nat} {G : List (Nat × List Int)} (h : InL H S P G) (hA : S'.Ai = S.Ai) (ho : S'.oi = S.oi) (hu : S'.ui = S.ui) (hf : Only (OutR H) S.f S'.f) (hb : ∀ i, i < H.N → IsB (S'.f i)) : InL H S' P G := by
  refine ⟨h.lane.congr hA ho hu (fun i h1 h2 => hf i (fun e => ?_)) hb, hA ▸ h.free, fun g hg => ⟨?_, (h.fr g hg).2⟩⟩
  · change H.base ≤ i at h1
    change i < H.base + (8 + 26 * H.n) at h2
    rcases e with e | e
    · omega
    · have := e.1; unfold Nh.fo at this; omega
  · rw [frAt_congr (f := S.f) (fun i h1 h2 => hf i (fun e => ?_))]
    · exact (h.fr g hg).1
    · have hx := h.ltG g hg
      have hg2 := (h.fr g hg).2
      unfold Good at hg2
      rcases e with e | e
      · unfold Nh.fi at h1; omega
      · unfold Nh.fi at h2; have := e.1; unfold Nh.fo at this; omega
theorem OutL.keep {H : Nh} {S S' : Ns} {P : List (Nat × List Int)} {G : List Nat} (h : OutL H S P G) (hA : S'.Ao = S.Ao) (ho : S'.oo = S.oo) (hu : S'.uo = S.uo) (hf : Only (InR H) S.f S'.f) (hb : ∀ i, i < H.N → IsB (S'.f i)) : OutL H S' P G := by
  refine ⟨h.lane.congr hA ho hu (fun i h1 h2 => hf i (fun e => ?_)) hb, fun p hp => ⟨?_, (h.fr p hp).2⟩⟩
  · change H.base + (8 + 26 * H.n) ≤ i at h1
    change i < H.base + (8 + 26 * H.n) + (8 + 26 * H.n) at h2
    rcases e with e | e
    · omega
    · have := e.1; unfold Nh.fi at this; omega
  · rw [frAt_congr (f := S.f) (fun i h1 h2 => hf i (fun e => ?_))]
    · exact (h.fr p hp).1
    · have hx := h.ltP p hp
      have hg2 := (h.fr p hp).2
      unfold Good at hg2
      rcases e with e | e
      · unfold Nh.fo at h1; omega
      · unfold Nh.fo at h1; have := e.2; unfold Nh.fi at this; omega
theorem given_only (H : Nh) (f : Nat → Int) (u : Nat) (hd len : Int) : Only (InR H) f (given f H.qi.pu H.qi.n u hd len) := fun i hi => given_out f H.qi u hd len i (by show i < H.base ∨ H.base + (8 + 26 * H.n) ≤ i; unfold InR at hi; omega)
theorem given_onlyO (H : Nh) (f : Nat → Int) (u : Nat) (hd len : Int) : Only (OutR H) f (given f H.qo.pu H.qo.n u hd len) := fun i hi => given_out f H.qo u hd len i (by show i < H.base + (8 + 26 * H.n) ∨ H.base + (8 + 26 * H.n) + (8 + 26 * H.n) ≤ i; unfold OutR at hi; omega)
theorem giI (H : Nh) (f : Nat → Int) (u : Nat) (hd len : Int) (i : Nat) (h : i < H.base ∨ H.base + (8 + 26 * H.n) ≤ i) : given f (H.base + 18 * H.n + 4) H.n u hd len i = f i := given_out f H.qi u hd len i h
theorem giO (H : Nh) (f : Nat → Int) (u : Nat) (hd len : Int) (i : Nat) (h : i < H.base + (8 + 26 * H.n) ∨ H.base + (8 + 26 * H.n) + (8 + 26 * H.n) ≤ i) : given f (H.base + (8 + 26 * H.n) + 18 * H.n + 4) H.n u hd len i = f i := given_out f H.qo u hd len i h
theorem puts_out {f : Nat → Int} {z : Nat} {L : List Int} {i : Nat} (h : i < z ∨ z + L.length ≤ i) : puts f z L i = f i := by unfold puts; rw [if_neg (by omega)]

theorem deliver_full {H : Nh} {S : Ns} {G : List (Nat × List Int)} (h : InL H S [] G) {L : List Int} (hL : Good L) : delR H S L = 7 ∧ delS H S L = S := by
  have h1 := h.lane.take_none
  have h2 := next_none (P := inP (12 + L.length : Nat)) h.lane.ok h1
  unfold delR delS
  rw [hL.fr]
  simp only [if_true]
  unfold delN
  rw [h2]
  exact ⟨rfl, rfl⟩
theorem deliver {H : Nh} {S : Ns} {x : Nat} {P : List Nat} {G : List (Nat × List Int)} (h : InL H S (x :: P) G) {L : List Int} (hL : Good L) :
    delR H S L = 0 ∧ InL H (delS H S L) P (G ++ [(x, L)]) ∧ (delS H S L).Ao = S.Ao ∧ (delS H S L).oo = S.oo ∧ (delS H S L).uo = S.uo ∧ Only (InR H) S.f (delS H S L).f := by
  obtain ⟨ht, hts⟩ := h.lane.take
  have hx := h.ltP x (by simp)
  have hfit := H.fi_fit x hx
  have hl1 := hL.1
  have hl2 := hL.2.1
  have hpc : pcB H.qi.N (inP (12 + L.length : Nat)) (takeR H.qi S.i).2.1 = true := by
    rw [ht]
    show (inP (12 + L.length : Nat) (inB H x) && decide ((inB H x).addr ≤ (H.N : Int) - (inB H x).len)) = true
    have e1 : inP (12 + L.length : Nat) (inB H x) = true := by
      show (true && decide (((12 + L.length : Nat) : Int) ≤ 1526)) = true
      simp
      omega
    have e2 : decide ((inB H x).addr ≤ (H.N : Int) - (inB H x).len) = true := by
      show decide (((H.fi + x * 1528 : Nat) : Int) ≤ (H.N : Int) - 1526) = true
      simp only [decide_eq_true_eq]
      omega
    rw [e1, e2]
    rfl
  have hns := next_some h.lane.ok (by rw [ht]) hpc
  rw [ht, hts] at hns
  simp only [List.headD_cons] at hns
  -- the frame is laid into the place
  have hb2 := puts_isB (a := H.fi + x * 1528) h.lane.ok.b (rowL_isB hL.2.2)
  have hlane2 : Lane H.qi ⟨S.Ai, puts S.f (H.fi + x * 1528) (rowL L), S.oi, S.ui⟩ ((x :: P).map fun x => (x, inB H x)) (G.map fun g => (g.1, ((12 + g.2.length : Nat) : Int))) :=
    h.lane.congr rfl rfl rfl (fun i h1 h2 => puts_out (.inl (by change i < H.base + (8 + 26 * H.n) at h2; unfold Nh.fi; omega))) hb2
  obtain ⟨hgb, hlane3⟩ := hlane2.give (12 + L.length : Nat) (by omega) (by omega)
  have hdS : delS H S L = ⟨given (puts S.f (H.fi + x * 1528) (rowL L)) H.qi.pu H.qi.n S.ui x (12 + L.length : Nat), S.Ai, S.Ao, (S.oi + 1) % 65536, (S.ui + 1) % 65536, S.oo, S.uo⟩ := by
    unfold delS
    rw [hL.fr]
    simp only [if_true]
    unfold delN
    rw [hns]
    simp only [delT, inB, Int.toNat_natCast]
    unfold giveS
    rw [hgb]
    rfl
  have hnd := h.lane.nd
  have hgx : ∀ g ∈ G, g.1 ≠ x := fun g hg e => by
    rw [List.nodup_append, List.nodup_append] at hnd
    exact hnd.2.1.2.2 g.1 (by simp only [List.map_map, List.mem_map, Function.comp_def]; exact ⟨g, hg, rfl⟩) x (by simp) e
  rw [hdS]
  refine ⟨?_, ⟨?_, h.free, fun g hg => ?_⟩, rfl, rfl, rfl, ?_⟩
  · unfold delR
    rw [hL.fr]
    simp only [if_true]
    unfold delN
    rw [hns]
    rfl
  · rw [List.map_append]
    exact hlane3
  · rcases List.mem_append.1 hg with h1 | h1
    · refine ⟨?_, (h.fr g h1).2⟩
      have hgn := h.ltG g h1
      have hgl := (h.fr g h1).2
      unfold Good at hgl
      have hne := hgx g h1
      rw [frAt_congr (f := S.f) (fun i e1 e2 => ?_)]
      · exact (h.fr g h1).1
      · simp only
        rw [giI H _ _ _ _ _ (.inr (by unfold Nh.fi at e1; omega)), puts_out (by rw [rowL_len]; omega)]
    · simp only [List.mem_singleton] at h1
      subst h1
      refine ⟨?_, hL⟩
      simp only
      rw [frAt_congr (f := puts S.f (H.fi + x * 1528) (rowL L)) (fun i e1 e2 => giI H _ _ _ _ _ (.inr (by unfold Nh.fi at e1; omega)))]
      exact frAt_puts _ _ _
  · refine Only.trans (f' := puts S.f (H.fi + x * 1528) (rowL L)) (fun i hi => puts_out ?_) (given_only H _ _ _ _)
    rw [rowL_len]
    unfold InR at hi
    omega

/-- Receive: what was delivered, in order. -/
theorem receive {H : Nh} {S : Ns} : ∀ (G : List (Nat × List Int)) (T : Sd) (P : List Nat) (Ls : List (List Int)), InL H (S.setI T) P G →
    (recvS H T Ls).2 = Ls ++ G.map (·.2) ∧ InL H (S.setI (recvS H T Ls).1) (P ++ G.map (·.1)) [] ∧ Only (InR H) T.f (recvS H T Ls).1.f
  | [], T, P, Ls, h => by
    have h1 := recv_none (Ls := Ls) (S := T) h.lane.ok h.lane.used_none
    rw [h1]
    simp only [List.map_nil, List.append_nil]
    exact ⟨by trivial, h, Only.refl _ _⟩
  | g :: G, T, P, Ls, h => by
    obtain ⟨hr, hs, hlane⟩ := h.lane.pop
    change usedR H.qi T = _ at hr
    change usedS H.qi T = { T with A := UseA T.A g.1 [g.1] } at hs
    have hfr := h.fr g (by simp)
    have hok := recv_ok (H := H) (S := T) (Ls := Ls) h.lane.ok h.lane.one h.free (by rw [hr])
    have hx := h.ltG g (by simp)
    have hfit := H.fi_fit g.1 hx
    obtain ⟨x, e1, e2, e3, _⟩ := used_ok (q := H.qi) (S := T) h.lane.ok h.lane.one h.free (by rw [hr])
    rw [hr] at e1 hok
    have e4 : x = g.1 := by have : ((g.1 : Nat) : Int) = x := e1; omega
    subst e4
    simp only [Int.toNat_natCast] at hok
    have hfd : fdB ((12 + g.2.length : Nat) : Int) = true := by have := hfr.2; unfold Good at this; simp [fdB]; omega
    rw [hfd, if_pos rfl] at hok
    have hff : frAt T.f (H.fi + g.1 * 1528) (12 + g.2.length) = g.2 := hfr.1
    rw [hff] at hok
    have hfree0 : 0 < (usedS H.qi T).A.free.length := by rw [e3]; simp
    have hx0 : (usedS H.qi T).A.free.getD 0 0 = g.1 := by rw [e3]; rfl
    have hadd := Lane.add (S := usedS H.qi T) hlane (inB H g.1) ⟨by simp [inB]; omega, by have := H.big; simp [inB]; omega, by simp [inB], by simp [inB]⟩ (by have := H.big; simp [inB]; omega) hfree0
    rw [hx0] at hadd
    have honly : Only (InR H) T.f (addS H.qi (usedS H.qi T) (inB H g.1)).f := fun i hi => by
      show addF (usedS H.qi T).f H.qi (usedS H.qi T).A [inB H g.1] i = T.f i
      rw [addF_out _ _ _ _ (by rw [hx0]; exact hx) hfree0 _ (by show i < H.base ∨ H.base + (8 + 26 * H.n) ≤ i; unfold InR at hi; omega), usedS_f]
    have hnew : InL H (S.setI (addS H.qi (usedS H.qi T) (inB H g.1))) (P ++ [g.1]) G := by
      refine ⟨?_, ?_, fun k hk => ⟨?_, (h.fr k (by simp [hk])).2⟩⟩
      · rw [List.map_append]
        exact hadd
      · show (usedS H.qi T).A.free.drop 1 = []
        rw [e3]
        rfl
      · rw [frAt_congr (f := T.f) (fun i c1 c2 => ?_)]
        · exact (h.fr k (by simp [hk])).1
        · show addF (usedS H.qi T).f H.qi (usedS H.qi T).A [inB H g.1] i = T.f i
          rw [addF_out _ _ _ _ (by rw [hx0]; exact hx) hfree0 _ (.inr (by show H.base + (8 + 26 * H.n) ≤ i; unfold Nh.fi at c1; omega)), usedS_f]
    obtain ⟨r1, r2, r3⟩ := receive G (addS H.qi (usedS H.qi T) (inB H g.1)) (P ++ [g.1]) (Ls ++ [g.2]) hnew
    rw [show recvS H T Ls = recvS H (addS H.qi (usedS H.qi T) (inB H g.1)) (Ls ++ [g.2]) from hok]
    refine ⟨by rw [r1]; simp, ?_, honly.trans r3⟩
    have : P ++ (g :: G).map (·.1) = P ++ [g.1] ++ G.map (·.1) := by simp
    rw [this]
    exact r2
end Go.Proofs.YtdjghkngiicncaaGreat
