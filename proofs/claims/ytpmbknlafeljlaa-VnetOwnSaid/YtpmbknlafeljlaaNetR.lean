/- vnet, by thinking alone: what goes out; the beginning. -/
import Derived.Test.YtpmbknlafeljlaaNetQ
namespace Go.Proofs.Ytpmbknlafeljlaa
open Go.RowKit

theorem back_all {q : Qu} : ∀ (G : List (Nat × Int)) (T : Sd) (P : List (Nat × Bf)), Lane q T P G → Lane q (backS q T) P []
  | [], T, P, h => by rw [back_none h.ok h.used_none]; exact h
  | g :: G, T, P, h => by
    obtain ⟨hr, _, hl⟩ := h.pop
    rw [back_more h.ok (by rw [hr]; simp)]
    exact back_all G _ P hl
theorem back_f (q : Qu) (T : Sd) : (backS q T).f = T.f ∧ (backS q T).o = T.o ∧ (backS q T).u = T.u := backN_of q _ T
theorem send_full {H : Nh} {S : Ns} {P : List (Nat × List Int)} {G : List Nat} (h : OutL H S P G) {L : List Int} (hL : Good L) (hn : P.length = H.n) :
    sendR H S L = 7 ∧ OutL H (sendS H S L) P [] ∧ (sendS H S L).Ai = S.Ai ∧ (sendS H S L).oi = S.oi ∧ (sendS H S L).ui = S.ui ∧ Only (OutR H) S.f (sendS H S L).f := by
  have hl := back_all _ _ _ h.lane
  obtain ⟨b1, b2, b3⟩ := back_f H.qo S.o
  have hz : (backS H.qo S.o).A.free.length = 0 := by have := hl.len; simp at this; omega
  unfold sendR sendS
  rw [hL.fr]
  simp only [if_true]
  rw [if_pos hz, if_pos hz]
  exact ⟨rfl, ⟨hl, fun p hp => by rw [show (S.setO (backS H.qo S.o)).f = S.f from b1]; exact h.fr p hp⟩, rfl, rfl, rfl, fun i _ => by rw [show (S.setO (backS H.qo S.o)).f = S.f from b1]⟩
theorem send {H : Nh} {S : Ns} {P : List (Nat × List Int)} {G : List Nat} (h : OutL H S P G) {L : List Int} (hL : Good L) (hn : P.length < H.n) :
    sendR H S L = 0 ∧ (∃ x, OutL H (sendS H S L) (P ++ [(x, L)]) []) ∧ (sendS H S L).Ai = S.Ai ∧ (sendS H S L).oi = S.oi ∧ (sendS H S L).ui = S.ui ∧ Only (OutR H) S.f (sendS H S L).f := by
  have hl := back_all _ _ _ h.lane
  obtain ⟨b1, b2, b3⟩ := back_f H.qo S.o
  have hpos : 0 < (backS H.qo S.o).A.free.length := by have := hl.len; simp at this; omega
  have hz : ¬ (backS H.qo S.o).A.free.length = 0 := by omega
  unfold sendR sendS
  rw [hL.fr]
  simp only [if_true]
  rw [if_neg hz, if_neg hz]
  generalize hT : backS H.qo S.o = T at *
  have hxn : T.A.free.getD 0 0 < H.n := hl.ok.wf.free_lt (getD_mem _ _ _ hpos)
  have hfit := H.fo_fit _ hxn
  have hbig := H.big
  have hl1 := hL.1
  have hl2 := hL.2.1
  have hnd := hl.nd
  have hxP : ∀ p ∈ P, p.1 ≠ T.A.free.getD 0 0 := fun p hp e => by
    rw [List.nodup_append] at hnd
    exact hnd.2.2 _ (getD_mem _ _ _ hpos) p.1 (List.mem_append_right _ (by simp only [List.map_map, List.mem_map, Function.comp_def]; exact ⟨p, hp, rfl⟩)) e.symm
  generalize hx : T.A.free.getD 0 0 = x at *
  have hlane2 : Lane H.qo { T with f := puts T.f (H.fo + x * 1528) (rowL L) } (P.map fun p => (p.1, outB H p.1 p.2.length)) [] :=
    hl.congr rfl rfl rfl (fun i h1 h2 => puts_out (.inl (by change i < H.base + (8 + 26 * H.n) + (8 + 26 * H.n) at h2; unfold Nh.fo; omega))) (puts_isB hl.ok.b (rowL_isB hL.2.2))
  have hadd := hlane2.add (outB H x L.length) ⟨by simp [outB]; omega, by simp [outB]; omega, by simp [outB]; omega, by simp [outB]; omega⟩ (by simp [outB]; omega) hpos
  change Lane H.qo _ (_ ++ [(T.A.free.getD 0 0, outB H x L.length)]) _ at hadd
  rw [hx] at hadd
  have hsA : sendA H T L = addS H.qo { T with f := puts T.f (H.fo + x * 1528) (rowL L) } (outB H x L.length) := by
    unfold sendA addS outB
    rw [hx]
  have hf : ∀ i, (i < H.base + (8 + 26 * H.n) ∨ H.base + (8 + 26 * H.n) + (8 + 26 * H.n) ≤ i) → (sendA H T L).f i = puts T.f (H.fo + x * 1528) (rowL L) i := fun i hi => by
    rw [hsA]
    exact addF_out _ H.qo T.A _ (by rw [hx]; exact hxn) hpos i hi
  refine ⟨rfl, ⟨x, ?_, fun p hp => ?_⟩, rfl, rfl, rfl, fun i hi => ?_⟩
  · rw [List.map_append, hsA]
    exact hadd
  · rcases List.mem_append.1 hp with h1 | h1
    · refine ⟨?_, (h.fr p h1).2⟩
      have hgn := h.ltP p h1
      have hgl := (h.fr p h1).2
      unfold Good at hgl
      have hne := hxP p h1
      rw [frAt_congr (f := S.f) (fun i e1 e2 => ?_)]
      · exact (h.fr p h1).1
      · show (sendA H T L).f i = S.f i
        rw [hf i (.inr (by unfold Nh.fo at e1; omega)), puts_out (by rw [rowL_len]; omega)]
        rw [b1]
        rfl
    · simp only [List.mem_singleton] at h1
      subst h1
      refine ⟨?_, hL⟩
      show frAt (sendA H T L).f (H.fo + x * 1528) (12 + L.length) = L
      have e : frAt (sendA H T L).f (H.fo + x * 1528) (12 + L.length) = frAt (puts T.f (H.fo + x * 1528) (rowL L)) (H.fo + x * 1528) (12 + L.length) := frAt_congr (fun i e1 e2 => hf i (.inr (by unfold Nh.fo at e1; omega)))
      rw [e]
      exact frAt_puts _ _ _
  · show (sendA H T L).f i = S.f i
    unfold OutR at hi
    rw [hf i (by omega), puts_out (by rw [rowL_len]; omega), b1]
    rfl
/-- Sent: what was offered to be sent, in order. -/
theorem sent {H : Nh} {S : Ns} : ∀ (P : List (Nat × List Int)) (T : Sd) (G : List Nat) (Ls : List (List Int)), OutL H (S.setO T) P G →
    (sentS H.qo T Ls).2 = Ls ++ P.map (·.2) ∧ OutL H (S.setO (sentS H.qo T Ls).1) [] (G ++ P.map (·.1)) ∧ Only (OutR H) T.f (sentS H.qo T Ls).1.f
  | [], T, G, Ls, h => by
    have h1 : left H.qo T = 0 := (Ok.left0 (S := T) h.lane.ok).2 (takeR_none.1 h.lane.take_none)
    have h2 : sentS H.qo T Ls = (T, Ls) := by unfold sentS; rw [h1]; rfl
    rw [h2]
    simp only [List.map_nil, List.append_nil]
    exact ⟨by trivial, h, Only.refl _ _⟩
  | p :: P, T, G, Ls, h => by
    obtain ⟨ht, hts⟩ := h.lane.take
    change takeR H.qo T = _ at ht
    change takeS H.qo T = { T with o := (T.o + 1) % 65536 } at hts
    have hfr := h.fr p (by simp)
    have hx := h.ltP p (by simp)
    have hfit := H.fo_fit _ hx
    have hgl := hfr.2
    unfold Good at hgl
    have hpc : pcB H.qo.N outP (takeR H.qo T).2.1 = true := by
      rw [ht]
      show (outP (outB H p.1 p.2.length) && decide ((outB H p.1 p.2.length).addr ≤ (H.N : Int) - (outB H p.1 p.2.length).len)) = true
      have e1 : outP (outB H p.1 p.2.length) = true := by
        show (true && fdB ((12 + p.2.length : Nat) : Int)) = true
        simp [fdB]
        omega
      have e2 : decide ((outB H p.1 p.2.length).addr ≤ (H.N : Int) - (outB H p.1 p.2.length).len) = true := by
        show decide (((H.fo + p.1 * 1528 : Nat) : Int) ≤ (H.N : Int) - ((12 + p.2.length : Nat) : Int)) = true
        simp only [decide_eq_true_eq]
        omega
      rw [e1, e2]
      rfl
    have hns := next_some (S := T) h.lane.ok (by rw [ht]) hpc
    have hsn := sent_next (left H.qo T) T h.lane.ok rfl Ls
    rw [hns, ht, hts] at hsn
    simp only [sentG, List.headD_cons] at hsn
    have hff : frAt T.f (H.fo + p.1 * 1528) (12 + p.2.length) = p.2 := hfr.1
    simp only [outB, Int.toNat_natCast] at hsn
    rw [hff] at hsn
    obtain ⟨hgb, hlane⟩ := h.lane.give 0 (by omega) (by omega)
    have hgS : giveS H.qo { T with o := (T.o + 1) % 65536 } (p.1 : Int) 0 = ⟨T.A, given T.f H.qo.pu H.qo.n T.u p.1 0, (T.o + 1) % 65536, (T.u + 1) % 65536⟩ := by
      unfold giveS
      rw [hgb]
      rfl
    have hnew : OutL H (S.setO (giveS H.qo { T with o := (T.o + 1) % 65536 } (p.1 : Int) 0)) P (G ++ [p.1]) := by
      rw [hgS]
      refine ⟨?_, fun k hk => ⟨?_, (h.fr k (by simp [hk])).2⟩⟩
      · rw [List.map_append]
        exact hlane
      · rw [frAt_congr (f := T.f) (fun i c1 c2 => ?_)]
        · exact (h.fr k (by simp [hk])).1
        · exact giO H T.f _ _ _ i (.inr (by unfold Nh.fo at c1; omega))
    have honly : Only (OutR H) T.f (giveS H.qo { T with o := (T.o + 1) % 65536 } (p.1 : Int) 0).f := by
      rw [hgS]
      exact given_onlyO H T.f _ _ _
    obtain ⟨r1, r2, r3⟩ := sent P _ (G ++ [p.1]) (Ls ++ [p.2]) hnew
    rw [hsn]
    refine ⟨by rw [r1]; simp, ?_, honly.trans r3⟩
    have : G ++ (p :: P).map (·.1) = G ++ [p.1] ++ P.map (·.1) := by simp
    rw [this]
    exact r2
theorem zr_isB {f : Nat → Int} {N a n : Nat} (h : ∀ i, i < N → IsB (f i)) : ∀ i, i < N → IsB (zr f a n i) := fun i hi => by
  unfold zr
  split
  · exact ⟨by omega, by omega⟩
  · exact h i hi
theorem start_in (H : Nh) (f : Nat → Int) (hb : ∀ i, i < H.N → IsB (f i)) : ∀ k, k ≤ H.n → Lane H.qi (offN H.qi H.fi ⟨A0 H.n, cardF H f, 0, 0⟩ k) ((List.range k).map fun x => (x, inB H x)) [] ∧ Only (InR H) (cardF H f) (offN H.qi H.fi ⟨A0 H.n, cardF H f, 0, 0⟩ k).f
  | 0, _ => ⟨Lane.start H.qi (cardF H f) H.p2 (zr_isB (zr_isB hb)) (fun i h1 h2 => by
      change H.base ≤ i at h1
      change i < H.base + (8 + 26 * H.n) at h2
      unfold cardF zr
      rw [if_neg (by omega), if_pos (by omega)]), Only.refl _ _⟩
  | k + 1, hk => by
    obtain ⟨h1, h2⟩ := start_in H f hb k (by omega)
    have hfr := offN_free H.qi H.fi ⟨A0 H.n, cardF H f, 0, 0⟩ k
    have hfit := H.fi_fit k (by omega)
    have hbig := H.big
    have hlen : 0 < (offN H.qi H.fi ⟨A0 H.n, cardF H f, 0, 0⟩ k).A.free.length := by rw [hfr]; simp [A0]; omega
    have hget : (offN H.qi H.fi ⟨A0 H.n, cardF H f, 0, 0⟩ k).A.free.getD 0 0 = k := by rw [hfr]; simp [A0, List.getD, show k < H.n by omega]
    have hadd := h1.add (inB H k) ⟨by simp [inB]; omega, by simp [inB]; omega, by simp [inB], by simp [inB]⟩ (by simp [inB]; omega) hlen
    rw [hget] at hadd
    refine ⟨?_, h2.trans (fun i hi => ?_)⟩
    · rw [List.range_succ, List.map_append]
      exact hadd
    · refine addF_out _ H.qi _ _ (by rw [hget]; show k < H.n; omega) hlen i ?_
      show i < H.base ∨ H.base + (8 + 26 * H.n) ≤ i
      unfold InR at hi
      omega
def S0 (H : Nh) (f : Nat → Int) : Ns := ⟨(cardS H f).f, (cardS H f).A, A0 H.n, 0, 0, 0, 0⟩
theorem offN_o (q : Qu) (fi : Nat) (S : Sd) : ∀ k, (offN q fi S k).o = S.o ∧ (offN q fi S k).u = S.u
  | 0 => ⟨rfl, rfl⟩
  | k + 1 => offN_o q fi S k
theorem start (H : Nh) (f : Nat → Int) (hb : ∀ i, i < H.N → IsB (f i)) : InL H (S0 H f) (List.range H.n) [] ∧ OutL H (S0 H f) [] [] := by
  obtain ⟨h1, h2⟩ := start_in H f hb H.n (Nat.le_refl _)
  have ho := offN_o H.qi H.fi ⟨A0 H.n, cardF H f, 0, 0⟩ H.n
  have he : (S0 H f).i = cardS H f := by
    show (⟨(cardS H f).A, (cardS H f).f, 0, 0⟩ : Sd) = cardS H f
    unfold cardS
    generalize offN H.qi H.fi ⟨A0 H.n, cardF H f, 0, 0⟩ H.n = T at *
    obtain ⟨A, g, o, u⟩ := T
    obtain ⟨rfl, rfl⟩ := ho
    rfl
  have hbB : ∀ i, i < H.N → IsB ((S0 H f).f i) := h1.ok.b
  refine ⟨⟨?_, ?_, fun g hg => by simp at hg⟩, ⟨?_, fun p hp => by simp at hp⟩⟩
  · rw [he]; exact h1
  · show (cardS H f).A.free = []
    unfold cardS
    rw [offN_free]
    simp [A0]
  · exact Lane.start H.qo (S0 H f).f H.p2 hbB (fun i e1 e2 => by
      change H.base + (8 + 26 * H.n) ≤ i at e1
      change i < H.base + (8 + 26 * H.n) + (8 + 26 * H.n) at e2
      show (cardS H f).f i = 0
      unfold cardS
      rw [h2 i (by unfold InR Nh.fi; omega)]
      unfold cardF zr
      rw [if_pos (by omega)])
end Go.Proofs.Ytpmbknlafeljlaa
