/- NetR, NetT in one text. -/
import Derived.Test.YtdjghkngiicncaaGreatNetQ
/- vnet, by thinking alone: what goes out; the beginning. -/
namespace Go.Proofs.YtdjghkngiicncaaGreat
open Go.RowKit

theorem back_all {q : Qu} : ∀ (G : List (Nat × Int)) (T : Sd) (P : List (Nat × Bf)), Lane q T P G → Lane q (backS q T) P []
  | [], T, P, h => by rw [back_none h.ok h.used_none]; exact h
  | g :: G, T, P, h => by
    obtain ⟨hr, _, hl⟩ := h.pop
    rw [back_more h.ok (by rw [hr]; simp)]
    exact back_all G _ P hl
theorem back_f (q : Qu) (T : Sd) : (backS q T).f = T.f ∧ (backS q T).o = T.o ∧ (backS q T).u = T.u := backN_of q _ T
theorem send_full {H : Nh} {S : Ns} {P : List (Nat × List Int)} {G : List Nat} (h : OutL H S P G) {L : List Int} (hL : Good L) (hn : P.length = H.n) :
    sendR H S L = 7 ∧ OutL H (sendS H S L) P [] ∧ (sendS H S L).Ai = S.Ai ∧ (sendS H S L).oi = S.oi ∧ (sendS H S L).ui = S.ui ∧ Only (OutR H) S.f (sendS H S L).f := by
  have hl := back_all _ _ _ h.lane
  obtain ⟨b1, b2, b3⟩ := back_f H.qo S.o
  have hz : (backS H.qo S.o).A.free.length = 0 := by have := hl.len; simp at this; omega
  unfold sendR sendS
  rw [hL.fr]
  simp only [if_true]
  rw [if_pos hz, if_pos hz]
  exact ⟨rfl, ⟨hl, fun p hp => by rw [show (S.setO (backS H.qo S.o)).f = S.f from b1]; exact h.fr p hp⟩, rfl, rfl, rfl, fun i _ => by rw [show (S.setO (backS H.qo S.o)).f = S.f from b1]⟩
theorem send {H : Nh} {S : Ns} {P : List (Nat × List Int)} {G : List Nat} (h : OutL H S P G) {L : List Int} (hL : Good L) (hn : P.length < H.n) :
    sendR H S L = 0 ∧ (∃ x, OutL H (sendS H S L) (P ++ [(x, L)]) []) ∧ (sendS H S L).Ai = S.Ai ∧ (sendS H S L).oi = S.oi ∧ (sendS H S L).ui = S.ui ∧ Only (OutR H) S.f (sendS H S L).f := by
  have hl := back_all _ _ _ h.lane
  obtain ⟨b1, b2, b3⟩ := back_f H.qo S.o
  have hpos : 0 < (backS H.qo S.o).A.free.length := by have := hl.len; simp at this; omega
  have hz : ¬ (backS H.qo S.o).A.free.length = 0 := by omega
  unfold sendR sendS
  rw [hL.fr]
  simp only [if_true]
  rw [if_neg hz, if_neg hz]
  generalize hT : backS H.qo S.o = T at *
  have hxn : T.A.free.getD 0 0 < H.n := hl.ok.wf.free_lt (getD_mem _ _ _ hpos)
  have hfit := H.fo_fit _ hxn
  have hbig := H.big
  have hl1 := hL.1
  have hl2 := hL.2.1
  have hnd := hl.nd
  have hxP : ∀ p ∈ P, p.1 ≠ T.A.free.getD 0 0 := fun p hp e => by
    rw [List.nodup_append] at hnd
    exact hnd.2.2 _ (getD_mem _ _ _ hpos) p.1 (List.mem_append_right _ (by simp only [List.map_map, List.mem_map, Function.comp_def]; exact ⟨p, hp, rfl⟩)) e.symm
  generalize hx : T.A.free.getD 0 0 = x at *
  have hlane2 : Lane H.qo { T with f := puts T.f (H.fo + x * 1528) (rowL L) } (P.map fun p => (p.1, outB H p.1 p.2.length)) [] :=
    hl.congr rfl rfl rfl (fun i h1 h2 => puts_out (.inl (by change i < H.base + (8 + 26 * H.n) + (8 + 26 * H.n) at h2; unfold Nh.fo; omega))) (puts_isB hl.ok.b (rowL_isB hL.2.2))
  have hadd := hlane2.add (outB H x L.length) ⟨by simp [outB]; omega, by simp [outB]; omega, by simp [outB]; omega, by simp [outB]; omega⟩ (by simp [outB]; omega) hpos
  change Lane H.qo _ (_ ++ [(T.A.free.getD 0 0, outB H x L.length)]) _ at hadd
  rw [hx] at hadd
  have hsA : sendA H T L = addS H.qo { T with f := puts T.f (H.fo + x * 1528) (rowL L) } (outB H x L.length) := by
    unfold sendA addS outB
    rw [hx]
  have hf : ∀ i, (i < H.base + (8 + 26 * H.n) ∨ H.base + (8 + 26 * H.n) + (8 + 26 * H.n) ≤ i) → (sendA H T L).f i = puts T.f (H.fo + x * 1528) (rowL L) i := fun i hi => by
    rw [hsA]
    exact addF_out _ H.qo T.A _ (by rw [hx]; exact hxn) hpos i hi
  refine ⟨rfl, ⟨x, ?_, fun p hp => ?_⟩, rfl, rfl, rfl, fun i hi => ?_⟩
  · rw [List.map_append, hsA]
    exact hadd
  · rcases List.mem_append.1 hp with h1 | h1
    · refine ⟨?_, (h.fr p h1).2⟩
      have hgn := h.ltP p h1
      have hgl := (h.fr p h1).2
      unfold Good at hgl
      have hne := hxP p h1
      rw [frAt_congr (f := S.f) (fun i e1 e2 => ?_)]
      · exact (h.fr p h1).1
      · show (sendA H T L).f i = S.f i
        rw [hf i (.inr (by unfold Nh.fo at e1; omega)), puts_out (by rw [rowL_len]; omega)]
        rw [b1]
        rfl
    · simp only [List.mem_singleton] at h1
      subst h1
      refine ⟨?_, hL⟩
      show frAt (sendA H T L).f (H.fo + x * 1528) (12 + L.length) = L
      have e : frAt (sendA H T L).f (H.fo + x * 1528) (12 + L.length) = frAt (puts T.f (H.fo + x * 1528) (rowL L)) (H.fo + x * 1528) (12 + L.length) := frAt_congr (fun i e1 e2 => hf i (.inr (by unfold Nh.fo at e1; omega)))
      rw [e]
      exact frAt_puts _ _ _
  · show (sendA H T L).f i = S.f i
    unfold OutR at hi
    rw [hf i (by omega), puts_out (by rw [rowL_len]; omega), b1]
    rfl
/-- Sent: what was offered to be sent, in order. -/
theorem sent {H : Nh} {S : Ns} : ∀ (P : List (Nat × List Int)) (T : Sd) (G : List Nat) (Ls : List (List Int)), OutL H (S.setO T) P G →
    (sentS H.qo T Ls).2 = Ls ++ P.map (·.2) ∧ OutL H (S.setO (sentS H.qo T Ls).1) [] (G ++ P.map (·.1)) ∧ Only (OutR H) T.f (sentS H.qo T Ls).1.f
  | [], T, G, Ls, h => by
    have h1 : left H.qo T = 0 := (Ok.left0 (S := T) h.lane.ok).2 (takeR_none.1 h.lane.take_none)
    have h2 : sentS H.qo T Ls = (T, Ls) := by unfold sentS; rw [h1]; rfl
    rw [h2]
    simp only [List.map_nil, List.append_nil]
    exact ⟨by trivial, h, Only.refl _ _⟩
  | p :: P, T, G, Ls, h => by
    obtain ⟨ht, hts⟩ := h.lane.take
    change takeR H.qo T = _ at ht
    change takeS H.qo T = { T with o := (T.o + 1) % 65536 } at hts
    have hfr := h.fr p (by simp)
    have hx := h.ltP p (by simp)
    have hfit := H.fo_fit _ hx
    have hgl := hfr.2
    unfold Good at hgl
    have hpc : pcB H.qo.N outP (takeR H.qo T).2.1 = true := by
      rw [ht]
      show (outP (outB H p.1 p.2.length) && decide ((outB H p.1 p.2.length).addr ≤ (H.N : Int) - (outB H p.1 p.2.length).len)) = true
      have e1 : outP (outB H p.1 p.2.length) = true := by
        show (true && fdB ((12 + p.2.length : Nat) : Int)) = true
        simp [fdB]
        omega
      have e2 : decide ((outB H p.1 p.2.length).addr ≤ (H.N : Int) - (outB H p.1 p.2.length).len) = true := by
        show decide (((H.fo + p.1 * 1528 : Nat) : Int) ≤ (H.N : Int) - ((12 + p.2.length : Nat) : Int)) = true
        simp only [decide_eq_true_eq]
        omega
      rw [e1, e2]
      rfl
    have hns := next_some (S := T) h.lane.ok (by rw [ht]) hpc
    have hsn := sent_next (left H.qo T) T h.lane.ok rfl Ls
    rw [hns, ht, hts] at hsn
    simp only [sentG, List.headD_cons] at hsn
    have hff : frAt T.f (H.fo + p.1 * 1528) (12 + p.2.length) = p.2 := hfr.1
    simp only [outB, Int.toNat_natCast] at hsn
    rw [hff] at hsn
    obtain ⟨hgb, hlane⟩ := h.lane.give 0 (by omega) (by omega)
    have hgS : giveS H.qo { T with o := (T.o + 1) % 65536 } (p.1 : Int) 0 = ⟨T.A, given T.f H.qo.pu H.qo.n T.u p.1 0, (T.o + 1) % 65536, (T.u + 1) % 65536⟩ := by
      unfold giveS
      rw [hgb]
      rfl
    have hnew : OutL H (S.setO (giveS H.qo { T with o := (T.o + 1) % 65536 } (p.1 : Int) 0)) P (G ++ [p.1]) := by
      rw [hgS]
      refine ⟨?_, fun k hk => ⟨?_, (h.fr k (by simp [hk])).2⟩⟩
      · rw [List.map_append]
        exact hlane
      · rw [frAt_congr (f := T.f) (fun i c1 c2 => ?_)]
        · exact (h.fr k (by simp [hk])).1
        · exact giO H T.f _ _ _ i (.inr (by unfold Nh.fo at c1; omega))
    have honly : Only (OutR H) T.f (giveS H.qo { T with o := (T.o + 1) % 65536 } (p.1 : Int) 0).f := by
      rw [hgS]
      exact given_onlyO H T.f _ _ _
    obtain ⟨r1, r2, r3⟩ := sent P _ (G ++ [p.1]) (Ls ++ [p.2]) hnew
    rw [hsn]
    refine ⟨by rw [r1]; simp, ?_, honly.trans r3⟩
    have : G ++ (p :: P).map (·.1) = G ++ [p.1] ++ P.map (·.1) := by simp
    rw [this]
    exact r2
theorem zr_isB {f : Nat → Int} {N a n : Nat} (h : ∀ i, i < N → IsB (f i)) : ∀ i, i < N → IsB (zr f a n i) := fun i hi => by
  unfold zr
  split
  · exact ⟨by omega, by omega⟩
  · exact h i hi
theorem start_in (H : Nh) (f : Nat → Int) (hb : ∀ i, i < H.N → IsB (f i)) : ∀ k, k ≤ H.n → Lane H.qi (offN H.qi H.fi ⟨A0 H.n, cardF H f, 0, 0⟩ k) ((List.range k).map fun x => (x, inB H x)) [] ∧ Only (InR H) (cardF H f) (offN H.qi H.fi ⟨A0 H.n, cardF H f, 0, 0⟩ k).f
  | 0, _ => ⟨Lane.start H.qi (cardF H f) H.p2 (zr_isB (zr_isB hb)) (fun i h1 h2 => by
      change H.base ≤ i at h1
      change i < H.base + (8 + 26 * H.n) at h2
      unfold cardF zr
      rw [if_neg (by omega), if_pos (by omega)]), Only.refl _ _⟩
  | k + 1, hk => by
    obtain ⟨h1, h2⟩ := start_in H f hb k (by omega)
    have hfr := offN_free H.qi H.fi ⟨A0 H.n, cardF H f, 0, 0⟩ k
    have hfit := H.fi_fit k (by omega)
    have hbig := H.big
    have hlen : 0 < (offN H.qi H.fi ⟨A0 H.n, cardF H f, 0, 0⟩ k).A.free.length := by rw [hfr]; simp [A0]; omega
    have hget : (offN H.qi H.fi ⟨A0 H.n, cardF H f, 0, 0⟩ k).A.free.getD 0 0 = k := by rw [hfr]; simp [A0, List.getD, show k < H.n by omega]
    have hadd := h1.add (inB H k) ⟨by simp [inB]; omega, by simp [inB]; omega, by simp [inB], by simp [inB]⟩ (by simp [inB]; omega) hlen
    rw [hget] at hadd
    refine ⟨?_, h2.trans (fun i hi => ?_)⟩
    · rw [List.range_succ, List.map_append]
      exact hadd
    · refine addF_out _ H.qi _ _ (by rw [hget]; show k < H.n; omega) hlen i ?_
      show i < H.base ∨ H.base + (8 + 26 * H.n) ≤ i
      unfold InR at hi
      omega
def S0 (H : Nh) (f : Nat → Int) : Ns := ⟨(cardS H f).f, (cardS H f).A, A0 H.n, 0, 0, 0, 0⟩
theorem offN_o (q : Qu) (fi : Nat) (S : Sd) : ∀ k, (offN q fi S k).o = S.o ∧ (offN q fi S k).u = S.u
  | 0 => ⟨rfl, rfl⟩
  | k + 1 => offN_o q fi S k
theorem start (H : Nh) (f : Nat → Int) (hb : ∀ i, i < H.N → IsB (f i)) : InL H (S0 H f) (List.range H.n) [] ∧ OutL H (S0 H f) [] [] := by
  obtain ⟨h1, h2⟩ := start_in H f hb H.n (Nat.le_refl _)
  have ho := offN_o H.qi H.fi ⟨A0 H.n, cardF H f, 0, 0⟩ H.n
  have he : (S0 H f).i = cardS H f := by
    show (⟨(cardS H f).A, (cardS H f).f, 0, 0⟩ : Sd) = cardS H f
    unfold cardS
    generalize offN H.qi H.fi ⟨A0 H.n, cardF H f, 0, 0⟩ H.n = T at *
    obtain ⟨A, g, o, u⟩ := T
    obtain ⟨rfl, rfl⟩ := ho
    rfl
  have hbB : ∀ i, i < H.N → IsB ((S0 H f).f i) := h1.ok.b
  refine ⟨⟨?_, ?_, fun g hg => by simp at hg⟩, ⟨?_, fun p hp => by simp at hp⟩⟩
  · rw [he]; exact h1
  · show (cardS H f).A.free = []
    unfold cardS
    rw [offN_free]
    simp [A0]
  · exact Lane.start H.qo (S0 H f).f H.p2 hbB (fun i e1 e2 => by
      change H.base + (8 + 26 * H.n) ≤ i at e1
      change i < H.base + (8 + 26 * H.n) + (8 + 26 * H.n) at e2
      show (cardS H f).f i = 0
      unfold cardS
      rw [h2 i (by unfold InR Nh.fi; omega)]
      unfold cardF zr
      rw [if_pos (by omega)])
end Go.Proofs.YtdjghkngiicncaaGreat

/- vnet: a play that keeps to the rules; rows held against each other. -/
namespace Go.Proofs.YtdjghkngiicncaaGreat
open Go.RowKit

structure Pl (w0 w : World) (lab : Nat → Nat) (H : Nh) (S : Ns) (c : Nat) (Pi : List Nat) (Gi : List (Nat × List Int)) (Po : List (Nat × List Int)) (Gq : List Nat) : Prop where
  net : Net w lab H S c
  inl : InL H S Pi Gi
  out : OutL H S Po Gq
  low : ∀ b, b < w0.heap.size → lab b = 0
  bel : Below w0.heap.size w0 w
def Play (w0 w : World) (lab : Nat → Nat) (H : Nh) (c : Nat) (Pi : List Nat) (Gi : List (Nat × List Int)) (Po : List (Nat × List Int)) (Gq : List Nat) : Prop := ∃ S, Pl w0 w lab H S c Pi Gi Po Gq
section
variable {w0 w w' : World} {lab lab' : Nat → Nat} {H : Nh} {c : Nat} {Pi : List Nat} {Gi : List (Nat × List Int)} {Po : List (Nat × List Int)} {Gq : List Nat}
theorem keep_bel (hl : ∀ b, b < w0.heap.size → lab b = 0) (hb : Below w0.heap.size w0 w) (hk : Keep lab w lab' w') : (∀ b, b < w0.heap.size → lab' b = 0) ∧ Below w0.heap.size w0 w' :=
  ⟨fun b h => by rw [hk.1 b (Nat.lt_of_lt_of_le h hb.size)]; exact hl b h, hk.2.to_below hb hb.size (fun b e => by
    by_cases h : b < w0.heap.size
    · exact absurd (hl b h) e
    · omega)⟩
theorem Play.below (h : Play w0 w lab H c Pi Gi Po Gq) (hb : Below w.heap.size w w') : Play w0 w' lab H c Pi Gi Po Gq := let ⟨S, p⟩ := h; ⟨S, p.net.below hb, p.inl, p.out, p.low, p.bel.trans (hb.mono p.bel.size)⟩
theorem Play.outside (h : Play w0 w lab H c Pi Gi Po Gq) {P : Nat → Prop} (hm : Mods P w w') (hP : ∀ b, P b → lab b = 0 ∧ w0.heap.size ≤ b) : Play w0 w' lab H c Pi Gi Po Gq := let ⟨S, p⟩ := h; ⟨S, p.net.outside hm (fun b e => (hP b e).1), p.inl, p.out, p.low, hm.to_below p.bel p.bel.size (fun b e => (hP b e).2)⟩
theorem Play.bel (h : Play w0 w lab H c Pi Gi Po Gq) : Below w0.heap.size w0 w := let ⟨_, p⟩ := h; p.bel
theorem Play.lt (h : Play w0 w lab H c Pi Gi Po Gq) : ∀ b, lab b ≠ 0 → b < w.heap.size := let ⟨_, p⟩ := h; p.net.lt
theorem Play.new (h : Play w0 w lab H c Pi Gi Po Gq) {b : Nat} (hb : w.heap.size ≤ b) : lab b = 0 := by
  by_cases e : lab b = 0
  · exact e
  · have := h.lt b e; omega
theorem Play.more (h : Play w0 w lab H c Pi Gi Po Gq) {c' : Nat} (hc : c ≤ c') : Play w0 w lab H c' Pi Gi Po Gq := let ⟨S, p⟩ := h; ⟨S, p.net.more hc, p.inl, p.out, p.low, p.bel⟩
theorem Play.inlen (h : Play w0 w lab H c Pi Gi Po Gq) : Gi.length + Pi.length = H.n := let ⟨_, p⟩ := h; p.inl.len
theorem Play.deliver {x : Nat} (h : Play w0 w lab H c (x :: Pi) Gi Po Gq) {L : List Int} (hL : Good L) (ad : Option Addr) (cap len : Nat) (hB : Bytes w ad L) (hln : L.length = len) :
    Calls Tryz.prog 16 #[.pointer (some ⟨H.pp, 0, none⟩), .slice ad len cap] w fun e w' => e = .returned (.int .i64 0) ∧ Play w0 w' lab H c Pi (Gi ++ [(x, L)]) Po Gq ∧ Keep lab w lab w' := by
  obtain ⟨S, p⟩ := h
  obtain ⟨d1, d2, d3, d4, d5, d6⟩ := Go.Proofs.YtdjghkngiicncaaGreat.deliver p.inl hL
  refine (Deliver_any w lab H S c p.net ad cap len L hB hln).mono ?_
  rintro e w' ⟨rfl, hn, hk⟩
  obtain ⟨k1, k2⟩ := keep_bel p.low p.bel hk
  exact ⟨by rw [d1], ⟨_, hn, d2, p.out.keep d3 d4 d5 d6 hn.mem.2, k1, k2⟩, hk⟩
theorem Play.deliver_full (h : Play w0 w lab H c [] Gi Po Gq) {L : List Int} (hL : Good L) (ad : Option Addr) (cap len : Nat) (hB : Bytes w ad L) (hln : L.length = len) :
    Calls Tryz.prog 16 #[.pointer (some ⟨H.pp, 0, none⟩), .slice ad len cap] w fun e w' => e = .returned (.int .i64 7) ∧ Play w0 w' lab H c [] Gi Po Gq ∧ Keep lab w lab w' := by
  obtain ⟨S, p⟩ := h
  obtain ⟨d1, d2⟩ := Go.Proofs.YtdjghkngiicncaaGreat.deliver_full p.inl hL
  refine (Deliver_any w lab H S c p.net ad cap len L hB hln).mono ?_
  rintro e w' ⟨rfl, hn, hk⟩
  obtain ⟨k1, k2⟩ := keep_bel p.low p.bel hk
  rw [d2] at hn
  exact ⟨by rw [d1], ⟨_, hn, p.inl, p.out, k1, k2⟩, hk⟩
theorem Play.deliver_size (h : Play w0 w lab H c Pi Gi Po Gq) {L : List Int} (hL : frB (L.length : Int) = false) (ad : Option Addr) (cap len : Nat) (hB : Bytes w ad L) (hln : L.length = len) :
    Calls Tryz.prog 16 #[.pointer (some ⟨H.pp, 0, none⟩), .slice ad len cap] w fun e w' => e = .returned (.int .i64 14) ∧ Play w0 w' lab H c Pi Gi Po Gq ∧ Keep lab w lab w' := by
  obtain ⟨S, p⟩ := h
  refine (Deliver_any w lab H S c p.net ad cap len L hB hln).mono ?_
  rintro e w' ⟨rfl, hn, hk⟩
  obtain ⟨k1, k2⟩ := keep_bel p.low p.bel hk
  have e1 : delR H S L = 14 := by unfold delR; rw [hL]; rfl
  have e2 : delS H S L = S := by unfold delS; rw [hL]; rfl
  rw [e2] at hn
  exact ⟨by rw [e1], ⟨_, hn, p.inl, p.out, k1, k2⟩, hk⟩
theorem Play.send (h : Play w0 w lab H c Pi Gi Po Gq) (hc : c < 1099511627775) {L : List Int} (hL : Good L) (hlt : Po.length < H.n) (ad : Option Addr) (cap len : Nat) (hB : Bytes w ad L) (hln : L.length = len) (hl : ∀ b off, ad = some ⟨b, off, none⟩ → lab b = 0) :
    Calls Tryz.prog 11 #[.pointer (some ⟨H.pc, 0, none⟩), .slice ad len cap] w fun e w' => e = .returned (.int .i64 0) ∧ ∃ lab' x, Play w0 w' lab' H (c + 1) Pi Gi (Po ++ [(x, L)]) [] ∧ Keep lab w lab' w' := by
  obtain ⟨S, p⟩ := h
  obtain ⟨d1, ⟨x, d2⟩, d3, d4, d5, d6⟩ := Go.Proofs.YtdjghkngiicncaaGreat.send p.out hL hlt
  refine (Send_any w lab H S c p.net hc ad cap len L hB hln hl).mono ?_
  rintro e w' ⟨rfl, lab', hn, hk⟩
  obtain ⟨k1, k2⟩ := keep_bel p.low p.bel hk
  exact ⟨by rw [d1], lab', x, ⟨_, hn, p.inl.keep d3 d4 d5 d6 hn.mem.2, d2, k1, k2⟩, hk⟩
theorem Play.send_full (h : Play w0 w lab H c Pi Gi Po Gq) (hc : c < 1099511627775) {L : List Int} (hL : Good L) (hlt : Po.length = H.n) (ad : Option Addr) (cap len : Nat) (hB : Bytes w ad L) (hln : L.length = len) (hl : ∀ b off, ad = some ⟨b, off, none⟩ → lab b = 0) :
    Calls Tryz.prog 11 #[.pointer (some ⟨H.pc, 0, none⟩), .slice ad len cap] w fun e w' => e = .returned (.int .i64 7) ∧ ∃ lab', Play w0 w' lab' H (c + 1) Pi Gi Po [] ∧ Keep lab w lab' w' := by
  obtain ⟨S, p⟩ := h
  obtain ⟨d1, d2, d3, d4, d5, d6⟩ := Go.Proofs.YtdjghkngiicncaaGreat.send_full p.out hL hlt
  refine (Send_any w lab H S c p.net hc ad cap len L hB hln hl).mono ?_
  rintro e w' ⟨rfl, lab', hn, hk⟩
  obtain ⟨k1, k2⟩ := keep_bel p.low p.bel hk
  exact ⟨by rw [d1], lab', ⟨_, hn, p.inl.keep d3 d4 d5 d6 hn.mem.2, d2, k1, k2⟩, hk⟩
theorem Play.send_size (h : Play w0 w lab H c Pi Gi Po Gq) (hc : c < 1099511627775) {L : List Int} (hL : frB (L.length : Int) = false) (ad : Option Addr) (cap len : Nat) (hB : Bytes w ad L) (hln : L.length = len) (hl : ∀ b off, ad = some ⟨b, off, none⟩ → lab b = 0) :
    Calls Tryz.prog 11 #[.pointer (some ⟨H.pc, 0, none⟩), .slice ad len cap] w fun e w' => e = .returned (.int .i64 14) ∧ ∃ lab', Play w0 w' lab' H (c + 1) Pi Gi Po Gq ∧ Keep lab w lab' w' := by
  obtain ⟨S, p⟩ := h
  refine (Send_any w lab H S c p.net hc ad cap len L hB hln hl).mono ?_
  rintro e w' ⟨rfl, lab', hn, hk⟩
  obtain ⟨k1, k2⟩ := keep_bel p.low p.bel hk
  have e1 : sendR H S L = 14 := by unfold sendR; rw [hL]; rfl
  have e2 : sendS H S L = S := by unfold sendS; rw [hL]; rfl
  rw [e2] at hn
  exact ⟨by rw [e1], lab', ⟨_, hn, p.inl, p.out, k1, k2⟩, hk⟩
theorem Play.receive (h : Play w0 w lab H c Pi Gi Po Gq) (hc : c < 549755813888) :
    Calls Tryz.prog 14 #[.pointer (some ⟨H.pc, 0, none⟩)] w fun e w' => ∃ v, e = .returned v ∧ ∃ lab', Play w0 w' lab' H (c + 65537) (Pi ++ Gi.map (·.1)) [] Po Gq ∧ Keep lab w lab' w' ∧ FmRow w' (Mine5 w w' lab') v (Gi.map (·.2)) := by
  obtain ⟨S, p⟩ := h
  obtain ⟨d1, d2, d3⟩ := Go.Proofs.YtdjghkngiicncaaGreat.receive (S := S) Gi S.i Pi [] p.inl
  refine (Receive_any w lab H S c p.net p.inl.free hc).mono ?_
  rintro e w' ⟨v, rfl, lab', hn, hk, hf⟩
  obtain ⟨k1, k2⟩ := keep_bel p.low p.bel hk
  refine ⟨v, rfl, lab', ⟨_, hn, d2, p.out.keep rfl rfl rfl d3 hn.mem.2, k1, k2⟩, hk, ?_⟩
  have e1 : (recvAll H S).2 = Gi.map (·.2) := d1
  rw [← e1]
  exact hf
theorem Play.sent (h : Play w0 w lab H c Pi Gi Po Gq) :
    Calls Tryz.prog 18 #[.pointer (some ⟨H.pp, 0, none⟩)] w fun e w' => ∃ v, e = .returned v ∧ Play w0 w' lab H c Pi Gi [] (Gq ++ Po.map (·.1)) ∧ Keep lab w lab w' ∧ FmRow w' (Mine5 w w' lab) v (Po.map (·.2)) := by
  obtain ⟨S, p⟩ := h
  obtain ⟨d1, d2, d3⟩ := Go.Proofs.YtdjghkngiicncaaGreat.sent (S := S) Po S.o Gq [] p.out
  refine (Sent_any w lab H S c p.net).mono ?_
  rintro e w' ⟨v, rfl, hn, hk, hf⟩
  obtain ⟨k1, k2⟩ := keep_bel p.low p.bel hk
  refine ⟨v, rfl, ⟨_, hn, p.inl.keep rfl rfl rfl d3 hn.mem.2, d2, k1, k2⟩, hk, ?_⟩
  have e1 : (sentAll H S).2 = Po.map (·.2) := d1
  rw [← e1]
  exact hf
end
theorem nmem_made (w : World) (n : Nat) : Mem (w.alloc (.cells (madeCells #[.int .u8 0] n) 5)) w.heap.size n (fun _ => 0) := Mem.of_row (World.rowIs_made w (.int .u8 0) n 5) (fun i _ => by show (0 : Int) ≤ 0 ∧ (0 : Int) < 256; omega)
/-- A card and a port, just made. -/
theorem play_start {w0 w1 w2 : World} {lab : Nat → Nat} {H : Nh} {f : Nat → Int} {pp vi vo : Nat} (h : Crd w1 lab H (cardS H f).f (cardS H f).A (A0 H.n) H.n) (hf : ∀ i, i < H.N → IsB (f i)) (hb : Below w1.heap.size w1 w2) (hvi : Dev w2 vi H.qi 0 0) (hvo : Dev w2 vo H.qo 0 0) (hp : w2.heap[pp]? = some (.cells (portC { H with pp := pp, vi := vi, vo := vo }) 70 (0, 0)))
    (h1 : w1.heap.size ≤ vi) (h2 : vi < vo) (h3 : vo < pp) (h4 : pp < w2.heap.size) (hl : ∀ b, b < w0.heap.size → lab b = 0) (hbel : Below w0.heap.size w0 w1) :
    Play w0 w2 (labP lab vi vo pp) { H with pp := pp, vi := vi, vo := vo } H.n (List.range H.n) [] [] [] := by
  have hn := h.port hb hvi hvo hp h1 h2 h3 h4
  obtain ⟨s1, s2⟩ := start { H with pp := pp, vi := vi, vo := vo } f hf
  refine ⟨_, hn, s1, s2, fun b e => ?_, hbel.trans (hb.mono hbel.size)⟩
  rw [labP_old (Nat.lt_of_lt_of_le e hbel.size) h1 h2 h3]
  exact hl b e
theorem at_self (L : List Int) : at_ (fun i => L.getD i 0) 0 L.length = L := by
  apply List.ext_getElem
  · rw [at_len]
  · intro i h1 h2
    simp [at_, List.getD, h2]
theorem Blk.bytes {w : World} {b : Nat} {L : List Int} (h : Blk w b L) : Bytes w (some ⟨b, 0, none⟩) L := by
  have h1 := Mem.bytes h 0 L.length (by omega)
  rw [at_self] at h1
  exact h1
theorem Blk.conv {w : World} {b c : Nat} {L : List Int} (h : Blk w b L) : (convert 25 9 (.slice (some ⟨b, 0, none⟩) L.length c)).run Tryz.prog w = .ok (.string (strOfNums L)) w := by
  have h1 := Mem.conv (cap := c) h (Nat.le_refl L.length)
  rw [at_self] at h1
  exact h1
/-- The i-th frame of a row. -/
theorem FmRow.at_ {w : World} {al : Nat → Prop} {v : Value} {Ls : List (List Int)} (h : FmRow w al v Ls) : ∃ a c, v = .slice a Ls.length c ∧ ∀ i, i < Ls.length → ∃ g b cp, a = some ⟨g, 0, none⟩ ∧ w.cell? ⟨g, i, none⟩ = some (.slice (some ⟨b, 0, none⟩) (Ls.getD i []).length cp) ∧ Blk w b (Ls.getD i []) ∧ al g ∧ al b := by
  obtain ⟨R, h1, h2, h3, h4⟩ := h
  subst h1
  obtain ⟨a, c, e⟩ := owns_slice h2
  have hl : R.length = (R.map (·.2.2)).length := by rw [List.length_map]
  refine ⟨a, c, by rw [e, hl], fun i hi => ?_⟩
  rcases h2.2 with ⟨_, h0⟩ | ⟨g, cap, cur, e2, hb, hh, hc1, hc2, hcs, ht⟩
  · omega
  · rw [e] at e2
    simp only [Value.slice.injEq] at e2
    have hi2 : i < R.length := by omega
    have hm := h3 _ (List.getElem_mem (show i < R.length by omega))
    have hL : (R.map (·.2.2)).getD i [] = R[i].2.2 := by simp [List.getD, hi2]
    rw [hL]
    refine ⟨g, R[i].1, R[i].2.1, e2.1, ?_, hm.1, h4 g (by rw [e, e2.1]; simp [Value.ownBlock]), hm.2⟩
    have e3 : (cur.toList.take (R.length * 1))[i]? = (R.map celV)[i]? := by rw [ht]
    rw [List.getElem?_take] at e3
    simp [show i < R.length by omega] at e3
    unfold World.cell?
    simp [hh, e3, celV]
set_option maxRecDepth 100000 in
set_option maxHeartbeats 2000000 in
theorem sameRows_same (w : World) (al al' : Nat → Prop) (v v' : Value) (Ls : List (List Int)) (h : FmRow w al v Ls) (h' : FmRow w al' v' Ls) (hl : Ls.length ≤ 1048576) :
    Calls Tryz.prog 13 #[v, v'] w fun e w' => e = .returned (.bool true) ∧ Below w.heap.size w w' := by
  obtain ⟨a, c, rfl, h1⟩ := h.at_
  obtain ⟨a', c', rfl, h2⟩ := h'.at_
  have H1 := hid h1
  have H2 := hid h2
  clear h1 h2 h h'
  generalize hln : Ls.length = len at *
  clear hln
  go_enter Tryz.func13, Tryz.ntmps13
  go_wp2
  go_loopw [5] (fun z wr => ∃ i : Nat, i ≤ len ∧ z = .int .i64 i ∧ Below w.heap.size w wr) (fun z _ => len - (RowKit.intOf z).toNat)
  case atStart => exact ⟨0, Nat.zero_le _, rfl, Below.refl _ _⟩
  case round =>
    obtain ⟨i, hi, rfl, hbA⟩ := hrel
    have HBA := hid hbA
    by_cases hlt : i < len
    · have hki : (i : Int) < len := by omega
      obtain ⟨g, b, cp, ea, k1, b1, _, _⟩ := H1.out i hlt
      obtain ⟨g', b', cp', ea', k2, b2, _, _⟩ := H2.out i hlt
      subst ea ea'
      have c1 : ∀ j : Nat, (convert 25 9 (.slice (some ⟨b, 0, none⟩) (Ls.getD i []).length cp)).run Tryz.prog (wr.drewN j) = .ok (.string (strOfNums (Ls.getD i []))) (wr.drewN j) := fun j => ((b1.below hbA).below (below_drewN (Below.refl _ wr) j)).conv
      have c2 : ∀ j : Nat, (convert 25 9 (.slice (some ⟨b', 0, none⟩) (Ls.getD i []).length cp')).run Tryz.prog (wr.drewN j) = .ok (.string (strOfNums (Ls.getD i []))) (wr.drewN j) := fun j => ((b2.below hbA).below (below_drewN (Below.refl _ wr) j)).conv
      replace k1 := cell_later hbA k1
      replace k2 := cell_later hbA k2
      generalize strOfNums (Ls.getD i []) = str at *
      generalize (Ls.getD i []).length = l0 at *
      clear b1 b2 hbA
      go_wp2
      go_quiet (fail)
      go_wp2
      go_roundw
      case rel => exact ⟨i + 1, by omega, by go_num, below_drewN HBA.out _⟩
      case measure => simp [RowKit.intOf]; omega
    · have hki : ¬ ((i : Int) < len) := by omega
      go_wp2
      go_ret
      exact ⟨rfl, HBA.out⟩
end Go.Proofs.YtdjghkngiicncaaGreat
