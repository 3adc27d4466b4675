/- vnet: a play that keeps to the rules; rows held against each other. -/
import Derived.Test.YtpmbknlafeljlaaNetR
namespace Go.Proofs.Ytpmbknlafeljlaa
open Go.RowKit

structure Pl (w0 w : World) (lab : Nat → Nat) (H : Nh) (S : Ns) (c : Nat) (Pi : List Nat) (Gi : List (Nat × List Int)) (Po : List (Nat × List Int)) (Gq : List Nat) : Prop where
  net : Net w lab H S c
  inl : InL H S Pi Gi
  out : OutL H S Po Gq
  low : ∀ b, b < w0.heap.size → lab b = 0
  bel : Below w0.heap.size w0 w
def Play (w0 w : World) (lab : Nat → Nat) (H : Nh) (c : Nat) (Pi : List Nat) (Gi : List (Nat × List Int)) (Po : List (Nat × List Int)) (Gq : List Nat) : Prop := ∃ S, Pl w0 w lab H S c Pi Gi Po Gq
section
variable {w0 w w' : World} {lab lab' : Nat → Nat} {H : Nh} {c : Nat} {Pi : List Nat} {Gi : List (Nat × List Int)} {Po : List (Nat × List Int)} {Gq : List Nat}
theorem keep_bel (hl : ∀ b, b < w0.heap.size → lab b = 0) (hb : Below w0.heap.size w0 w) (hk : Keep lab w lab' w') : (∀ b, b < w0.heap.size → lab' b = 0) ∧ Below w0.heap.size w0 w' :=
  ⟨fun b h => by rw [hk.1 b (Nat.lt_of_lt_of_le h hb.size)]; exact hl b h, hk.2.to_below hb hb.size (fun b e => by
    by_cases h : b < w0.heap.size
    · exact absurd (hl b h) e
    · omega)⟩
theorem Play.below (h : Play w0 w lab H c Pi Gi Po Gq) (hb : Below w.heap.size w w') : Play w0 w' lab H c Pi Gi Po Gq := let ⟨S, p⟩ := h; ⟨S, p.net.below hb, p.inl, p.out, p.low, p.bel.trans (hb.mono p.bel.size)⟩
theorem Play.outside (h : Play w0 w lab H c Pi Gi Po Gq) {P : Nat → Prop} (hm : Mods P w w') (hP : ∀ b, P b → lab b = 0 ∧ w0.heap.size ≤ b) : Play w0 w' lab H c Pi Gi Po Gq := let ⟨S, p⟩ := h; ⟨S, p.net.outside hm (fun b e => (hP b e).1), p.inl, p.out, p.low, hm.to_below p.bel p.bel.size (fun b e => (hP b e).2)⟩
theorem Play.bel (h : Play w0 w lab H c Pi Gi Po Gq) : Below w0.heap.size w0 w := let ⟨_, p⟩ := h; p.bel
theorem Play.lt (h : Play w0 w lab H c Pi Gi Po Gq) : ∀ b, lab b ≠ 0 → b < w.heap.size := let ⟨_, p⟩ := h; p.net.lt
theorem Play.new (h : Play w0 w lab H c Pi Gi Po Gq) {b : Nat} (hb : w.heap.size ≤ b) : lab b = 0 := by
  by_cases e : lab b = 0
  · exact e
  · have := h.lt b e; omega
theorem Play.more (h : Play w0 w lab H c Pi Gi Po Gq) {c' : Nat} (hc : c ≤ c') : Play w0 w lab H c' Pi Gi Po Gq := let ⟨S, p⟩ := h; ⟨S, p.net.more hc, p.inl, p.out, p.low, p.bel⟩
theorem Play.inlen (h : Play w0 w lab H c Pi Gi Po Gq) : Gi.length + Pi.length = H.n := let ⟨_, p⟩ := h; p.inl.len
theorem Play.deliver {x : Nat} (h : Play w0 w lab H c (x :: Pi) Gi Po Gq) {L : List Int} (hL : Good L) (ad : Option Addr) (cap len : Nat) (hB : Bytes w ad L) (hln : L.length = len) :
    Calls Try.prog 12 #[.pointer (some ⟨H.pp, 0, none⟩), .slice ad len cap] w fun e w' => e = .returned (.int .i64 0) ∧ Play w0 w' lab H c Pi (Gi ++ [(x, L)]) Po Gq ∧ Keep lab w lab w' := by
  obtain ⟨S, p⟩ := h
  obtain ⟨d1, d2, d3, d4, d5, d6⟩ := Go.Proofs.Ytpmbknlafeljlaa.deliver p.inl hL
  refine (Deliver_any w lab H S c p.net ad cap len L hB hln).mono ?_
  rintro e w' ⟨rfl, hn, hk⟩
  obtain ⟨k1, k2⟩ := keep_bel p.low p.bel hk
  exact ⟨by rw [d1], ⟨_, hn, d2, p.out.keep d3 d4 d5 d6 hn.mem.2, k1, k2⟩, hk⟩
theorem Play.deliver_full (h : Play w0 w lab H c [] Gi Po Gq) {L : List Int} (hL : Good L) (ad : Option Addr) (cap len : Nat) (hB : Bytes w ad L) (hln : L.length = len) :
    Calls Try.prog 12 #[.pointer (some ⟨H.pp, 0, none⟩), .slice ad len cap] w fun e w' => e = .returned (.int .i64 7) ∧ Play w0 w' lab H c [] Gi Po Gq ∧ Keep lab w lab w' := by
  obtain ⟨S, p⟩ := h
  obtain ⟨d1, d2⟩ := Go.Proofs.Ytpmbknlafeljlaa.deliver_full p.inl hL
  refine (Deliver_any w lab H S c p.net ad cap len L hB hln).mono ?_
  rintro e w' ⟨rfl, hn, hk⟩
  obtain ⟨k1, k2⟩ := keep_bel p.low p.bel hk
  rw [d2] at hn
  exact ⟨by rw [d1], ⟨_, hn, p.inl, p.out, k1, k2⟩, hk⟩
theorem Play.deliver_size (h : Play w0 w lab H c Pi Gi Po Gq) {L : List Int} (hL : frB (L.length : Int) = false) (ad : Option Addr) (cap len : Nat) (hB : Bytes w ad L) (hln : L.length = len) :
    Calls Try.prog 12 #[.pointer (some ⟨H.pp, 0, none⟩), .slice ad len cap] w fun e w' => e = .returned (.int .i64 14) ∧ Play w0 w' lab H c Pi Gi Po Gq ∧ Keep lab w lab w' := by
  obtain ⟨S, p⟩ := h
  refine (Deliver_any w lab H S c p.net ad cap len L hB hln).mono ?_
  rintro e w' ⟨rfl, hn, hk⟩
  obtain ⟨k1, k2⟩ := keep_bel p.low p.bel hk
  have e1 : delR H S L = 14 := by unfold delR; rw [hL]; rfl
  have e2 : delS H S L = S := by unfold delS; rw [hL]; rfl
  rw [e2] at hn
  exact ⟨by rw [e1], ⟨_, hn, p.inl, p.out, k1, k2⟩, hk⟩
theorem Play.send (h : Play w0 w lab H c Pi Gi Po Gq) (hc : c < 1099511627775) {L : List Int} (hL : Good L) (hlt : Po.length < H.n) (ad : Option Addr) (cap len : Nat) (hB : Bytes w ad L) (hln : L.length = len) (hl : ∀ b off, ad = some ⟨b, off, none⟩ → lab b = 0) :
    Calls Try.prog 13 #[.pointer (some ⟨H.pc, 0, none⟩), .slice ad len cap] w fun e w' => e = .returned (.int .i64 0) ∧ ∃ lab' x, Play w0 w' lab' H (c + 1) Pi Gi (Po ++ [(x, L)]) [] ∧ Keep lab w lab' w' := by
  obtain ⟨S, p⟩ := h
  obtain ⟨d1, ⟨x, d2⟩, d3, d4, d5, d6⟩ := Go.Proofs.Ytpmbknlafeljlaa.send p.out hL hlt
  refine (Send_any w lab H S c p.net hc ad cap len L hB hln hl).mono ?_
  rintro e w' ⟨rfl, lab', hn, hk⟩
  obtain ⟨k1, k2⟩ := keep_bel p.low p.bel hk
  exact ⟨by rw [d1], lab', x, ⟨_, hn, p.inl.keep d3 d4 d5 d6 hn.mem.2, d2, k1, k2⟩, hk⟩
theorem Play.send_full (h : Play w0 w lab H c Pi Gi Po Gq) (hc : c < 1099511627775) {L : List Int} (hL : Good L) (hlt : Po.length = H.n) (ad : Option Addr) (cap len : Nat) (hB : Bytes w ad L) (hln : L.length = len) (hl : ∀ b off, ad = some ⟨b, off, none⟩ → lab b = 0) :
    Calls Try.prog 13 #[.pointer (some ⟨H.pc, 0, none⟩), .slice ad len cap] w fun e w' => e = .returned (.int .i64 7) ∧ ∃ lab', Play w0 w' lab' H (c + 1) Pi Gi Po [] ∧ Keep lab w lab' w' := by
  obtain ⟨S, p⟩ := h
  obtain ⟨d1, d2, d3, d4, d5, d6⟩ := Go.Proofs.Ytpmbknlafeljlaa.send_full p.out hL hlt
  refine (Send_any w lab H S c p.net hc ad cap len L hB hln hl).mono ?_
  rintro e w' ⟨rfl, lab', hn, hk⟩
  obtain ⟨k1, k2⟩ := keep_bel p.low p.bel hk
  exact ⟨by rw [d1], lab', ⟨_, hn, p.inl.keep d3 d4 d5 d6 hn.mem.2, d2, k1, k2⟩, hk⟩
theorem Play.send_size (h : Play w0 w lab H c Pi Gi Po Gq) (hc : c < 1099511627775) {L : List Int} (hL : frB (L.length : Int) = false) (ad : Option Addr) (cap len : Nat) (hB : Bytes w ad L) (hln : L.length = len) (hl : ∀ b off, ad = some ⟨b, off, none⟩ → lab b = 0) :
    Calls Try.prog 13 #[.pointer (some ⟨H.pc, 0, none⟩), .slice ad len cap] w fun e w' => e = .returned (.int .i64 14) ∧ ∃ lab', Play w0 w' lab' H (c + 1) Pi Gi Po Gq ∧ Keep lab w lab' w' := by
  obtain ⟨S, p⟩ := h
  refine (Send_any w lab H S c p.net hc ad cap len L hB hln hl).mono ?_
  rintro e w' ⟨rfl, lab', hn, hk⟩
  obtain ⟨k1, k2⟩ := keep_bel p.low p.bel hk
  have e1 : sendR H S L = 14 := by unfold sendR; rw [hL]; rfl
  have e2 : sendS H S L = S := by unfold sendS; rw [hL]; rfl
  rw [e2] at hn
  exact ⟨by rw [e1], lab', ⟨_, hn, p.inl, p.out, k1, k2⟩, hk⟩
theorem Play.receive (h : Play w0 w lab H c Pi Gi Po Gq) (hc : c < 549755813888) :
    Calls Try.prog 14 #[.pointer (some ⟨H.pc, 0, none⟩)] w fun e w' => ∃ v, e = .returned v ∧ ∃ lab', Play w0 w' lab' H (c + 65537) (Pi ++ Gi.map (·.1)) [] Po Gq ∧ Keep lab w lab' w' ∧ FRow w' (Mine5 w w' lab') v (Gi.map (·.2)) := by
  obtain ⟨S, p⟩ := h
  obtain ⟨d1, d2, d3⟩ := Go.Proofs.Ytpmbknlafeljlaa.receive (S := S) Gi S.i Pi [] p.inl
  refine (Receive_any w lab H S c p.net p.inl.free hc).mono ?_
  rintro e w' ⟨v, rfl, lab', hn, hk, hf⟩
  obtain ⟨k1, k2⟩ := keep_bel p.low p.bel hk
  refine ⟨v, rfl, lab', ⟨_, hn, d2, p.out.keep rfl rfl rfl d3 hn.mem.2, k1, k2⟩, hk, ?_⟩
  have e1 : (recvAll H S).2 = Gi.map (·.2) := d1
  rw [← e1]
  exact hf
theorem Play.sent (h : Play w0 w lab H c Pi Gi Po Gq) :
    Calls Try.prog 15 #[.pointer (some ⟨H.pp, 0, none⟩)] w fun e w' => ∃ v, e = .returned v ∧ Play w0 w' lab H c Pi Gi [] (Gq ++ Po.map (·.1)) ∧ Keep lab w lab w' ∧ FRow w' (Mine5 w w' lab) v (Po.map (·.2)) := by
  obtain ⟨S, p⟩ := h
  obtain ⟨d1, d2, d3⟩ := Go.Proofs.Ytpmbknlafeljlaa.sent (S := S) Po S.o Gq [] p.out
  refine (Sent_any w lab H S c p.net).mono ?_
  rintro e w' ⟨v, rfl, hn, hk, hf⟩
  obtain ⟨k1, k2⟩ := keep_bel p.low p.bel hk
  refine ⟨v, rfl, ⟨_, hn, p.inl.keep rfl rfl rfl d3 hn.mem.2, d2, k1, k2⟩, hk, ?_⟩
  have e1 : (sentAll H S).2 = Po.map (·.2) := d1
  rw [← e1]
  exact hf
end
theorem nmem_made (w : World) (n : Nat) : Mem (w.alloc (.cells (madeCells #[.int .u8 0] n) 5)) w.heap.size n (fun _ => 0) := Mem.of_row (World.rowIs_made w (.int .u8 0) n 5) (fun i _ => by show (0 : Int) ≤ 0 ∧ (0 : Int) < 256; omega)
/-- A card and a port, just made. -/
theorem play_start {w0 w1 w2 : World} {lab : Nat → Nat} {H : Nh} {f : Nat → Int} {pp vi vo : Nat} (h : Crd w1 lab H (cardS H f).f (cardS H f).A (A0 H.n) H.n) (hf : ∀ i, i < H.N → IsB (f i)) (hb : Below w1.heap.size w1 w2) (hvi : Dev w2 vi H.qi 0 0) (hvo : Dev w2 vo H.qo 0 0) (hp : w2.heap[pp]? = some (.cells (portC { H with pp := pp, vi := vi, vo := vo }) 58 (0, 0)))
    (h1 : w1.heap.size ≤ vi) (h2 : vi < vo) (h3 : vo < pp) (h4 : pp < w2.heap.size) (hl : ∀ b, b < w0.heap.size → lab b = 0) (hbel : Below w0.heap.size w0 w1) :
    Play w0 w2 (labP lab vi vo pp) { H with pp := pp, vi := vi, vo := vo } H.n (List.range H.n) [] [] [] := by
  have hn := h.port hb hvi hvo hp h1 h2 h3 h4
  obtain ⟨s1, s2⟩ := start { H with pp := pp, vi := vi, vo := vo } f hf
  refine ⟨_, hn, s1, s2, fun b e => ?_, hbel.trans (hb.mono hbel.size)⟩
  rw [labP_old (Nat.lt_of_lt_of_le e hbel.size) h1 h2 h3]
  exact hl b e
theorem at_self (L : List Int) : at_ (fun i => L.getD i 0) 0 L.length = L := by
  apply List.ext_getElem
  · rw [at_len]
  · intro i h1 h2
    simp [at_, List.getD, h2]
theorem Blk.bytes {w : World} {b : Nat} {L : List Int} (h : Blk w b L) : Bytes w (some ⟨b, 0, none⟩) L := by
  have h1 := Mem.bytes h 0 L.length (by omega)
  rw [at_self] at h1
  exact h1
theorem Blk.conv {w : World} {b c : Nat} {L : List Int} (h : Blk w b L) : (convert 25 9 (.slice (some ⟨b, 0, none⟩) L.length c)).run Try.prog w = .ok (.string (strOfNums L)) w := by
  have h1 := Mem.conv (cap := c) h (Nat.le_refl L.length)
  rw [at_self] at h1
  exact h1
/-- The i-th frame of a row. -/
theorem FRow.at_ {w : World} {al : Nat → Prop} {v : Value} {Ls : List (List Int)} (h : FRow w al v Ls) : ∃ a c, v = .slice a Ls.length c ∧ ∀ i, i < Ls.length → ∃ g b cp, a = some ⟨g, 0, none⟩ ∧ w.cell? ⟨g, i, none⟩ = some (.slice (some ⟨b, 0, none⟩) (Ls.getD i []).length cp) ∧ Blk w b (Ls.getD i []) ∧ al g ∧ al b := by
  obtain ⟨R, h1, h2, h3, h4⟩ := h
  subst h1
  obtain ⟨a, c, e⟩ := owns_slice h2
  have hl : R.length = (R.map (·.2.2)).length := by rw [List.length_map]
  refine ⟨a, c, by rw [e, hl], fun i hi => ?_⟩
  rcases h2.2 with ⟨_, h0⟩ | ⟨g, cap, cur, e2, hb, hh, hc1, hc2, hcs, ht⟩
  · omega
  · rw [e] at e2
    simp only [Value.slice.injEq] at e2
    have hi2 : i < R.length := by omega
    have hm := h3 _ (List.getElem_mem (show i < R.length by omega))
    have hL : (R.map (·.2.2)).getD i [] = R[i].2.2 := by simp [List.getD, hi2]
    rw [hL]
    refine ⟨g, R[i].1, R[i].2.1, e2.1, ?_, hm.1, h4 g (by rw [e, e2.1]; simp [Value.ownBlock]), hm.2⟩
    have e3 : (cur.toList.take (R.length * 1))[i]? = (R.map celV)[i]? := by rw [ht]
    rw [List.getElem?_take] at e3
    simp [show i < R.length by omega] at e3
    unfold World.cell?
    simp [hh, e3, celV]
set_option maxRecDepth 100000 in
set_option maxHeartbeats 2000000 in
theorem sameRows_same (w : World) (al al' : Nat → Prop) (v v' : Value) (Ls : List (List Int)) (h : FRow w al v Ls) (h' : FRow w al' v' Ls) (hl : Ls.length ≤ 1048576) :
    Calls Try.prog 16 #[v, v'] w fun e w' => e = .returned (.bool true) ∧ Below w.heap.size w w' := by
  obtain ⟨a, c, rfl, h1⟩ := h.at_
  obtain ⟨a', c', rfl, h2⟩ := h'.at_
  have H1 := hid h1
  have H2 := hid h2
  clear h1 h2 h h'
  generalize hln : Ls.length = len at *
  clear hln
  go_enter Try.func16, Try.ntmps16
  go_wp2
  go_loopw [5] (fun z wr => ∃ i : Nat, i ≤ len ∧ z = .int .i64 i ∧ Below w.heap.size w wr) (fun z _ => len - (RowKit.intOf z).toNat)
  case atStart => exact ⟨0, Nat.zero_le _, rfl, Below.refl _ _⟩
  case round =>
    obtain ⟨i, hi, rfl, hbA⟩ := hrel
    have HBA := hid hbA
    by_cases hlt : i < len
    · have hki : (i : Int) < len := by omega
      obtain ⟨g, b, cp, ea, k1, b1, _, _⟩ := H1.out i hlt
      obtain ⟨g', b', cp', ea', k2, b2, _, _⟩ := H2.out i hlt
      subst ea ea'
      have c1 : ∀ j : Nat, (convert 25 9 (.slice (some ⟨b, 0, none⟩) (Ls.getD i []).length cp)).run Try.prog (wr.drewN j) = .ok (.string (strOfNums (Ls.getD i []))) (wr.drewN j) := fun j => ((b1.below hbA).below (below_drewN (Below.refl _ wr) j)).conv
      have c2 : ∀ j : Nat, (convert 25 9 (.slice (some ⟨b', 0, none⟩) (Ls.getD i []).length cp')).run Try.prog (wr.drewN j) = .ok (.string (strOfNums (Ls.getD i []))) (wr.drewN j) := fun j => ((b2.below hbA).below (below_drewN (Below.refl _ wr) j)).conv
      replace k1 := cell_later hbA k1
      replace k2 := cell_later hbA k2
      generalize strOfNums (Ls.getD i []) = str at *
      generalize (Ls.getD i []).length = l0 at *
      clear b1 b2 hbA
      go_wp2
      go_quiet (fail)
      go_wp2
      go_roundw
      case rel => exact ⟨i + 1, by omega, by go_num, below_drewN HBA.out _⟩
      case measure => simp [RowKit.intOf]; omega
    · have hki : ¬ ((i : Int) < len) := by omega
      go_wp2
      go_ret
      exact ⟨rfl, HBA.out⟩
end Go.Proofs.Ytpmbknlafeljlaa
