/- Exit. -/
import Derived.Test.YtacmdhlemolngaaScX
namespace Go.Proofs.Ytacmdhlemolngaa
open Go.RowKit Go.Maps

/-- One has ended: it is nowhere, and its task is gone. -/
def Ab.fin (A : Ab) (x : Int) : Ab := { A.leave x with ws := A.ws.set x.toNat ⟨none, 5, 0⟩ }
def Ab.hands (A : Ab) (L : List Int) : Ab := L.foldl (fun B k => B.hand k) A
/-- The locks that x holds, rising. -/
structure Holds (A : Ab) (x : Int) (L : List Int) : Prop where
  sorted : L.Pairwise (· < ·)
  mem : ∀ k, k ∈ L ↔ IsI k ∧ (A.lk k).head? = some x
theorem hand_other (A : Ab) (k j : Int) (h : j ≠ k) : (A.hand k).lk j = A.lk j := by
  unfold Ab.hand
  split
  · exact upd_other _ _ h
  · show upd A.lk k _ j = _; exact upd_other _ _ h
theorem hand_same (A : Ab) (k : Int) : (A.hand k).lk k = (A.lk k).tail := by
  unfold Ab.hand
  split
  · rename_i e; rw [e]; exact upd_same _ _ _
  · rename_i y r e; rw [e]; show upd A.lk k _ k = _; exact upd_same _ _ _
theorem hand_len (A : Ab) (k : Int) : (A.hand k).ws.length = A.ws.length := by
  unfold Ab.hand
  split
  · rfl
  · show (rdy A.ws _).length = _; rw [rdy_len]
section
variable {w w' : World} {p n : Nat} {lab : Nat → Own} {A : Ab} {vw vq va : Value} {bs bl : Nat} {MS ML : Int → Option Value}
/-- A worker's task is struck. -/
theorem ScAt.setT (h : ScAt w p lab A n vw vq va bs bl MS ML) {i g : Nat} (hi : i < A.ws.length) (hg : vw.ownBlock = some g) :
    ScAt (w.setCell ⟨g, i * 3, none⟩ .nilIface) p lab { A with ws := A.ws.set i ⟨none, (A.ws.getD i default).st, (A.ws.getD i default).row⟩ } n vw vq va bs bl MS ML ∧ Keep lab w lab (w.setCell ⟨g, i * 3, none⟩ .nilIface) := by
  refine h.inW (by simp) ?_ ((Mods.refl _ _).setCell _ _ _ hg)
  have h1 := owns_set h.cw.1 hg (i * 3 + 0) .nilIface
  rw [wks_set A.ws i 0 _ ⟨none, (A.ws.getD i default).st, (A.ws.getD i default).row⟩ hi (by omega) (by simp [wkC, tv])] at h1
  exact h1
set_option maxRecDepth 100000 in
set_option maxHeartbeats 4000000 in
theorem Exit_ok (h : Sc w p lab A n) (hn : n < 549755813888) (x : Int) (ha : allowR A x 1 = 0) (hx : A.has x = true) (hlv : Leaves w p lab A n x)
    (hF : ∀ (L M : List Int), Holds (A.fin x) x (L ++ M) → Fit ((A.fin x).hands L)) :
    Calls Try.prog 29 #[.pointer (some ⟨p, 0, none⟩), .int .i64 x] w fun e w' => e = .returned (.int .i64 0) ∧ ∃ L, Holds (A.fin x) x L ∧ Goes w w' p lab ((A.fin x).hands L) (n + 1) := by
  have h' := h
  obtain ⟨vw, vq, va, bs, bl, MS, ML, d⟩ := h'
  have HA := hid (allows_any d x 1)
  rw [ha] at HA
  have HS := hid (sendTo_any x 5 0 hx hlv)
  obtain ⟨x0, x1, x2⟩ := Ab.has_lt hx
  have x4 : x < (A.ws.length : Int) := by omega
  obtain ⟨wl, hwl⟩ : ∃ wl, wl = A.ws.length := ⟨_, rfl⟩
  rw [← hwl] at x4
  have HWL := hid hwl
  have HX1 := hid x1
  have HX2 := hid x2
  have HFF := hid hF
  clear h d ha hx hlv x1 x2 hwl hF
  go_enter Try.func29, Try.ntmps29
  go_wp2_with fail
  refine HA.out.mono ?_
  rintro e w1 ⟨rfl, hw1⟩
  rw [hw1]
  clear hw1
  go_wp2_with fail
  refine HS.out.mono ?_
  rintro e w2 ⟨rfl, lab2, ⟨vw, vq, va, bs, bl, MS, ML, d⟩, hK2⟩
  have hlen : (A.send x 5 0).ws.length = A.ws.length := setw_len _ _ _ _
  obtain ⟨c0, _⟩ := d.cells
  obtain ⟨g, c, hvw, hlg, t0, t1, t2, hf⟩ := d.worker (i := x.toNat) (by rw [hlen]; exact HX1.out)
  have hset := d.setT (i := x.toNat) (g := g) (by rw [hlen]; exact HX1.out) (by rw [hvw]; rfl)
  have hfin : ({ A.send x 5 0 with ws := (A.send x 5 0).ws.set x.toNat ⟨none, ((A.send x 5 0).ws.getD x.toNat default).st, ((A.send x 5 0).ws.getD x.toNat default).row⟩ } : Ab) = A.fin x := by
    have e1 : (A.send x 5 0).ws = A.ws.set x.toNat ⟨(A.ws.getD x.toNat default).t, 5, 0⟩ := rfl
    rw [e1]
    unfold Ab.fin Ab.send
    simp [List.getD, HX1.out]
  rw [hfin] at hset
  rw [hvw, hlen, ← HWL.out] at c0
  have f0 := hf (x.toNat * 3)
  have hgp : ¬ g = p := fun e => by rw [e, d.lp] at hlg; cases hlg
  obtain ⟨W3, hW3⟩ : ∃ W3, W3 = w2.setCell ⟨g, x.toNat * 3, none⟩ .nilIface := ⟨_, rfl⟩
  rw [← hW3] at hset
  obtain ⟨d3, hK3⟩ := hset
  have c3 : w2.cell? ⟨p, 3, none⟩ = some (.map (some bl)) := (d.cells).2.2.2.1
  have HST := hid (starting_any d3.cl x (by omega))
  have HK3 := hid (hK2.trans hK3)
  have HD3 : Hid (Sc W3 p lab2 (A.fin x) (n + 1)) := hid ⟨_, _, _, _, _, _, _, d3⟩
  clear d d3 hK2 hK3 hvw hlg t1 t2 hf hlen hfin
  go_wp2_with fail
  rw [← hW3]
  refine HST.out.mono ?_
  rintro e w4 ⟨v, L, rfl, ho4, hso, hll, hme, hb4⟩
  obtain ⟨a4, c4, e4⟩ := owns_slice ho4
  subst e4
  have HH : Hid (Holds (A.fin x) x L) := hid ⟨hso, hme⟩
  have HO4 := hid ho4
  have HS4 := hid (HD3.out.below hb4)
  have HK4 := hid (HK3.out.trans (Keep.below (lab := lab2) hb4))
  have HN4 : Hid (∀ b, W3.heap.size ≤ b → lab2 b = .no) := hid (fun b hb => HD3.out.new hb)
  obtain ⟨ln, hln⟩ : ∃ ln, ln = L.length := ⟨_, rfl⟩
  rw [← hln] at HO4 ⊢
  have HLN := hid hln
  have hlb : ln ≤ 1099511627776 := by omega
  clear ho4 hso hll hme hb4 hln HST HD3 HA HS f0 c0 c3 t0
  clear hW3
  go_wp2_with fail
  go_loopw [31] (fun z wr => ∃ (k : Nat) (lab1 : Nat → Own), k ≤ ln ∧ z = .int .i64 k ∧ Sc wr p lab1 ((A.fin x).hands (L.take k)) (n + 1) ∧ Keep lab w lab1 wr ∧ wr.ownsRow 0 3 1 (.slice a4 ln c4) ln (ints L) ∧ ∀ g, (Value.slice a4 ln c4).ownBlock = some g → lab1 g = .no) (fun z _ => ln - (RowKit.intOf z).toNat)
  case atStart => exact ⟨0, lab2, Nat.zero_le _, rfl, HS4.out, HK4.out, owns_zero HO4.out, fun g hg => HN4.out g (owns_lt HO4.out hg).2⟩
  case round =>
    obtain ⟨k, lab1, hk, rfl, hS, hK, ho, hno⟩ := hrel
    have HSr := hid hS
    have HKr := hid hK
    have HOr := hid ho
    have HNr := hid hno
    clear hno
    by_cases hlt : k < ln
    · have hki : (k : Int) < ln := by omega
      have hkl : k < L.length := by rw [← HLN.out]; exact hlt
      have ho' := ho
      rw [HLN.out] at ho'
      obtain ⟨gi, ci, e, hci, _⟩ := owns_int ho' hkl
      simp only [Value.slice.injEq] at e
      obtain ⟨rfl, e2, rfl⟩ := e
      clear e2 ho'
      have hkm : L.getD k 0 ∈ L := by simp [List.getD, hkl]
      have hIk := ((HH.out.mem _).1 hkm).1
      have FT := HFF.out (L.take k) (L.drop k) (by rw [List.take_append_drop]; exact HH.out)
      have HHO := hid (handOn_any hS (L.getD k 0) hIk (FT.inl _) (by have := FT.q; omega) (by have := FT.lk (L.getD k 0); omega) (by omega))
      have HT1 : Hid (((A.fin x).hands (L.take k)).hand (L.getD k 0) = (A.fin x).hands (L.take (k + 1))) := hid (by
        have e1 : L.take (k + 1) = L.take k ++ [L.getD k 0] := by rw [List.take_succ_eq_append_getElem hkl]; simp [List.getD, hkl]
        rw [e1]
        unfold Ab.hands
        rw [List.foldl_append]
        rfl)
      rw [HT1.out] at HHO
      clear hS hK ho hkm hIk FT HT1
      generalize L.getD k 0 = lk at *
      go_wp2_with (go_at_call 55; refine HHO.out.mono ?_; rintro e w6 ⟨rfl, lab6, h6, hK6⟩; have H6 := hid h6; have HK6 := hid (HKr.out.trans hK6); have HO6 := hid (owns_keep HOr.out (fun g hg => hK6.block (owns_lt HOr.out hg).1 (HNr.out g hg))); have HN6 : Hid (∀ g, (Value.slice (some ⟨gi, 0, none⟩) ln c4).ownBlock = some g → lab6 g = .no) := hid (fun g hg => hK6.lab (owns_lt HOr.out hg).1 (HNr.out g hg)); clear h6 hK6)
      go_roundw
      case rel => exact ⟨k + 1, lab6, by omega, by go_num, H6.out, HK6.out, HO6.out, HN6.out⟩
      case measure => simp [RowKit.intOf]; omega
    · have hki : ¬ ((k : Int) < ln) := by omega
      obtain rfl : k = ln := by omega
      have hS2 := hS
      rw [HLN.out, List.take_length] at hS2
      have HR : Hid (∃ L, Holds (A.fin x) x L ∧ Goes w wr p lab ((A.fin x).hands L) (n + 1)) := hid ⟨L, HH.out, lab1, hS2, hK⟩
      clear hS hK ho hS2
      go_wp2
      go_ret
      exact ⟨rfl, HR.out⟩
theorem Exit_no (h : Sc w p lab A n) (x : Int) (ha : allowR A x 1 ≠ 0) :
    Calls Try.prog 29 #[.pointer (some ⟨p, 0, none⟩), .int .i64 x] w fun e w' => e = .returned (.int .i64 (allowR A x 1)) ∧ w' = w := by
  obtain ⟨vw, vq, va, bs, bl, MS, ML, d⟩ := h
  have HA := hid (allows_any d x 1)
  generalize allowR A x 1 = er at *
  have hne : (er != 0) = true := by simpa using ha
  clear d
  go_enter Try.func29, Try.ntmps29
  go_wp2_with (go_at_call 51; refine HA.out.mono ?_; rintro e w1 ⟨rfl, hw1⟩; rw [hw1]; clear hw1)
  go_ret
  exact ⟨rfl, rfl⟩
end
end Go.Proofs.Ytacmdhlemolngaa
