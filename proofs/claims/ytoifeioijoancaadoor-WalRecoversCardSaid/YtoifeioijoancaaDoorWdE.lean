/- Join. -/
import Derived.Test.YtoifeioijoancaaDoorWdD
namespace Go.Proofs.YtoifeioijoancaaDoor
open Go.RowKit Go.Maps
set_option linter.unusedVariables false

def firstBad : List Pt → Int
  | [] => 0
  | p :: l => if badOf p.blk p.dat.length ≠ 0 then badOf p.blk p.dat.length else firstBad l
theorem firstBad_zero : ∀ (l : List Pt), firstBad l = 0 → ∀ p ∈ l, badOf p.blk p.dat.length = 0
  | [], _, p, hp => by simp at hp
  | q :: l, h, p, hp => by
    unfold firstBad at h
    split at h
    · rename_i e; exact absurd h e
    · rename_i e
      rcases List.mem_cons.1 hp with rfl | hp
      · simpa using e
      · exact firstBad_zero l h p hp
theorem firstBad_drop (L : List Pw) (k : Nat) (h : k < L.length) : firstBad ((L.map Pw.pt).drop k) = if badOf (L.getD k default).blk (L.getD k default).dat.length ≠ 0 then badOf (L.getD k default).blk (L.getD k default).dat.length else firstBad ((L.map Pw.pt).drop (k + 1)) := by
  rw [List.drop_eq_getElem_cons (by simpa using h)]
  have e : (L.map Pw.pt)[k]'(by simpa using h) = (L.getD k default).pt := by simp [List.getD, h]
  rw [e]
  rfl
theorem badOf_ok {blk : Int} {n : Nat} (h : badOf blk n = 0) : 0 ≤ blk ∧ blk < 4294967296 ∧ n = 512 := by
  unfold badOf at h
  split at h
  · cases h
  · split at h
    · cases h
    · omega
def joinE (A : Lg) (ps : List Pt) : Int := if firstBad ps ≠ 0 then firstBad ps else if 64 < (joinL A.opn ps).length then 7 else 0
def joinN (A : Lg) (ps : List Pt) : Int := if joinE A ps = 0 then A.num else 0
def joinS (A : Lg) (ps : List Pt) : Lg := if joinE A ps = 0 then { A with opn := joinL A.opn ps } else A
theorem Ps.kp {w w' : World} {S S' T : Nat → Prop} {a : Option Addr} {L : List Pw} (h : Ps w T a L) (hk : Kp S w S' w') (hd : ∀ b, T b → S b → False) : Ps w' T a L := h.keep (fun b hb hl => hk.block hl (fun e => hd b hb e))
section
variable {w : World} {p : Nat} {S : Nat → Prop} {A : Lg}
set_option maxRecDepth 100000 in
set_option maxHeartbeats 4000000 in
theorem Join_any (h : Lo w p S A) (T : Nat → Prop) (a : Option Addr) (c : Nat) (Q : List Pw) (hQ : Ps w T a Q) (hTS : ∀ b, T b → S b → False) (hl : Q.length ≤ 1000000) (hI : ∀ q ∈ Q, q.blk < 9223372036854775808) :
    Calls Tryd.prog 27 #[.pointer (some ⟨p, 0, none⟩), .slice a Q.length c] w fun e w' => e = .returned (.tuple #[.int .i64 (joinN A (Q.map Pw.pt)), .int .i64 (joinE A (Q.map Pw.pt))]) ∧ ∃ S', Lo w' p S' (joinS A (Q.map Pw.pt)) ∧ Kp S w S' w' := by
  have HLO := hid h
  have HQ := hid hQ
  have HTS := hid hTS
  have HI := hid hI
  obtain ⟨n, hn⟩ : ∃ n, n = Q.length := ⟨_, rfl⟩
  have HN := hid hn
  rw [← hn] at hl ⊢
  obtain ⟨RN, hRN⟩ : ∃ RN, RN = joinN A (Q.map Pw.pt) := ⟨_, rfl⟩
  obtain ⟨RE, hRE⟩ : ∃ RE, RE = joinE A (Q.map Pw.pt) := ⟨_, rfl⟩
  obtain ⟨RS, hRS⟩ : ∃ RS, RS = joinS A (Q.map Pw.pt) := ⟨_, rfl⟩
  rw [← hRN, ← hRE, ← hRS]
  have HRN := hid hRN
  have HRE := hid hRE
  have HRS := hid hRS
  have HER : Hid (RE = if firstBad (Q.map Pw.pt) ≠ 0 then firstBad (Q.map Pw.pt) else if 64 < (joinL A.opn (Q.map Pw.pt)).length then 7 else 0) := hid hRE
  have HBAD : Hid (RE ≠ 0 → RN = 0 ∧ RS = A) := hid (fun e => by
    have e' : joinE A (Q.map Pw.pt) ≠ 0 := by rw [← hRE]; exact e
    exact ⟨by rw [hRN]; unfold joinN; rw [if_neg e'], by rw [hRS]; unfold joinS; rw [if_neg e']⟩)
  have HGOOD : Hid (RE = 0 → RN = A.num ∧ RS = { A with opn := joinL A.opn (Q.map Pw.pt) }) := hid (fun e => by
    have e' : joinE A (Q.map Pw.pt) = 0 := by rw [← hRE]; exact e
    exact ⟨by rw [hRN]; unfold joinN; rw [if_pos e'], by rw [hRS]; unfold joinS; rw [if_pos e']⟩)
  clear h hQ hTS hI hn hRN hRE hRS HRN HRE HRS
  go_enter Tryd.func27, Tryd.ntmps27
  go_wp2
  go_loopw [13] (fun z wr => ∃ k : Nat, k ≤ n ∧ z = .int .i64 k ∧ firstBad (Q.map Pw.pt) = firstBad ((Q.map Pw.pt).drop k) ∧ Below w.heap.size w wr) (fun z _ => n - (RowKit.intOf z).toNat)
  case atStart => exact ⟨0, Nat.zero_le _, rfl, rfl, Below.refl _ _⟩
  case round =>
    obtain ⟨k, hk, rfl, hfb, hb⟩ := hrel
    have HFB := hid hfb
    have HB := hid hb
    clear hfb
    by_cases hlt : k < n
    · have hki : (k : Int) < n := by omega
      have hkQ : k < Q.length := by rw [← HN.out]; exact hlt
      obtain ⟨gl, off, ha, _, hc0, hc1⟩ := HQ.out.at_ hkQ
      subst ha
      replace hc0 := cell_later hb hc0
      replace hc1 := cell_later hb hc1
      have hbk := HI.out _ (getD_memP hkQ)
      have HFD := hid (firstBad_drop Q k hkQ)
      generalize Q.getD k default = P at *
      obtain ⟨W1, hW1⟩ : ∃ W1, W1 = wr.alloc (.cells #[.int .i64 P.blk, .slice P.a P.dat.length P.c] 29) := ⟨_, rfl⟩
      have hb1 : Below wr.heap.size wr W1 := by rw [hW1]; exact (Below.refl _ _).alloc (Nat.le_refl _) _
      have HB1 : Hid (Below w.heap.size w W1) := hid (HB.out.trans (hb1.mono HB.out.size))
      have HC := hid (refusalOf_any W1 P.blk P.a P.dat.length P.c hbk)
      generalize badOf P.blk P.dat.length = E at *
      clear hb hb1
      by_cases hz : E = 0
      · subst hz
        have HNX : Hid (firstBad (Q.map Pw.pt) = firstBad ((Q.map Pw.pt).drop (k + 1))) := hid (by rw [HFB.out, HFD.out, if_neg (by simp)])
        clear HFD HFB
        go_wp2_with fail
        rw [← hW1]
        clear hW1
        refine HC.out.mono ?_
        rintro e w2 ⟨rfl, hb2⟩
        have HB2 : Hid (Below w.heap.size w w2) := hid (HB1.out.trans (hb2.mono HB1.out.size))
        clear hb2
        go_wp2
        go_roundw
        case rel => exact ⟨k + 1, by omega, by go_num, HNX.out, HB2.out⟩
        case measure => simp [RowKit.intOf]; omega
      · have hz2 : (E != 0) = true := by simpa using hz
        have HEE : Hid (RE = E) := hid (by rw [HER.out, HFB.out, HFD.out, if_pos hz, if_pos hz])
        have HZ := hid hz
        clear HFD HFB hz
        go_wp2_with fail
        rw [← hW1]
        clear hW1
        refine HC.out.mono ?_
        rintro e w2 ⟨rfl, hb2⟩
        have HB2 : Hid (Below w.heap.size w w2) := hid (HB1.out.trans (hb2.mono HB1.out.size))
        clear hb2
        go_wp2
        go_ret2
        obtain ⟨e1, e2⟩ := HBAD.out (by rw [HEE.out]; exact HZ.out)
        exact ⟨by rw [e1, HEE.out]; rfl, S, by rw [e2]; exact HLO.out.later HB2.out, Kp.below HB2.out⟩
    · have hki : ¬ ((k : Int) < n) := by omega
      obtain rfl : k = n := by omega
      have hf0 : firstBad (Q.map Pw.pt) = 0 := by rw [HFB.out, List.drop_of_length_le (by rw [List.length_map, ← HN.out]; exact Nat.le_refl _)]; rfl
      have HF0 := hid hf0
      obtain ⟨v1, v2, L1, L2, hat⟩ := HLO.out.later hb
      have HC := hasRoom_any hat T a c Q (HQ.out.later hb) (by rw [← HN.out]; exact hl)
      rw [← HN.out] at HC
      have c3 := hat.cells.2.2.2.1
      clear hb hf0 hat
      by_cases hroom : (joinL A.opn (Q.map Pw.pt)).length ≤ 64
      · rw [decide_eq_true hroom] at HC
        replace HC := hid HC
        have HROOM := hid hroom
        have HE0 : Hid (RE = 0) := hid (by rw [HER.out, if_neg (by rw [HF0.out]; simp), if_neg (by omega)])
        have HOKS := hid (firstBad_zero _ HF0.out)
        clear hroom
        go_wp2_with fail
        refine HC.out.mono ?_
        rintro e w3 ⟨rfl, hb3⟩
        have HB3 : Hid (Below w.heap.size w w3) := hid (HB.out.trans (hb3.mono HB.out.size))
        clear hb3 HC
        go_wp2
        go_loopw [31] (fun z wq => ∃ (j : Nat) (S' : Nat → Prop), j ≤ k ∧ z = .int .i64 j ∧ Lo wq p S' { A with opn := joinL A.opn ((Q.map Pw.pt).take j) } ∧ Kp S w S' wq) (fun z _ => k - (RowKit.intOf z).toNat)
        case atStart => exact ⟨0, S, Nat.zero_le _, rfl, HLO.out.later HB3.out, Kp.below HB3.out⟩
        case round =>
          obtain ⟨j, S', hj, rfl, hlo, hkp⟩ := hrel
          have HL1 := hid hlo
          have HKP := hid hkp
          by_cases hlt : j < k
          · have hki2 : (j : Int) < k := by omega
            have hjQ : j < Q.length := by rw [← HN.out]; exact hlt
            have hps := HQ.out.kp hkp HTS.out
            obtain ⟨gl, off, ha, _, hc0, hc1⟩ := hps.at_ hjQ
            subst ha
            have HD := hid (hps.dat hjQ)
            have hokj := badOf_ok (HOKS.out (Q.getD j default).pt (List.mem_map_of_mem (getD_memP hjQ)))
            have HSN := hid (map_take_snoc hjQ)
            have HFR := hid (joinL_front A.opn (Q.map Pw.pt) (j + 1))
            rw [HSN.out] at HFR
            generalize Q.getD j default = P at *
            have hPl : P.dat.length = 512 := hokj.2.2
            rw [hPl] at hc1
            obtain ⟨W4, hW4⟩ : ∃ W4, W4 = wr.alloc (.cells #[.int .i64 P.blk, .slice P.a 512 P.c] 29) := ⟨_, rfl⟩
            have hb4 : Below wr.heap.size wr W4 := by rw [hW4]; exact (Below.refl _ _).alloc (Nat.le_refl _) _
            have hh4 : W4.heap[wr.heap.size]? = some (.cells #[.int .i64 P.blk, .slice P.a 512 P.c] 29 (0, 0)) := by rw [hW4]; exact alloc_new wr _
            have d0 : W4.cell? ⟨wr.heap.size, 0, none⟩ = some (.int .i64 P.blk) := cell_of hh4 rfl
            have d1 : W4.cell? ⟨wr.heap.size, 1, none⟩ = some (.slice P.a 512 P.c) := cell_of hh4 rfl
            obtain ⟨v1', v2', L1', L2', hat'⟩ := (hlo.later hb4).later (w' := W4.drew) ((Below.refl _ W4).drew)
            have HC5 := hid (lay_any hat' T P ((HD.out.1.later hb4).later (w' := W4.drew) ((Below.refl _ W4).drew)) HD.out.2 hokj (by
              have := HROOM.out
              have h2 := HFR.out
              rw [joinL_snoc] at h2
              show (layS (joinL A.opn _) P.pt).length ≤ 64
              omega))
            have HB4 := hid hb4
            have HNS : Hid (¬ S' wr.heap.size) := hid (fun e => Nat.lt_irrefl _ (hlo.lt _ e))
            clear hb4 hh4 hlo hkp hat' hps hokj hPl
            go_wp2_with (rw [← hW4]; clear hW4)
            go_region_held3 (fun w' => w'.cell? ⟨wr.heap.size, 0, none⟩ = some (.int .i64 P.blk) ∧ w'.cell? ⟨wr.heap.size, 1, none⟩ = some (.slice P.a 512 P.c)) ((first | exact ⟨d0, d1⟩ | exact HS6.out))
              ((go_at_call 61; refine HC5.out.mono ?_; rintro e w6 ⟨rfl, S6, hlo6, hkp6⟩; have HLO6 := hid hlo6; have HKP6 := hid hkp6; have HS6 := hid (And.intro (hkp6.cell (w := W4.drew) d0 HNS.out) (hkp6.cell (w := W4.drew) d1 HNS.out)); clear hlo6 hkp6))
            have HKW : Hid (Kp S w S6 w6) := hid (HKP.out.trans ((Kp.below ((HB4.out).drew)).trans HKP6.out))
            have HLW : Hid (Lo w6 p S6 { A with opn := joinL A.opn ((Q.map Pw.pt).take (j + 1)) }) := hid (by rw [HSN.out, joinL_snoc]; exact HLO6.out)
            clear HS6 d0 d1
            go_wp2
            go_roundw
            case rel => exact ⟨j + 1, S6, by omega, by go_num, HLW.out, HKW.out⟩
            case measure => simp [RowKit.intOf]; omega
          · have hki2 : ¬ ((j : Int) < k) := by omega
            obtain rfl : j = k := by omega
            obtain ⟨e1, e2⟩ := HGOOD.out HE0.out
            obtain ⟨v1', v2', L1', L2', hat'⟩ := hlo
            have c3' := hat'.cells.2.2.2.1
            simp only at c3'
            rw [← e1] at c3'
            have HE2 := hid e2
            clear hkp hat' e1 e2
            go_wp2
            go_ret2
            refine ⟨by rw [HE0.out]; rfl, S', ?_, HKP.out⟩
            rw [HE2.out]
            have := HL1.out
            rwa [List.take_of_length_le (by rw [List.length_map, ← HN.out]; exact Nat.le_refl _)] at this
      · rw [decide_eq_false hroom] at HC
        replace HC := hid HC
        have HE7 : Hid (RE = 7) := hid (by rw [HER.out, if_neg (by rw [HF0.out]; simp), if_pos (by omega)])
        clear hroom
        go_wp2_with fail
        refine HC.out.mono ?_
        rintro e w3 ⟨rfl, hb3⟩
        have HB3 : Hid (Below w.heap.size w w3) := hid (HB.out.trans (hb3.mono HB.out.size))
        clear hb3 HC
        go_wp2
        go_ret2
        obtain ⟨e1, e2⟩ := HBAD.out (by rw [HE7.out]; decide)
        exact ⟨by rw [e1, HE7.out]; rfl, S, by rw [e2]; exact HLO.out.later HB3.out, Kp.below HB3.out⟩
end
end Go.Proofs.YtoifeioijoancaaDoor
