/- DrcPlays. -/
import Derived.Test.YthgmghfegaemkaaQfA
import Derived.Test.YthgmghfegaemkaaQcA
namespace Go.Proofs.Ythgmghfegaemkaa
open Go.RowKit Go.Maps
set_option linter.unusedVariables false

/-- A row of bytes beside both tables. -/
structure FR (w0 w : World) (S T : Nat → Prop) (v : Value) (n : Nat) (l : List Int) : Prop where
  row : RW w 5 1 v n (u8s l)
  own : ∀ b, blkV v = some b → w0.heap.size ≤ b ∧ ¬ S b ∧ ¬ T b
section
variable {w0 w w' : World} {S T S' T' : Nat → Prop} {v : Value} {n : Nat} {l : List Int}
theorem FR.prog (h : FR w0 w S T v n l) (hk : Kp S w S' w') : FR w0 w' S' T v n l :=
  ⟨h.row.keep (fun b hb => hk.block (h.row.lt hb) (h.own b hb).2.1), fun b hb => ⟨(h.own b hb).1, hk.off (h.row.lt hb) (h.own b hb).2.1, (h.own b hb).2.2⟩⟩
theorem FR.doc (h : FR w0 w S T v n l) (hk : Kp T w T' w') : FR w0 w' S T' v n l :=
  ⟨h.row.keep (fun b hb => hk.block (h.row.lt hb) (h.own b hb).2.2), fun b hb => ⟨(h.own b hb).1, (h.own b hb).2.1, hk.off (h.row.lt hb) (h.own b hb).2.2⟩⟩
theorem FR.later (h : FR w0 w S T v n l) (hb : Below w.heap.size w w') : FR w0 w' S T v n l := ⟨h.row.later hb, h.own⟩
end
theorem RW.arr {w : World} {t s : Nat} {a : Option Addr} {n c : Nat} {X : List Value} (h : RW w t s (.slice a n c) n X) (hn : 0 < n) : ∃ b off cur, a = some ⟨b, off, none⟩ ∧ w.heap[b]? = some (.cells cur t (0, 0)) ∧ n ≤ c ∧ ∀ j u, X[j]? = some u → cur[off + j]? = some u := by
  rcases h.2 with ⟨e, h0⟩ | ⟨b, off, cap, cur, e, hh, h1, _, _, h3⟩
  · omega
  · simp only [Value.slice.injEq, true_and] at e
    obtain ⟨rfl, rfl⟩ := e
    refine ⟨b, off, cur, rfl, hh, h1, fun j u hj => ?_⟩
    have hl := (List.getElem?_eq_some_iff.1 hj).1
    rw [h.1] at hl
    rw [h3 j hl]; exact hj
/-- What lies at a key's place on both sides. -/
theorem both_at {w : World} {q : Nat} {T : Nat → Prop} {N : Nat} {L : Tl} {a : Option Addr} {ln c : Nat} (hln : L.length = ln) (hk : RW w 33 5 (.slice a ln c) ln (rowT L)) (hd : DbAt w q T N L) {k : Nat} (hkl : k < ln) :
    ∃ bl ol curl bd od cd curd, ∃ K : Ky, a = some ⟨bl, ol, none⟩ ∧ ln ≤ c ∧ ln ≤ cd ∧ w.heap[bl]? = some (.cells curl 33 (0, 0)) ∧ w.heap[q]? = some (.cells #[.int .i64 N, .slice (some ⟨bd, od, none⟩) ln cd] 48 (0, 0)) ∧ w.heap[bd]? = some (.cells curd 50 (0, 0)) ∧
    curl[ol + k * 5]? = some (.int .u32 K.ip) ∧ curl[ol + k * 5 + 1]? = some (.int .i64 K.port) ∧ curl[ol + k * 5 + 2]? = some (.int .u32 K.xid) ∧ curl[ol + k * 5 + 3]? = some (.int .u32 K.proc) ∧ curl[ol + k * 5 + 4]? = some (.int .u32 K.sum) ∧
    curd[od + k * 7]? = some (.int .u32 K.ip) ∧ curd[od + k * 7 + 1]? = some (.int .i64 K.port) ∧ curd[od + k * 7 + 2]? = some (.int .u32 K.xid) ∧ curd[od + k * 7 + 3]? = some (.int .u32 K.proc) ∧ curd[od + k * 7 + 4]? = some (.int .u32 K.sum) := by
  obtain ⟨bl, ol, curl, ea, hbl, hc, hcl⟩ := hk.arr (by omega)
  obtain ⟨E, v, rfl, hD⟩ := hd
  rw [toT_len] at hln
  obtain ⟨ra, cd, ev⟩ := hD.row.shape
  have hr := hD.row
  rw [hln] at ev hr
  subst ev
  obtain ⟨bd, od, curd, rfl, hbd, hcd, hcld⟩ := hr.arr (by omega)
  have hkE : k < E.length := by omega
  have g (j : Nat) (u : Value) (hu : (kL E[k].1)[j]? = some u) : curl[ol + k * 5 + j]? = some u := by
    rw [Nat.add_assoc]
    refine hcl _ u (rowT_at (by rw [toT_len]; exact hkE) j u ?_)
    rw [toT_at hkE]; exact hu
  have d (j : Nat) (u : Value) (hu : (dC E[k])[j]? = some u) : curd[od + k * 7 + j]? = some u := by
    rw [Nat.add_assoc]
    exact hcld _ u (rowD_at hkE j u hu)
  exact ⟨bl, ol, curl, bd, od, cd, curd, E[k].1, ea, hc, hcd, hbl, hD.box, hbd, g 0 _ rfl, g 1 _ rfl, g 2 _ rfl, g 3 _ rfl, g 4 _ rfl, d 0 _ rfl, d 1 _ rfl, d 2 _ rfl, d 3 _ rfl, d 4 _ rfl⟩
theorem DbAt.view {w : World} {q : Nat} {T : Nat → Prop} {N : Nat} {L : Tl} (h : DbAt w q T N L) : ∃ a c, w.heap[q]? = some (.cells #[.int .i64 N, .slice a L.length c] 48 (0, 0)) := by
  obtain ⟨E, v, rfl, hD⟩ := h
  obtain ⟨a, c, ev⟩ := hD.row.shape
  rw [toT_len]
  exact ⟨a, c, by rw [← ev]; exact hD.box⟩
set_option maxRecDepth 100000 in
set_option maxHeartbeats 16000000 in
theorem DrcPlays_walk (w : World) (n : Int) (hn : IsI n) (a0 : Option Addr) (m0 c0 : Nat) (l0 : List Stp) (hl0 : l0.length = m0) (hm0 : m0 ≤ maxLen) (hst : StR w a0 l0) (hc0 : m0 ≤ c0) :
    Calls Try.prog 3 #[.int .i64 n, .slice a0 m0 c0] w fun e w' => e = .returned (.bool true) ∧ Below w.heap.size w w' := by
  have HKN := hid (known18 w)
  by_cases hno : n < 1 ∨ 256 < n
  · have HN1 : Hid (∀ W, _) := hid (fun W => dNew_no W n hno)
    have HN2 : Hid (∀ W, _) := hid (fun W => tNew_no W n hno)
    clear hno hst hl0
    go_enter Try.func3, Try.ntmps3
    go_wp2_with (first
      | (go_at_call 5; refine HKN.out.mono ?_; rintro e w1 ⟨rfl, hb1⟩; have HB1 := hid hb1; clear hb1 HKN)
      | (go_at_call 6; refine (HN1.out _).mono ?_; rintro e w2 ⟨rfl, rfl⟩)
      | (go_at_call 7; refine (HN2.out _).mono ?_; rintro e w3 ⟨rfl, rfl⟩))
    go_ret
    exact ⟨rfl, HB1.out⟩
  · obtain ⟨N, rfl⟩ : ∃ N : Nat, n = N := ⟨n.toNat, by omega⟩
    have hN1 : 1 ≤ N := by omega
    have hN2 : N ≤ 256 := by omega
    have HST := hid hst
    have HL0 := hid hl0
    clear hno hst hl0 hn
    go_enter Try.func3, Try.ntmps3
    go_upto_region 3 with (go_at_call 5; refine HKN.out.mono ?_; rintro e w1 ⟨rfl, hb1⟩; have HB1 := hid hb1; clear hb1 HKN)
    have HNEW := hid (dNew_yes w1 N hN1 hN2)
    go_upto_region 4 with (go_at_call 6; refine HNEW.out.mono ?_; rintro e w2 ⟨p, S0, rfl, hT2, hb2, hS2⟩; have HT2 := hid hT2; have HB2 := hid hb2; have HS2 := hid hS2; clear hT2 hb2 hS2 HNEW)
    have HNEW2 := hid (tNew_yes w2 N hN1 hN2)
    go_upto_region 5 with (go_at_call 7; refine HNEW2.out.mono ?_; rintro e w3 ⟨q, T0, rfl, hD3, hb3, hT3⟩; have HD3 := hid hD3; have HB3 := hid hb3; have HT3 := hid hT3; clear hD3 hb3 hT3 HNEW2)
    have HP0 : Hid (PH w w3 p S0 q T0 N [] [] 0) := hid ⟨HT2.out.later HB3.out, HD3.out, fun b hs ht => by have e1 := HT2.out.lt b hs; have e2 := HT3.out b ht; omega, (HB1.out.trans (HB2.out.mono HB1.out.size)).trans (HB3.out.mono (HB1.out.trans (HB2.out.mono HB1.out.size)).size), fun b hs => Nat.le_trans HB1.out.size (HS2.out b hs), fun b ht => Nat.le_trans (HB1.out.trans (HB2.out.mono HB1.out.size)).size (HT3.out b ht)⟩
    clear HT2 HB2 HS2 HD3 HB3 HT3 HB1
    go_wp2
    go_loopw [9] (fun iv wr => ∃ i : Nat, ∃ S T L, iv = .int .i64 i ∧ i ≤ 150 ∧ Hid (PH w wr p S q T N L L i) ∧ Hid (L.length ≤ N) ∧ Hid (Sm L)) (fun iv _ => 150 - (intOfD iv).toNat)
    case atStart => exact ⟨0, S0, T0, [], rfl, by omega, HP0, hid (Nat.zero_le _), hid Sm.nil⟩
    case round =>
      obtain ⟨i, S, T, L, rfl, hi, HP, HLEN, HSM⟩ := hrel
      clear HP0
      by_cases him : i < m0
      · by_cases hi2 : i < 150
        · have hiz : (i : Int) < (m0 : Int) := by omega
          obtain ⟨hok, b0, o0, rfl, hcs⟩ := HST.out i (by rw [HL0.out]; exact him)
          obtain ⟨s, hs⟩ : ∃ s, l0.getD i default = s := ⟨_, rfl⟩
          rw [hs] at hok hcs
          clear hs
          have s0 := cell_later HP.out.bel (hcs 0 (by omega))
          have s1 := cell_later HP.out.bel (hcs 1 (by omega))
          have s2 := cell_later HP.out.bel (hcs 2 (by omega))
          have s3 := cell_later HP.out.bel (hcs 3 (by omega))
          have s4 := cell_later HP.out.bel (hcs 4 (by omega))
          have s5 := cell_later HP.out.bel (hcs 5 (by omega))
          have s6 := cell_later HP.out.bel (hcs 6 (by omega))
          have s0 : wr.cell? ⟨b0, o0 + i * 7, none⟩ = some (.int .i64 s.kd) := s0
          have s1 : wr.cell? ⟨b0, o0 + i * 7 + 1, none⟩ = some (.int .u32 s.K.ip) := s1
          have s2 : wr.cell? ⟨b0, o0 + i * 7 + 2, none⟩ = some (.int .i64 s.K.port) := s2
          have s3 : wr.cell? ⟨b0, o0 + i * 7 + 3, none⟩ = some (.int .u32 s.K.xid) := s3
          have s4 : wr.cell? ⟨b0, o0 + i * 7 + 4, none⟩ = some (.int .u32 s.K.proc) := s4
          have s5 : wr.cell? ⟨b0, o0 + i * 7 + 5, none⟩ = some (.int .u32 s.K.sum) := s5
          have s6 : wr.cell? ⟨b0, o0 + i * 7 + 6, none⟩ = some (.slice s.a s.n s.c) := s6
          obtain ⟨W4, W5, g10, hg10, hW4, h40, hW5, h51, hb5⟩ := box_st wr s
          have H40 := hid h40
          have HZ4 := hW4.symm
          have HPX := hid (HP.out.later hb5)
          have HBX : Hid (BX W5 S T g10 (stC s) 36) := hid ⟨h51, fun e => by have := HP.out.t.lt g10 e; omega, fun e => by have := HP.out.d.lt g10 e; omega⟩
          have HOK := hid hok
          have HNEQ : Hid (wr.heap.size ≤ g10) := hid (Nat.le_of_eq hg10)
          clear hok hcs h40 h51 hb5 hW4 HP
          have HP := HPX
          clear HPX
          go_upto_region 13 with (refine wpList_store_row rfl 36 _ _ rfl g10 (stC s) rfl rfl 36 _ H40.out sizeSt rfl (stOne s) ?_; rw [← hW5]; clear hW5)
          have f0 : W5.cell? ⟨g10, 0, none⟩ = some (.int .i64 s.kd) := cell_of HBX.out.1 rfl
          have f1 : W5.cell? ⟨g10, 1, none⟩ = some (.int .u32 s.K.ip) := cell_of HBX.out.1 rfl
          have f2 : W5.cell? ⟨g10, 2, none⟩ = some (.int .i64 s.K.port) := cell_of HBX.out.1 rfl
          have f3 : W5.cell? ⟨g10, 3, none⟩ = some (.int .u32 s.K.xid) := cell_of HBX.out.1 rfl
          have f4 : W5.cell? ⟨g10, 4, none⟩ = some (.int .u32 s.K.proc) := cell_of HBX.out.1 rfl
          have f5 : W5.cell? ⟨g10, 5, none⟩ = some (.int .u32 s.K.sum) := cell_of HBX.out.1 rfl
          have f6 : W5.cell? ⟨g10, 6, none⟩ = some (.slice s.a s.n s.c) := cell_of HBX.out.1 rfl
          clear s0 s1 s2 s3 s4 s5 s6 H40 HZ4
          by_cases hlong : 3000 < s.n
          · have hlz : (3000 : Int) < (s.n : Int) := by omega
            have HPE : Hid (PH w W5 p S q T N L L (i + 1)) := hid ⟨HP.out.t.mono (Nat.le_succ _), HP.out.d, HP.out.dis, HP.out.bel, HP.out.s0, HP.out.t0⟩
            clear HP
            go_wp2
            go_roundw
            case rel => exact ⟨i + 1, S, T, L, by go_num, by omega, HPE, HLEN, HSM⟩
            case measure => simp [intOfD]; omega
          · have hlz : ¬ (3000 : Int) < (s.n : Int) := by omega
            by_cases hkd : s.kd = 1
            · have HBG := hid (Begin_any W5 p S N L i HP.out.t s.K HOK.out.K (by omega) (by omega) HLEN.out (by omega) (fun l h => HSM.out.got _ l h))
              obtain ⟨rn, hrn⟩ : ∃ r, (beR L s.K).length = r := ⟨_, rfl⟩
              have hrn3 : rn ≤ 3000 := by rw [← hrn]; exact beR_len HSM.out _
              obtain ⟨bc, hbc⟩ : ∃ r, beC N L s.K = r := ⟨_, rfl⟩
              obtain ⟨L', hL'⟩ : ∃ r, beL N L s.K = r := ⟨_, rfl⟩
              have HBG2 : Hid (Calls Try.prog 8 #[.pointer (some ⟨p, 0, none⟩), kV s.K] W5 fun e w' => ∃ a c S', e = .returned (.tuple #[.int .i64 bc, .slice a rn c]) ∧ RW w' 5 1 (.slice a rn c) rn (u8s (beR L s.K)) ∧ (∀ b, blkV (.slice a rn c) = some b → W5.heap.size ≤ b ∧ ¬ S' b) ∧ Bytes w' a (beR L s.K) ∧ TbAt w' p S' N L' (i + 1) ∧ Kp S W5 S' w') := hid (HBG.out.mono (fun e w' h => by
                obtain ⟨a, c, S', rfl, hy, hrw, h1, h2⟩ := h
                rw [hL'] at h1
                rw [hrn] at hrw
                exact ⟨a, c, S', by rw [hbc, hrn], hrw.1, hrw.2, hy.bytes, h1, h2⟩))
              have HLEN2 : Hid (L'.length ≤ N) := hid (by rw [← hL']; exact beL_len HLEN.out (by omega) _)
              have HSM2 : Hid (Sm L') := hid (by rw [← hL']; exact HSM.out.be _)
              go_upto_region 16 with (go_at_call 8; refine HBG2.out.mono ?_; rintro e w6 ⟨a6, c6, S6, rfl, hr6, ho6, hy6, hT6, hK6⟩; have HP6 := hid (HP.out.prog hT6 hK6); have HBX6 := hid (HBX.out.prog hK6); have HY6 := hid hy6; have HF6 : Hid (FR w w6 S6 T (.slice a6 rn c6) rn (beR L s.K)) := hid ⟨hr6, fun b hb => ⟨Nat.le_trans HP.out.bel.size (ho6 b hb).1, (ho6 b hb).2, fun ht => by have e1 := HP.out.d.lt b ht; have e2 := (ho6 b hb).1; omega⟩⟩; clear hr6 ho6 hy6 hT6 hK6 HBG HBG2)
              have j1 : w6.cell? ⟨g10, 1, none⟩ = some (.int .u32 s.K.ip) := cell_of HBX6.out.1 rfl
              have j2 : w6.cell? ⟨g10, 2, none⟩ = some (.int .i64 s.K.port) := cell_of HBX6.out.1 rfl
              have j3 : w6.cell? ⟨g10, 3, none⟩ = some (.int .u32 s.K.xid) := cell_of HBX6.out.1 rfl
              have j4 : w6.cell? ⟨g10, 4, none⟩ = some (.int .u32 s.K.proc) := cell_of HBX6.out.1 rfl
              have j5 : w6.cell? ⟨g10, 5, none⟩ = some (.int .u32 s.K.sum) := cell_of HBX6.out.1 rfl
              have HTH := hid (theirs_any w6 s.K)
              have HDB : Hid (∀ W, Below w6.heap.size w6 W → Calls Try.prog 9 #[.pointer (some ⟨q, 0, none⟩), kV s.K] W fun e w' => ∃ a c T', e = .returned (.tuple #[.int .i64 bc, .slice a rn c]) ∧ Bytes w' a (beR L s.K) ∧ DbAt w' q T' N L' ∧ Kp T W T' w') := hid (fun W hW => (dBegin_any W q T N L (HP6.out.d.later hW) s.K (by have := HLEN.out; omega) (fun l h => HSM.out.got _ l h)).mono (fun e w' h => by
                obtain ⟨a, c, T', rfl, hy, h1, h2⟩ := h
                rw [hL'] at h1
                exact ⟨a, c, T', by rw [hbc, hrn], hy, h1, h2⟩))
              clear f0 f1 f2 f3 f4 f5 f6 HP HBX hbc hL'
              go_upto_region 17 with (first
                | (go_at_call 10; refine HTH.out.mono ?_; rintro e w7 ⟨rfl, hb7⟩; have HDB7 := hid (HDB.out w7 hb7); have HP7 := hid (HP6.out.later hb7); have HF7 := hid (HF6.out.later hb7); clear hb7 HTH)
                | (go_at_call 9; refine HDB7.out.mono ?_; rintro e w8 ⟨a8, c8, T8, rfl, hy8, hD8, hK8⟩; have HP8 := hid (HP7.out.doc hD8 hK8); have HF8 := hid (HF7.out.doc hK8); have HY8 := hid hy8; clear hy8 hD8 hK8 HDB7))
              have HIB := hid HY6.out.isB
              have ca := conv0 (cap := c6) (HF8.out.row.bytes HIB.out) hrn
              have cb := conv0 (cap := c8) HY8.out hrn
              clear j1 j2 j3 j4 j5 HP6 HBX6 HF6 HP7 HF7 HDB HY6 HY8 HLEN HSM
              have HP := HP8
              have HFR := HF8
              have HLEN := HLEN2
              have HSM := HSM2
              clear HP8 HF8 HLEN2 HSM2 hrn
              go_wp2
              clear ca cb
              go_loopw [15] (fun kv wr => ∃ k : Nat, ∃ l', kv = .int .i64 k ∧ k ≤ rn ∧ Hid (FR w wr S6 T8 (.slice a6 rn c6) rn l') ∧ Hid (Mods (fun x => blkV (.slice a6 rn c6) = some x) w8 wr)) (fun kv _ => rn - (intOfD kv).toNat)
              case atStart => exact ⟨0, _, rfl, Nat.zero_le _, HFR, hid (Mods.refl _ _)⟩
              case round =>
                obtain ⟨k, l', rfl, hk, HF, HM⟩ := hrel
                by_cases hkl : k < rn
                · have hkz : (k : Int) < (rn : Int) := by omega
                  obtain ⟨b7, o7, cur7, rfl, _, hnc7, _⟩ := HF.out.row.arr (by omega)
                  obtain ⟨pc1, pc2, pr, pm⟩ := HF.out.row.poke hkl 238
                  obtain ⟨W7, hW7⟩ : ∃ W, W = wr.setCell ⟨b7, o7 + k, none⟩ (.int .u8 238) := ⟨_, rfl⟩
                  rw [← hW7] at pr pm
                  have HF7 := hid (FR.mk pr HF.out.own)
                  have HM7 := hid (HM.out.tr (pm.weak (fun x hx => .inl (by rw [hx]; rfl))))
                  have HZ7 := hW7.symm
                  clear pr pm hW7 HF HM HFR
                  go_wp2
                  go_roundw
                  case rel => exact ⟨k + 1, _, by go_num, by omega, HF7, HM7⟩
                  case measure => simp [intOfD]; omega
                · have hkz : ¬ (k : Int) < (rn : Int) := by omega
                  have HP9 := hid (HP.out.aside HM.out HF.out.own)
                  clear HP HF HM HFR
                  have HP := HP9
                  clear HP9
                  go_upto_region 30 with fail
                  have HKW := hid (Known_any wr p S6 N L' (i + 1) HP.out.t (by have := HLEN.out; omega))
                  obtain ⟨ln, hln⟩ : ∃ m, L'.length = m := ⟨_, rfl⟩
                  have HKW2 : Hid (Calls Try.prog 13 #[.pointer (some ⟨p, 0, none⟩)] wr fun e w' => ∃ a cK, e = .returned (.slice a ln cK) ∧ RW w' 33 5 (.slice a ln cK) ln (rowT L') ∧ Below wr.heap.size wr w') := hid (HKW.out.mono (fun e w' h => by
                    obtain ⟨a, c, rfl, h2, _, h4⟩ := h
                    rw [hln] at h2 ⊢
                    exact ⟨a, c, rfl, h2, h4⟩))
                  clear HKW
                  go_upto_region 31 with (go_at_call 13; refine HKW2.out.mono ?_; rintro e w10 ⟨aK, cK, rfl, hrK, hb10⟩; have HRK := hid hrK; have HPK := hid (HP.out.later hb10); clear hrK hb10 HKW2)
                  obtain ⟨ad, cd0, hvq⟩ := HPK.out.d.view
                  rw [hln] at hvq
                  have cq1 : w10.cell? ⟨q, 1, none⟩ = some (.slice ad ln cd0) := cell_of hvq rfl
                  have HLN := hid hln
                  have hln3 : ln ≤ 256 := by have := HLEN.out; omega
                  clear hln hvq HP
                  go_wp2
                  clear cq1
                  go_loopw [19] (fun kv wr => ∃ k : Nat, kv = .int .i64 k ∧ k ≤ ln ∧ Hid (Below w10.heap.size w10 wr)) (fun kv _ => ln - (intOfD kv).toNat)
                  case atStart => exact ⟨0, rfl, Nat.zero_le _, hid (Below.refl _ _)⟩
                  case round =>
                    obtain ⟨k, rfl, hk, HBk⟩ := hrel
                    by_cases hkl : k < ln
                    · have hkz : (k : Int) < (ln : Int) := by omega
                      obtain ⟨bl, ol, curl, bd, od, cd, curd, K, rfl, hcK, hcd, hbl, hbq, hbd, g0, g1, g2, g3, g4, d0, d1, d2, d3, d4⟩ := both_at HLN.out (HRK.out.later HBk.out) (HPK.out.d.later HBk.out) hkl
                      have C0 := hid g0
                      have C1 := hid g1
                      have C2 := hid g2
                      have C3 := hid g3
                      have C4 := hid g4
                      have D0 := hid d0
                      have D1 := hid d1
                      have D2 := hid d2
                      have D3 := hid d3
                      have D4 := hid d4
                      have HS0 := hid (And.intro hbl (And.intro hbq hbd))
                      clear hbl hbq hbd g0 g1 g2 g3 g4 d0 d1 d2 d3 d4
                      go_upto_region 36 with fail
                      refine wp_region_held_drew (S := fun W => W.heap[bl]? = some (.cells curl 33 (0, 0)) ∧ W.heap[q]? = some (.cells #[.int .i64 N, .slice (some ⟨bd, od, none⟩) ln cd] 48 (0, 0)) ∧ W.heap[bd]? = some (.cells curd 50 (0, 0))) (by kernel_rfl) HS0.out (fun hS => ?_)
                      obtain ⟨X, hX⟩ : ∃ X, X = wr.drew := ⟨_, rfl⟩
                      rw [← hX] at hS ⊢
                      have HBX : Hid (Below w10.heap.size w10 X) := hid (by rw [hX]; exact HBk.out.drew)
                      clear hX
                      refine nany_take 0 141 (.slice (some ⟨bl, ol, none⟩) ln cK) rfl rfl (by kernel_rfl) (by kernel_rfl) (by kernel_rfl) (fun _ _ _ h => h) (Or.inl ⟨by rfl, ?_⟩) hS ?_
                      · rintro w' hS'
                        go_simp
                      simp only [List.setIfInBounds_toArray, List.set_cons_zero, List.set_cons_succ]
                      refine nany_take 1 142 (.int .i64 k) rfl rfl (by kernel_rfl) (by kernel_rfl) (by kernel_rfl) (fun _ _ _ h => h) (Or.inl ⟨by rfl, ?_⟩) hS ?_
                      · rintro w' hS'
                        go_simp
                      simp only [List.setIfInBounds_toArray, List.set_cons_zero, List.set_cons_succ]
                      refine nany_take 2 143 (.pointer (some ⟨bl, ol + k * 5, none⟩)) rfl rfl (by kernel_rfl) (by kernel_rfl) (by kernel_rfl) (fun _ _ _ h => h) (Or.inl ⟨by rfl, ?_⟩) hS ?_
                      · rintro w' hS'
                        go_simp
                      simp only [List.setIfInBounds_toArray, List.set_cons_zero, List.set_cons_succ]
                      refine nany_take 3 144 (kV K) rfl rfl (by kernel_rfl) (by kernel_rfl) (by kernel_rfl) (fun _ _ _ h => h) (Or.inl ⟨by rfl, ?_⟩) hS ?_
                      · rintro w' hS'
                        have k0 := cell_of hS'.1 C0.out; have k1 := cell_of hS'.1 C1.out; have k2 := cell_of hS'.1 C2.out; have k3 := cell_of hS'.1 C3.out; have k4 := cell_of hS'.1 C4.out; go_simp
                      simp only [List.setIfInBounds_toArray, List.set_cons_zero, List.set_cons_succ]
                      refine nany_take 5 146 (.pointer (some ⟨q, 0, none⟩)) rfl rfl (by kernel_rfl) (by kernel_rfl) (by kernel_rfl) (fun _ _ _ h => h) (Or.inl ⟨by rfl, ?_⟩) hS ?_
                      · rintro w' hS'
                        go_simp
                      simp only [List.setIfInBounds_toArray, List.set_cons_zero, List.set_cons_succ]
                      refine nany_take 6 147 (.pointer (some ⟨q, 0, none⟩)) rfl rfl (by kernel_rfl) (by kernel_rfl) (by kernel_rfl) (fun _ _ _ h => h) (Or.inl ⟨by rfl, ?_⟩) hS ?_
                      · rintro w' hS'
                        go_simp
                      simp only [List.setIfInBounds_toArray, List.set_cons_zero, List.set_cons_succ]
                      refine nany_take 7 148 (.pointer (some ⟨q, 1, none⟩)) rfl rfl (by kernel_rfl) (by kernel_rfl) (by kernel_rfl) (fun _ _ _ h => h) (Or.inl ⟨by rfl, ?_⟩) hS ?_
                      · rintro w' hS'
                        go_simp
                      simp only [List.setIfInBounds_toArray, List.set_cons_zero, List.set_cons_succ]
                      refine nany_take 8 149 (.slice (some ⟨bd, od, none⟩) ln cd) rfl rfl (by kernel_rfl) (by kernel_rfl) (by kernel_rfl) (fun _ _ _ h => h) (Or.inl ⟨by rfl, ?_⟩) hS ?_
                      · rintro w' hS'
                        have hc := cell_of hS'.2.1 (i := 1) (v := .slice (some ⟨bd, od, none⟩) ln cd) rfl; go_simp
                      simp only [List.setIfInBounds_toArray, List.set_cons_zero, List.set_cons_succ]
                      refine nany_take 9 150 (.int .i64 k) rfl rfl (by kernel_rfl) (by kernel_rfl) (by kernel_rfl) (fun _ _ _ h => h) (Or.inl ⟨by rfl, ?_⟩) hS ?_
                      · rintro w' hS'
                        go_simp
                      simp only [List.setIfInBounds_toArray, List.set_cons_zero, List.set_cons_succ]
                      refine nany_take 10 151 (.pointer (some ⟨bd, od + k * 7, none⟩)) rfl rfl (by kernel_rfl) (by kernel_rfl) (by kernel_rfl) (fun _ _ _ h => h) (Or.inl ⟨by rfl, ?_⟩) hS ?_
                      · rintro w' hS'
                        go_simp
                      simp only [List.setIfInBounds_toArray, List.set_cons_zero, List.set_cons_succ]
                      refine nany_take 11 152 (.pointer (some ⟨bd, od + k * 7, none⟩)) rfl rfl (by kernel_rfl) (by kernel_rfl) (by kernel_rfl) (fun _ _ _ h => h) (Or.inl ⟨by rfl, ?_⟩) hS ?_
                      · rintro w' hS'
                        go_simp
                      simp only [List.setIfInBounds_toArray, List.set_cons_zero, List.set_cons_succ]
                      refine nany_take 12 153 (kV K) rfl rfl (by kernel_rfl) (by kernel_rfl) (by kernel_rfl) (fun _ _ _ h => h) (Or.inl ⟨by rfl, ?_⟩) hS ?_
                      · rintro w' hS'
                        have k0 := cell_of hS'.2.2 D0.out; have k1 := cell_of hS'.2.2 D1.out; have k2 := cell_of hS'.2.2 D2.out; have k3 := cell_of hS'.2.2 D3.out; have k4 := cell_of hS'.2.2 D4.out; go_simp
                      simp only [List.setIfInBounds_toArray, List.set_cons_zero, List.set_cons_succ]
                      refine nany_one 4 (by kernel_rfl) ?_
                      refine nop_callE 145 (f := 10) (args := #[kV K]) (R := fun v w' => v = kV K ∧ Below X.heap.size X w') rfl (by rfl) rfl (by go_simp) ((theirs_any X K).mono (fun e w' h => by obtain ⟨rfl, h2⟩ := h; exact ⟨_, rfl, rfl, h2⟩)) ?_
                      rintro v w12 ⟨rfl, hb12⟩
                      have hS12 := And.intro ((hb12.block bl (Array.getElem?_eq_some_iff.1 hS.1).1).trans hS.1) (And.intro ((hb12.block q (Array.getElem?_eq_some_iff.1 hS.2.1).1).trans hS.2.1) ((hb12.block bd (Array.getElem?_eq_some_iff.1 hS.2.2).1).trans hS.2.2))
                      refine ⟨hS12, ?_⟩
                      simp only [List.setIfInBounds_toArray, List.set_cons_zero, List.set_cons_succ]
                      refine nany_take 13 154 (.bool false) rfl rfl (by kernel_rfl) (by kernel_rfl) (by kernel_rfl) (fun _ _ _ h => h) (Or.inl ⟨by rfl, ?_⟩) hS12 ?_
                      · rintro w' hS'
                        have hq := neqD K K w'; rw [show decide (K = K) = true by simp] at hq; go_simp
                      simp only [List.setIfInBounds_toArray, List.set_cons_zero, List.set_cons_succ]
                      refine wpAnyH_done (by kernel_rfl) ?_ _
                      have HB12 := hid (HBX.out.trans (hb12.mono HBX.out.size))
                      clear hS hS12 hb12 HBX HS0 C0 C1 C2 C3 C4 D0 D1 D2 D3 D4
                      go_wp2
                      go_roundw
                      case rel => exact ⟨k + 1, by go_num, by omega, HB12⟩
                      case measure => simp [intOfD]; omega
                    · have hkz : ¬ (k : Int) < (ln : Int) := by omega
                      have HPE := hid (HPK.out.later HBk.out)
                      clear HRK HPK HBk
                      go_wp2
                      go_roundw
                      case rel => exact ⟨i + 1, S6, T8, L', by go_num, by omega, HPE, HLEN, HSM⟩
                      case measure => simp [intOfD]; omega
            · have hkz : ¬ s.kd = 1 := hkd
              obtain ⟨rn, hrn⟩ : ∃ r, s.n = r := ⟨_, rfl⟩
              have hrn3 : rn ≤ 3000 := by omega
              rw [hrn] at f6
              have HRNN := hid hrn
              have HRL : Hid (s.r.length = rn) := hid (HOK.out.n.trans hrn)
              have HY0 := hid HOK.out.by_
              obtain ⟨a6, c6, w6, hap, hr6, hc6, hn6, hb6⟩ := twinBR W5 s.a rn s.c s.r HRL.out (by omega) (HY0.out.later HP.out.bel) 34
              have HP6 := hid (HP.out.later hb6)
              have HBX6 := hid (HBX.out.later hb6)
              have HF6 : Hid (FR w w6 S T (.slice a6 rn c6) rn s.r) := hid ⟨hr6, fun b hb => ⟨Nat.le_trans HP.out.bel.size (hn6 b hb), fun ht => by have e1 := HP.out.t.lt b ht; have e2 := hn6 b hb; omega, fun ht => by have e1 := HP.out.d.lt b ht; have e2 := hn6 b hb; omega⟩⟩
              have bal : Below W5.heap.size W5 (W5.alloc (.cells #[] 5)) := below_alloc (Below.refl _ _) (Nat.le_refl _) _
              have v6 := cell_later bal f6
              clear hr6 hc6 hn6 hb6 bal HP HBX
              go_upto_region 24 with (at_builtin; refine wpList_append_run rfl _ _ 34 rfl rfl rfl hap ?_)
              clear hap f0 f1 f2 f3 f4 f5 f6 v6
              obtain ⟨L', hL'⟩ : ∃ r, enL L s.K s.r = r := ⟨_, rfl⟩
              obtain ⟨ec, hec⟩ : ∃ r, enC L s.K = r := ⟨_, rfl⟩
              have HLEN2 : Hid (L'.length ≤ N) := hid (by rw [← hL', enL_len]; exact HLEN.out)
              have HSM2 : Hid (Sm L') := hid (by rw [← hL']; exact HSM.out.en _ _ (by rw [HRL.out]; exact hrn3))
              have HEN : Hid (∀ W, Below w6.heap.size w6 W → Calls Try.prog 11 #[.pointer (some ⟨p, 0, none⟩), kV s.K, .slice a6 rn c6] W fun e w' => ∃ S', e = .returned (.int .i64 ec) ∧ TbAt w' p S' N L' (i + 1) ∧ Kp S W S' w') := hid (fun W hW => (End_any W p S N L i (HP6.out.t.later hW) s.K HOK.out.K (by omega) a6 rn c6 s.r HRL.out (by omega) ((HF6.out.row.bytes HY0.out.isB).later hW)).mono (fun e w' h => by
                obtain ⟨S', rfl, h1, h2⟩ := h
                rw [hL'] at h1
                exact ⟨S', by rw [hec], h1, h2⟩))
              have HDE : Hid (∀ W S' M c', PH w W p S' q T N M L c' → Calls Try.prog 12 #[.pointer (some ⟨q, 0, none⟩), kV s.K, .slice s.a rn s.c] W fun e w' => ∃ T', e = .returned (.int .i64 ec) ∧ DbAt w' q T' N L' ∧ Kp T W T' w') := hid (fun W S' M c' hW => (dEnd_any W q T N L hW.d s.K (by have := HLEN.out; omega) s.a rn s.c s.r HRL.out (by omega) (HY0.out.later hW.bel) (fun x o h0 ea => fun ht => by
                obtain ⟨b2, o2, e2, hc2, _⟩ := HY0.out 0 (by rw [HRL.out]; exact h0)
                rw [ea] at e2
                simp only [Option.some.injEq, Addr.mk.injEq, and_true] at e2
                obtain ⟨rfl, rfl⟩ := e2
                have e3 := World.block_lt_of_cell? w _ hc2
                have e4 := hW.t0 x ht
                simp only at e3
                omega)).mono (fun e w' h => by
                obtain ⟨T', rfl, h1, h2⟩ := h
                rw [hL'] at h1
                exact ⟨T', by rw [hec], h1, h2⟩))
              clear hL' hec
              refine wp_region_held_drew (S := fun W => W.heap[g10]? = some (.cells (stC s) 36 (0, 0))) (by kernel_rfl) HBX6.out.1 (fun hS => ?_)
              obtain ⟨X, hX⟩ : ∃ X, X = w6.drew := ⟨_, rfl⟩
              rw [← hX] at hS ⊢
              have hb6X : Below w6.heap.size w6 X := by rw [hX]; exact (Below.refl _ _).drew
              have HPX := hid (HP6.out.later hb6X)
              have HBXX := hid (HBX6.out.later hb6X)
              have HFX := hid (HF6.out.later hb6X)
              have HENX := hid (HEN.out X hb6X)
              clear hX hb6X HEN
              refine nany_take 0 103 (.pointer (some ⟨p, 0, none⟩)) rfl rfl (by kernel_rfl) (by kernel_rfl) (by kernel_rfl) (fun _ _ _ h => h) (Or.inl ⟨by rfl, ?_⟩) hS ?_
              · rintro w' hS'
                go_simp
              simp only [List.setIfInBounds_toArray, List.set_cons_zero, List.set_cons_succ]
              refine nany_take 1 104 (.pointer (some ⟨g10, 1, none⟩)) rfl rfl (by kernel_rfl) (by kernel_rfl) (by kernel_rfl) (fun _ _ _ h => h) (Or.inl ⟨by rfl, ?_⟩) hS ?_
              · rintro w' hS'
                go_simp
              simp only [List.setIfInBounds_toArray, List.set_cons_zero, List.set_cons_succ]
              refine nany_take 2 105 (kV s.K) rfl rfl (by kernel_rfl) (by kernel_rfl) (by kernel_rfl) (fun _ _ _ h => h) (Or.inl ⟨by rfl, ?_⟩) hS ?_
              · rintro w' hS'
                have k0 := cell_of hS' (i := 1) (v := .int .u32 s.K.ip) rfl; have k1 := cell_of hS' (i := 2) (v := .int .i64 s.K.port) rfl; have k2 := cell_of hS' (i := 3) (v := .int .u32 s.K.xid) rfl; have k3 := cell_of hS' (i := 4) (v := .int .u32 s.K.proc) rfl; have k4 := cell_of hS' (i := 5) (v := .int .u32 s.K.sum) rfl; go_simp
              simp only [List.setIfInBounds_toArray, List.set_cons_zero, List.set_cons_succ]
              refine nany_take 3 106 (.slice a6 rn c6) rfl rfl (by kernel_rfl) (by kernel_rfl) (by kernel_rfl) (fun _ _ _ h => h) (Or.inl ⟨by rfl, ?_⟩) hS ?_
              · rintro w' hS'
                go_simp
              simp only [List.setIfInBounds_toArray, List.set_cons_zero, List.set_cons_succ]
              refine nany_take 5 108 (.pointer (some ⟨q, 0, none⟩)) rfl rfl (by kernel_rfl) (by kernel_rfl) (by kernel_rfl) (fun _ _ _ h => h) (Or.inl ⟨by rfl, ?_⟩) hS ?_
              · rintro w' hS'
                go_simp
              simp only [List.setIfInBounds_toArray, List.set_cons_zero, List.set_cons_succ]
              refine nany_take 6 109 (.pointer (some ⟨g10, 1, none⟩)) rfl rfl (by kernel_rfl) (by kernel_rfl) (by kernel_rfl) (fun _ _ _ h => h) (Or.inl ⟨by rfl, ?_⟩) hS ?_
              · rintro w' hS'
                go_simp
              simp only [List.setIfInBounds_toArray, List.set_cons_zero, List.set_cons_succ]
              refine nany_take 7 110 (kV s.K) rfl rfl (by kernel_rfl) (by kernel_rfl) (by kernel_rfl) (fun _ _ _ h => h) (Or.inl ⟨by rfl, ?_⟩) hS ?_
              · rintro w' hS'
                have k0 := cell_of hS' (i := 1) (v := .int .u32 s.K.ip) rfl; have k1 := cell_of hS' (i := 2) (v := .int .i64 s.K.port) rfl; have k2 := cell_of hS' (i := 3) (v := .int .u32 s.K.xid) rfl; have k3 := cell_of hS' (i := 4) (v := .int .u32 s.K.proc) rfl; have k4 := cell_of hS' (i := 5) (v := .int .u32 s.K.sum) rfl; go_simp
              simp only [List.setIfInBounds_toArray, List.set_cons_zero, List.set_cons_succ]
              refine nany_take 9 112 (.pointer (some ⟨g10, 6, none⟩)) rfl rfl (by kernel_rfl) (by kernel_rfl) (by kernel_rfl) (fun _ _ _ h => h) (Or.inl ⟨by rfl, ?_⟩) hS ?_
              · rintro w' hS'
                go_simp
              simp only [List.setIfInBounds_toArray, List.set_cons_zero, List.set_cons_succ]
              refine nany_take 10 113 (.slice s.a rn s.c) rfl rfl (by kernel_rfl) (by kernel_rfl) (by kernel_rfl) (fun _ _ _ h => h) (Or.inl ⟨by rfl, ?_⟩) hS ?_
              · rintro w' hS'
                have hc := cell_of hS' (i := 6) (v := .slice s.a s.n s.c) rfl; rw [HRNN.out] at hc; go_simp
              simp only [List.setIfInBounds_toArray, List.set_cons_zero, List.set_cons_succ]
              refine nany_one 4 (by kernel_rfl) ?_
              refine nop_callE 107 (f := 11) (args := #[.pointer (some ⟨p, 0, none⟩), kV s.K, .slice a6 rn c6]) (R := fun v w' => v = .int .i64 ec ∧ ∃ S', TbAt w' p S' N L' (i + 1) ∧ Kp S X S' w') rfl (by rfl) rfl (by go_simp) (HENX.out.mono (fun e w' h => by obtain ⟨S', rfl, h1, h2⟩ := h; exact ⟨_, rfl, rfl, S', h1, h2⟩)) ?_
              rintro v w7 ⟨rfl, S7, hT7, hK7⟩
              have HP7 := hid (HPX.out.prog hT7 hK7)
              have HBX7 := hid (HBXX.out.prog hK7)
              have HF7 := hid (HFX.out.prog hK7)
              clear hT7 hK7
              refine ⟨HBX7.out.1, ?_⟩
              simp only [List.setIfInBounds_toArray, List.set_cons_zero, List.set_cons_succ]
              refine nany_one 8 (by kernel_rfl) ?_
              refine nop_callE 111 (f := 10) (args := #[kV s.K]) (R := fun v w' => v = kV s.K ∧ Below w7.heap.size w7 w') rfl (by rfl) rfl (by go_simp) ((theirs_any w7 s.K).mono (fun e w' h => by obtain ⟨rfl, h2⟩ := h; exact ⟨_, rfl, rfl, h2⟩)) ?_
              rintro v w8 ⟨rfl, hb8⟩
              have HP8 := hid (HP7.out.later hb8)
              have HBX8 := hid (HBX7.out.later hb8)
              have HF8 := hid (HF7.out.later hb8)
              clear hb8
              refine ⟨HBX8.out.1, ?_⟩
              simp only [List.setIfInBounds_toArray, List.set_cons_zero, List.set_cons_succ]
              refine nany_one 11 (by kernel_rfl) ?_
              refine nop_callE 114 (f := 12) (args := #[.pointer (some ⟨q, 0, none⟩), kV s.K, .slice s.a rn s.c]) (R := fun v w' => v = .int .i64 ec ∧ ∃ T', DbAt w' q T' N L' ∧ Kp T w8 T' w') rfl (by rfl) rfl (by go_simp) ((HDE.out w8 S7 L' (i + 1) HP8.out).mono (fun e w' h => by obtain ⟨T', rfl, h1, h2⟩ := h; exact ⟨_, rfl, rfl, T', h1, h2⟩)) ?_
              rintro v w9 ⟨rfl, T9, hD9, hK9⟩
              have HP9 := hid (HP8.out.doc hD9 hK9)
              have HBX9 := hid (HBX8.out.doc hK9)
              have HF9 := hid (HF8.out.doc hK9)
              clear hD9 hK9
              refine ⟨HBX9.out.1, ?_⟩
              simp only [List.setIfInBounds_toArray, List.set_cons_zero, List.set_cons_succ]
              refine nany_take 12 115 (.bool false) rfl rfl (by kernel_rfl) (by kernel_rfl) (by kernel_rfl) (fun _ _ _ h => h) (Or.inl ⟨by rfl, ?_⟩) HBX9.out.1 ?_
              · rintro w' hS'
                go_simp
              simp only [List.setIfInBounds_toArray, List.set_cons_zero, List.set_cons_succ]
              refine wpAnyH_done (by kernel_rfl) ?_ _
              clear hS HP6 HBX6 HF6 HPX HBXX HFX HENX HP7 HBX7 HF7 HP8 HBX8 HF8 HBX9 HDE HLEN HSM HRNN
              have HP := HP9
              have HFR := HF9
              have HLEN := HLEN2
              have HSM := HSM2
              clear HP9 HF9 HLEN2 HSM2
              go_wp2
              go_loopw [17] (fun kv wr => ∃ k : Nat, ∃ l', kv = .int .i64 k ∧ k ≤ rn ∧ Hid (FR w wr S7 T9 (.slice a6 rn c6) rn l') ∧ Hid (Mods (fun x => blkV (.slice a6 rn c6) = some x) w9 wr)) (fun kv _ => rn - (intOfD kv).toNat)
              case atStart => exact ⟨0, _, rfl, Nat.zero_le _, HFR, hid (Mods.refl _ _)⟩
              case round =>
                obtain ⟨k, l', rfl, hk, HF, HM⟩ := hrel
                by_cases hkl : k < rn
                · have hkz : (k : Int) < (rn : Int) := by omega
                  obtain ⟨b7, o7, cur7, rfl, _, hnc7, _⟩ := HF.out.row.arr (by omega)
                  obtain ⟨pc1, pc2, pr, pm⟩ := HF.out.row.poke hkl 238
                  obtain ⟨W7, hW7⟩ : ∃ W, W = wr.setCell ⟨b7, o7 + k, none⟩ (.int .u8 238) := ⟨_, rfl⟩
                  rw [← hW7] at pr pm
                  have HF7 := hid (FR.mk pr HF.out.own)
                  have HM7 := hid (HM.out.tr (pm.weak (fun x hx => .inl (by rw [hx]; rfl))))
                  have HZ7 := hW7.symm
                  clear pr pm hW7 HF HM HFR
                  go_wp2
                  go_roundw
                  case rel => exact ⟨k + 1, _, by go_num, by omega, HF7, HM7⟩
                  case measure => simp [intOfD]; omega
                · have hkz : ¬ (k : Int) < (rn : Int) := by omega
                  have HP9 := hid (HP.out.aside HM.out HF.out.own)
                  clear HP HF HM HFR
                  have HP := HP9
                  clear HP9
                  go_upto_region 30 with fail
                  have HKW := hid (Known_any wr p S7 N L' (i + 1) HP.out.t (by have := HLEN.out; omega))
                  obtain ⟨ln, hln⟩ : ∃ m, L'.length = m := ⟨_, rfl⟩
                  have HKW2 : Hid (Calls Try.prog 13 #[.pointer (some ⟨p, 0, none⟩)] wr fun e w' => ∃ a cK, e = .returned (.slice a ln cK) ∧ RW w' 33 5 (.slice a ln cK) ln (rowT L') ∧ Below wr.heap.size wr w') := hid (HKW.out.mono (fun e w' h => by
                    obtain ⟨a, c, rfl, h2, _, h4⟩ := h
                    rw [hln] at h2 ⊢
                    exact ⟨a, c, rfl, h2, h4⟩))
                  clear HKW
                  go_upto_region 31 with (go_at_call 13; refine HKW2.out.mono ?_; rintro e w10 ⟨aK, cK, rfl, hrK, hb10⟩; have HRK := hid hrK; have HPK := hid (HP.out.later hb10); clear hrK hb10 HKW2)
                  obtain ⟨ad, cd0, hvq⟩ := HPK.out.d.view
                  rw [hln] at hvq
                  have cq1 : w10.cell? ⟨q, 1, none⟩ = some (.slice ad ln cd0) := cell_of hvq rfl
                  have HLN := hid hln
                  have hln3 : ln ≤ 256 := by have := HLEN.out; omega
                  clear hln hvq HP
                  go_wp2
                  clear cq1
                  go_loopw [19] (fun kv wr => ∃ k : Nat, kv = .int .i64 k ∧ k ≤ ln ∧ Hid (Below w10.heap.size w10 wr)) (fun kv _ => ln - (intOfD kv).toNat)
                  case atStart => exact ⟨0, rfl, Nat.zero_le _, hid (Below.refl _ _)⟩
                  case round =>
                    obtain ⟨k, rfl, hk, HBk⟩ := hrel
                    by_cases hkl : k < ln
                    · have hkz : (k : Int) < (ln : Int) := by omega
                      obtain ⟨bl, ol, curl, bd, od, cd, curd, K, rfl, hcK, hcd, hbl, hbq, hbd, g0, g1, g2, g3, g4, d0, d1, d2, d3, d4⟩ := both_at HLN.out (HRK.out.later HBk.out) (HPK.out.d.later HBk.out) hkl
                      have C0 := hid g0
                      have C1 := hid g1
                      have C2 := hid g2
                      have C3 := hid g3
                      have C4 := hid g4
                      have D0 := hid d0
                      have D1 := hid d1
                      have D2 := hid d2
                      have D3 := hid d3
                      have D4 := hid d4
                      have HS0 := hid (And.intro hbl (And.intro hbq hbd))
                      clear hbl hbq hbd g0 g1 g2 g3 g4 d0 d1 d2 d3 d4
                      go_upto_region 36 with fail
                      refine wp_region_held_drew (S := fun W => W.heap[bl]? = some (.cells curl 33 (0, 0)) ∧ W.heap[q]? = some (.cells #[.int .i64 N, .slice (some ⟨bd, od, none⟩) ln cd] 48 (0, 0)) ∧ W.heap[bd]? = some (.cells curd 50 (0, 0))) (by kernel_rfl) HS0.out (fun hS => ?_)
                      obtain ⟨X, hX⟩ : ∃ X, X = wr.drew := ⟨_, rfl⟩
                      rw [← hX] at hS ⊢
                      have HBX : Hid (Below w10.heap.size w10 X) := hid (by rw [hX]; exact HBk.out.drew)
                      clear hX
                      refine nany_take 0 141 (.slice (some ⟨bl, ol, none⟩) ln cK) rfl rfl (by kernel_rfl) (by kernel_rfl) (by kernel_rfl) (fun _ _ _ h => h) (Or.inl ⟨by rfl, ?_⟩) hS ?_
                      · rintro w' hS'
                        go_simp
                      simp only [List.setIfInBounds_toArray, List.set_cons_zero, List.set_cons_succ]
                      refine nany_take 1 142 (.int .i64 k) rfl rfl (by kernel_rfl) (by kernel_rfl) (by kernel_rfl) (fun _ _ _ h => h) (Or.inl ⟨by rfl, ?_⟩) hS ?_
                      · rintro w' hS'
                        go_simp
                      simp only [List.setIfInBounds_toArray, List.set_cons_zero, List.set_cons_succ]
                      refine nany_take 2 143 (.pointer (some ⟨bl, ol + k * 5, none⟩)) rfl rfl (by kernel_rfl) (by kernel_rfl) (by kernel_rfl) (fun _ _ _ h => h) (Or.inl ⟨by rfl, ?_⟩) hS ?_
                      · rintro w' hS'
                        go_simp
                      simp only [List.setIfInBounds_toArray, List.set_cons_zero, List.set_cons_succ]
                      refine nany_take 3 144 (kV K) rfl rfl (by kernel_rfl) (by kernel_rfl) (by kernel_rfl) (fun _ _ _ h => h) (Or.inl ⟨by rfl, ?_⟩) hS ?_
                      · rintro w' hS'
                        have k0 := cell_of hS'.1 C0.out; have k1 := cell_of hS'.1 C1.out; have k2 := cell_of hS'.1 C2.out; have k3 := cell_of hS'.1 C3.out; have k4 := cell_of hS'.1 C4.out; go_simp
                      simp only [List.setIfInBounds_toArray, List.set_cons_zero, List.set_cons_succ]
                      refine nany_take 5 146 (.pointer (some ⟨q, 0, none⟩)) rfl rfl (by kernel_rfl) (by kernel_rfl) (by kernel_rfl) (fun _ _ _ h => h) (Or.inl ⟨by rfl, ?_⟩) hS ?_
                      · rintro w' hS'
                        go_simp
                      simp only [List.setIfInBounds_toArray, List.set_cons_zero, List.set_cons_succ]
                      refine nany_take 6 147 (.pointer (some ⟨q, 0, none⟩)) rfl rfl (by kernel_rfl) (by kernel_rfl) (by kernel_rfl) (fun _ _ _ h => h) (Or.inl ⟨by rfl, ?_⟩) hS ?_
                      · rintro w' hS'
                        go_simp
                      simp only [List.setIfInBounds_toArray, List.set_cons_zero, List.set_cons_succ]
                      refine nany_take 7 148 (.pointer (some ⟨q, 1, none⟩)) rfl rfl (by kernel_rfl) (by kernel_rfl) (by kernel_rfl) (fun _ _ _ h => h) (Or.inl ⟨by rfl, ?_⟩) hS ?_
                      · rintro w' hS'
                        go_simp
                      simp only [List.setIfInBounds_toArray, List.set_cons_zero, List.set_cons_succ]
                      refine nany_take 8 149 (.slice (some ⟨bd, od, none⟩) ln cd) rfl rfl (by kernel_rfl) (by kernel_rfl) (by kernel_rfl) (fun _ _ _ h => h) (Or.inl ⟨by rfl, ?_⟩) hS ?_
                      · rintro w' hS'
                        have hc := cell_of hS'.2.1 (i := 1) (v := .slice (some ⟨bd, od, none⟩) ln cd) rfl; go_simp
                      simp only [List.setIfInBounds_toArray, List.set_cons_zero, List.set_cons_succ]
                      refine nany_take 9 150 (.int .i64 k) rfl rfl (by kernel_rfl) (by kernel_rfl) (by kernel_rfl) (fun _ _ _ h => h) (Or.inl ⟨by rfl, ?_⟩) hS ?_
                      · rintro w' hS'
                        go_simp
                      simp only [List.setIfInBounds_toArray, List.set_cons_zero, List.set_cons_succ]
                      refine nany_take 10 151 (.pointer (some ⟨bd, od + k * 7, none⟩)) rfl rfl (by kernel_rfl) (by kernel_rfl) (by kernel_rfl) (fun _ _ _ h => h) (Or.inl ⟨by rfl, ?_⟩) hS ?_
                      · rintro w' hS'
                        go_simp
                      simp only [List.setIfInBounds_toArray, List.set_cons_zero, List.set_cons_succ]
                      refine nany_take 11 152 (.pointer (some ⟨bd, od + k * 7, none⟩)) rfl rfl (by kernel_rfl) (by kernel_rfl) (by kernel_rfl) (fun _ _ _ h => h) (Or.inl ⟨by rfl, ?_⟩) hS ?_
                      · rintro w' hS'
                        go_simp
                      simp only [List.setIfInBounds_toArray, List.set_cons_zero, List.set_cons_succ]
                      refine nany_take 12 153 (kV K) rfl rfl (by kernel_rfl) (by kernel_rfl) (by kernel_rfl) (fun _ _ _ h => h) (Or.inl ⟨by rfl, ?_⟩) hS ?_
                      · rintro w' hS'
                        have k0 := cell_of hS'.2.2 D0.out; have k1 := cell_of hS'.2.2 D1.out; have k2 := cell_of hS'.2.2 D2.out; have k3 := cell_of hS'.2.2 D3.out; have k4 := cell_of hS'.2.2 D4.out; go_simp
                      simp only [List.setIfInBounds_toArray, List.set_cons_zero, List.set_cons_succ]
                      refine nany_one 4 (by kernel_rfl) ?_
                      refine nop_callE 145 (f := 10) (args := #[kV K]) (R := fun v w' => v = kV K ∧ Below X.heap.size X w') rfl (by rfl) rfl (by go_simp) ((theirs_any X K).mono (fun e w' h => by obtain ⟨rfl, h2⟩ := h; exact ⟨_, rfl, rfl, h2⟩)) ?_
                      rintro v w12 ⟨rfl, hb12⟩
                      have hS12 := And.intro ((hb12.block bl (Array.getElem?_eq_some_iff.1 hS.1).1).trans hS.1) (And.intro ((hb12.block q (Array.getElem?_eq_some_iff.1 hS.2.1).1).trans hS.2.1) ((hb12.block bd (Array.getElem?_eq_some_iff.1 hS.2.2).1).trans hS.2.2))
                      refine ⟨hS12, ?_⟩
                      simp only [List.setIfInBounds_toArray, List.set_cons_zero, List.set_cons_succ]
                      refine nany_take 13 154 (.bool false) rfl rfl (by kernel_rfl) (by kernel_rfl) (by kernel_rfl) (fun _ _ _ h => h) (Or.inl ⟨by rfl, ?_⟩) hS12 ?_
                      · rintro w' hS'
                        have hq := neqD K K w'; rw [show decide (K = K) = true by simp] at hq; go_simp
                      simp only [List.setIfInBounds_toArray, List.set_cons_zero, List.set_cons_succ]
                      refine wpAnyH_done (by kernel_rfl) ?_ _
                      have HB12 := hid (HBX.out.trans (hb12.mono HBX.out.size))
                      clear hS hS12 hb12 HBX HS0 C0 C1 C2 C3 C4 D0 D1 D2 D3 D4
                      go_wp2
                      go_roundw
                      case rel => exact ⟨k + 1, by go_num, by omega, HB12⟩
                      case measure => simp [intOfD]; omega
                    · have hkz : ¬ (k : Int) < (ln : Int) := by omega
                      have HPE := hid (HPK.out.later HBk.out)
                      clear HRK HPK HBk
                      go_wp2
                      go_roundw
                      case rel => exact ⟨i + 1, S7, T9, L', by go_num, by omega, HPE, HLEN, HSM⟩
                      case measure => simp [intOfD]; omega
        · have hiz : (i : Int) < (m0 : Int) := by omega
          have hiz2 : ¬ (i : Int) < 150 := by omega
          have HBE := hid HP.out.bel
          clear HP
          go_wp2
          go_ret
          exact ⟨rfl, HBE.out⟩
      · have hiz : ¬ (i : Int) < (m0 : Int) := by omega
        have HBE := hid HP.out.bel
        clear HP
        go_wp2
        go_ret
        exact ⟨rfl, HBE.out⟩
end Go.Proofs.Ythgmghfegaemkaa
