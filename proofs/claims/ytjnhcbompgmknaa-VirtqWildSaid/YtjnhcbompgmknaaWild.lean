/- VirtqWild: in memory of any bytes both sides answer every call, and write nothing outside of their queue. -/
import Derived.Test.YtjnhcbompgmknaaWildA
import Derived.Test.YtjnhcbompgmknaaRound
namespace Go.Proofs.Ytjnhcbompgmknaa
open Go.RowKit

set_option maxRecDepth 100000 in
set_option maxHeartbeats 4000000 in
theorem wild_any (w : World) (a : Option Addr) (cap : Nat) (l : List Int) (b x t : Int) (hB : Bytes w a l) (hl : l.length ≤ maxLen) (hnil : a = none → cap = 0) :
    Calls Try.prog 6 #[.slice a l.length cap, .int .i64 b, .int .i64 x, .int .i64 t] w fun e w' => e = .returned (.bool true) ∧ Below w.heap.size w w' := by
  unfold maxLen at hl
  by_cases hbig : 8000 < l.length
  · have hb2 : (8000 : Int) < (l.length : Int) := by omega
    generalize l.length = len at *
    clear hB
    go_enter Try.func6, Try.ntmps6
    go_wp2_with (go_at_call 7; refine (known_any w).mono ?_; rintro e w1 ⟨rfl, hb1⟩; have HB1 := hid hb1; clear hb1)
    go_ret
    exact ⟨rfl, HB1.out⟩
  · have hb2 : ¬ ((8000 : Int) < (l.length : Int)) := by omega
    have hk := wi_bd x 5 (by omega)
    have hbb := wi_bd b 40 (by omega)
    have ht := wi_bd t 100 (by omega)
    generalize hkk : wi x 5 = k at *
    generalize hbk : wi b 40 = bi at *
    generalize htk : wi t 100 = T at *
    obtain ⟨bs, rfl⟩ := Int.eq_ofNat_of_zero_le hbb.1
    have HK := hid hkk
    have HBK := hid hbk
    have HTK := hid htk
    clear hkk hbk htk
    obtain ⟨n, hsh, hp, n1, n2⟩ := sh_pow k hk.1 (by omega)
    have HP := hid hp
    have HBy := hid hB
    have HNL := hid hnil
    obtain ⟨len, hlen⟩ : ∃ len, l.length = len := ⟨_, rfl⟩
    have HL := hid hlen
    rw [hlen] at hl hbig hb2 ⊢
    clear hp hB hnil hlen
    have e1 : IntKind.i64.wrap ((bs : Int) + (8 + 26 * (n : Int))) = (bs : Int) + (8 + 26 * n) := IntWalk.i64_in _ (by omega)
    have e2 : IntKind.i64.wrap ((bs : Int) + (8 + 26 * (n : Int)) + 16) = (bs : Int) + (8 + 26 * n) + 16 := IntWalk.i64_in _ (by omega)
    go_enter Try.func6, Try.ntmps6
    go_wp2_with (go_at_call 7; refine (known_any w).mono ?_; rintro e w1 ⟨rfl, hb1⟩; have HB1 := hid hb1; clear hb1)
    refine (within_any x 5 (by omega) (by omega) w1).mono ?_
    rintro e w2 ⟨rfl, hw2⟩
    rw [hw2, HK.out]
    clear hw2 w2
    go_wp2_with fail
    refine (within_any b 40 (by omega) (by omega) w1).mono ?_
    rintro e w2 ⟨rfl, hw2⟩
    rw [hw2, HBK.out]
    clear hw2 w2
    go_wp2_with (at_builtin; refine wpList_append_bytes rfl (.tmp 28) (.tmp 29) rfl w1.heap.size _ [] l rfl (own_empty w1) a cap (by rw [HL.out]; rfl) ((HBy.out.later HB1.out).later ((Below.refl _ _).alloc (Nat.le_refl _) _)) HNL.out (by rw [HL.out]; simp; omega) (by simp) w1.heap.size w1 (Nat.le_refl _) ((Below.refl _ _).alloc (Nat.le_refl _) _) ?_; intro v2 w2 hown2 hb2')
    have hlB : ∀ y ∈ l, IsB y := HBy.out.isB
    have HLB := hid hlB
    clear hlB
    go_loopw [9] (fun v wr => ∃ l' : List Int, Own wr w1.heap.size v l' ∧ Below w1.heap.size w1 wr ∧ l'.length ≤ 8000 ∧ ∀ y ∈ l', IsB y) (fun v _ => bs + (8 + 26 * n) + 16 - lenOf v)
    case atStart => exact ⟨l, by simpa using hown2.out, hb2'.out, by rw [HL.out]; omega, HLB.out⟩
    case round =>
      obtain ⟨l1, ho1, hb1, hl1, hB1⟩ := hrel
      have HO1 := hid ho1
      have HBL1 := hid hb1
      have HIB1 := hid hB1
      obtain ⟨va, vc, hv⟩ := ho1.shape
      subst hv
      obtain ⟨len1, hlen1⟩ : ∃ len1, l1.length = len1 := ⟨_, rfl⟩
      have HL1 := hid hlen1
      rw [hlen1] at hl1 HO1 ⊢
      clear ho1 hb1 hB1 hlen1 hown2 hb2'
      have hszw := HBL1.out.size
      by_cases hlt : len1 < bs + (8 + 26 * n) + 16
      · have hlt' : (len1 : Int) < (bs : Int) + (8 + 26 * (n : Int)) + 16 := by omega
        go_wp2_with (first
          | (go_at_call 8; refine (Size_yes wr n HP.out).mono ?_; rintro e w3 ⟨rfl, hw3⟩; rw [hw3]; clear hw3 w3)
          | (at_builtin; refine wpList_append_bytes rfl (.tmp 39) (.tmp 40) rfl w1.heap.size _ l1 [165] rfl (HO1.out.below ((Below.refl _ _).alloc (Nat.le_refl _) _)) (some ⟨wr.heap.size, 0, none⟩) 1 rfl (bytes_one wr 165 ⟨by omega, by omega⟩) (fun e => by cases e) (by rw [HL1.out]; simp; omega) (by simp; omega) w1.heap.size w1 (Nat.le_refl _) (HBL1.out.alloc hszw _) ?_; intro v3 w3 hown3 hb3))
        go_roundw
        case rel => exact ⟨l1 ++ [165], hown3.out, hb3.out, by rw [List.length_append, HL1.out]; simp; omega, fun y hy => by
            rw [List.mem_append] at hy
            rcases hy with hy | hy
            · exact HIB1.out y hy
            · simp at hy; subst hy; unfold IsB; omega⟩
        case measure =>
          obtain ⟨va3, vc3, hv3⟩ := hown3.out.shape
          subst hv3
          simp only [lenOf, List.length_append, HL1.out, List.length_cons, List.length_nil]
          omega
      · have hlt' : ¬ ((len1 : Int) < (bs : Int) + (8 + 26 * (n : Int)) + 16) := by omega
        obtain ⟨g, capm, hvm, hcm1, hcm2, hg1, hg2, hmem⟩ := HO1.out.open_ (by rw [HL1.out]; omega) HIB1.out
        rw [HL1.out] at hvm hcm1 hmem
        simp only [Value.slice.injEq, true_and] at hvm
        obtain ⟨hva, hvc⟩ := hvm
        subst hva hvc
        have hat : at_ (fun i => l1.getD i 0) 0 len1 = l1 := by
          apply List.ext_getElem
          · rw [at_len, HL1.out]
          · intro i h1 h2
            simp [at_, List.getD, h2]
        have hby1 : Bytes wr (some ⟨g, 0, none⟩) l1 := by have := hmem.bytes 0 len1 (by omega); rwa [hat] at this
        have HBY1 := hid (hby1.later ((Below.refl _ wr).alloc (Nat.le_refl _) (.cells #[] 5)))
        have HME1 := hid hmem
        clear hmem hby1 hat
        go_wp2_with (first
          | (go_at_call 8; refine (Size_yes wr n HP.out).mono ?_; rintro e w3 ⟨rfl, hw3⟩; rw [hw3]; clear hw3 w3)
          | (at_builtin; refine wpList_append_bytes rfl (.tmp 42) (.tmp 43) rfl wr.heap.size _ [] l1 rfl (own_empty wr) (some ⟨g, 0, none⟩) vc (by rw [HL1.out]; rfl) HBY1.out (fun e => by cases e) (by rw [HL1.out]; simp; omega) (by simp) wr.heap.size wr (Nat.le_refl _) ((Below.refl _ _).alloc (Nat.le_refl _) _) ?_; intro v4 w4 hown4 hb4; obtain ⟨gw, capw, rfl, _, _, hgw1, hgw2, hmw⟩ := Own.open_ (l := l1) (by simpa using hown4.out) (by rw [HL1.out]; omega) HIB1.out; rw [HL1.out] at hmw ⊢; have HMW := hid hmw; clear hmw hown4))
        have hgeo : Geo bs n len1 (bs + 16 * n) (bs + 18 * n + 4) (16 * n) (4 + 2 * n) (4 + 8 * n) := ⟨n1, by omega, rfl, rfl, rfl, rfl, rfl, by omega, by omega⟩
        have hs4 := hb4.out.size
        have hcon := NewDevice_ok w4 (⟨g, bs, n, len1, bs + 16 * n, bs + 18 * n + 4, 16 * n, 4 + 2 * n, 4 + 8 * n, hgeo⟩ : Qu) len1 vc HP.out (by show bs + (8 + 26 * n) ≤ len1; omega) hcm1 (by omega) (by show g < w4.heap.size; omega)
        change Calls Try.prog 19 #[.slice (some ⟨g, 0, none⟩) len1 vc, .int .i64 bs, .int .i64 n] _ _ at hcon
        have HND := hid hcon
        clear hcon
        obtain ⟨q, hq⟩ : ∃ q : Qu, q = (⟨g, bs, n, len1, bs + 16 * n, bs + 18 * n + 4, 16 * n, 4 + 2 * n, 4 + 8 * n, hgeo⟩ : Qu) := ⟨_, rfl⟩
        rw [← hq] at HND
        have HQG : Hid (q.g = g) := hid (by rw [hq])
        have HQN : Hid (q.n = n) := hid (by rw [hq])
        have HQB : Hid (q.base = bs) := hid (by rw [hq])
        have HQL : Hid (q.N = len1) := hid (by rw [hq])
        clear hq hgeo
        refine HND.out.mono ?_
        rintro e w5 ⟨pv, rfl, hb5, hpv, hdv5⟩
        have hm5 := (HME1.out.below hb4.out).below hb5
        have hmw5 := HMW.out.below hb5
        have hcv1 := Mem.conv (len := len1) (cap := vc) hm5 (Nat.le_refl _)
        have hcv2 := Mem.conv (len := len1) (cap := capw) hmw5 (Nat.le_refl _)
        have HM5 := hid hm5
        have HMW5 := hid hmw5
        have HDV5 := hid hdv5
        have HBL5 := hid (HBL1.out.trans ((hb4.out.trans (hb5.mono hs4)).mono hszw))
        have hs5 := hb5.size
        generalize strOfNums (at_ (fun i => l1.getD i 0) 0 len1) = S at hcv1 hcv2
        clear hm5 hmw5 hdv5 hb5 HND
        have hpb : w1.heap.size ≤ pv := by omega
        have hpg : pv ≠ g := by omega
        have hpw : pv ≠ gw := by omega
        have hgw : g ≠ gw := by omega
        go_wp2
        go_loopw [13] (fun z wr2 => ∃ (i o u : Nat) (f : Nat → Int), (i : Int) ≤ T ∧ z = .int .i64 i ∧ Dev wr2 pv q o u ∧ Mem wr2 q.g q.N f ∧ Mem wr2 gw len1 (fun i => l1.getD i 0) ∧ (∀ j, j < bs ∨ bs + (8 + 26 * n) ≤ j → f j = l1.getD j 0) ∧ Below w1.heap.size w1 wr2) (fun z _ => (T - RowKit.intOf z).toNat)
        case atStart => exact ⟨0, 0, 0, fun i => l1.getD i 0, by omega, rfl, HDV5.out, by rw [HQG.out, HQL.out]; exact HM5.out, HMW5.out, fun _ _ => rfl, HBL5.out⟩
        case round =>
          obtain ⟨i, o, u, f, hi, rfl, hdv2, hme2, hmw2, heq2, hbl2⟩ := hrel
          have HDV2 := hid hdv2
          have HME2 := hid hme2
          have HMW2 := hid hmw2
          have HEQ2 := hid heq2
          have HBL2 := hid hbl2
          have hsw2 := hbl2.size
          clear hdv2 hme2 hmw2 heq2 hbl2 hcv1 hcv2 HM5 HMW5 HDV5 HBL5 HME1 HMW HBY1 hb4 HO1
          rw [← HQG.out] at hpg
          by_cases hlt2 : (i : Int) < T
          · have ei : IntKind.i64.wrap ((i : Int) + 1) = (i : Int) + 1 := IntWalk.i64_in _ (by omega)
            go_wp2_with fail
            refine (within_any t 100 (by omega) (by omega) wr).mono ?_
            rintro e w6 ⟨rfl, hw6⟩
            rw [hw6, HTK.out]
            clear hw6 w6
            go_wp2_with fail
            refine (Take_any wr pv q o u f HDV2.out HME2.out).mono ?_
            rintro e w6 ⟨hmo6, hp1 | ⟨_, hdv6, hd, _, _, hp3 | hp3⟩⟩
            · obtain ⟨_, he, hdv6⟩ := hp1
              subst he
              have hmo6' : Mods (fun b => b = pv) wr w6 := hmo6
              have hmem6 := HME2.out.mods hmo6' hpg.symm
              have hmw6 := HMW2.out.mods hmo6' hpw.symm
              have hgc := Give_ok w6 pv q _ u f hdv6 hmem6 0 i (by rw [HQN.out]; simp [giveB, lenB]; omega)
              have HGC := hid hgc
              have HBL6 := hid (hmo6'.to_below HBL2.out hsw2 (fun b e => by rw [e]; exact hpb))
              have HMW6 := hid hmw6
              have HSZ6 := hid (Nat.le_trans hsw2 hmo6'.size)
              clear hmo6 hmo6' hmem6 hmw6 hgc hdv6
              go_wp2_with fail
              refine HGC.out.mono ?_
              rintro e w7 ⟨rfl, hmo7, hdv7, hme7⟩
              have HBL7 := hid (hmo7.to_below HBL6.out HSZ6.out (fun b e => by rcases e with e | e; rw [e]; exact hpb; rw [e, HQG.out]; exact hg1))
              have HMW7 := hid (HMW6.out.mods hmo7 (fun e => by rcases e with e | e; exact hpw e.symm; rw [HQG.out] at e; exact hgw e.symm))
              have HDV7 := hid hdv7
              have HME7 := hid hme7
              clear hmo7 hdv7 hme7
              go_wp2
              go_roundw
              case rel => exact ⟨i + 1, _, _, _, by omega, by go_num, HDV7.out, HME7.out, HMW7.out, fun j hj => (given_out f q u _ _ j (by rw [HQB.out, HQN.out]; exact hj)).trans (HEQ2.out j hj), HBL7.out⟩
              case measure => simp only [RowKit.intOf]; omega
            · obtain ⟨_, he⟩ := hp3
              subst he
              have hmo6' : Mods (fun b => b = pv) wr w6 := hmo6
              have hmem6 := HME2.out.mods hmo6' hpg.symm
              have hmw6 := HMW2.out.mods hmo6' hpw.symm
              have hgc := Give_ok w6 pv q _ u f hdv6 hmem6 0 i (by rw [HQN.out]; simp [giveB, lenB]; omega)
              have HGC := hid hgc
              have HBL6 := hid (hmo6'.to_below HBL2.out hsw2 (fun b e => by rw [e]; exact hpb))
              have HMW6 := hid hmw6
              have HSZ6 := hid (Nat.le_trans hsw2 hmo6'.size)
              clear hmo6 hmo6' hmem6 hmw6 hgc hdv6
              go_wp2_with fail
              refine HGC.out.mono ?_
              rintro e w7 ⟨rfl, hmo7, hdv7, hme7⟩
              have HBL7 := hid (hmo7.to_below HBL6.out HSZ6.out (fun b e => by rcases e with e | e; rw [e]; exact hpb; rw [e, HQG.out]; exact hg1))
              have HMW7 := hid (HMW6.out.mods hmo7 (fun e => by rcases e with e | e; exact hpw e.symm; rw [HQG.out] at e; exact hgw e.symm))
              have HDV7 := hid hdv7
              have HME7 := hid hme7
              clear hmo7 hdv7 hme7
              go_wp2
              go_roundw
              case rel => exact ⟨i + 1, _, _, _, by omega, by go_num, HDV7.out, HME7.out, HMW7.out, fun j hj => (given_out f q u _ _ j (by rw [HQB.out, HQN.out]; exact hj)).trans (HEQ2.out j hj), HBL7.out⟩
              case measure => simp only [RowKit.intOf]; omega
            · obtain ⟨L, lv, hL, he, hlo⟩ := hp3
              subst he
              obtain ⟨q1, q2, q3⟩ := rch_some f q.base q.n (q.n + 1) hd [] L (Nat.zero_le _) hL
              obtain ⟨lva, lvc, hlv⟩ := owns_slice hlo
              subst hlv
              rw [HQN.out] at q2 q3
              have l1' : ¬ ((L.length : Int) < 1) := by simp at q1; omega
              have l2' : ¬ ((n : Int) < (L.length : Int)) := by omega
              have l3' : ¬ ((hd : Int) < 0) := by omega
              have l4' : ¬ ((n : Int) ≤ (hd : Int)) := by omega
              have l0' : decide ((L.length : Int) < 1) = false := decide_eq_false l1'
              generalize L.length = Ln at *
              clear hL hlo q1
              have hmo6' : Mods (fun b => b = pv) wr w6 := hmo6
              have hmem6 := HME2.out.mods hmo6' hpg.symm
              have hmw6 := HMW2.out.mods hmo6' hpw.symm
              have hgc := Give_ok w6 pv q _ u f hdv6 hmem6 hd i (by rw [HQN.out]; simp [giveB, lenB]; omega)
              have HGC := hid hgc
              have HBL6 := hid (hmo6'.to_below HBL2.out hsw2 (fun b e => by rw [e]; exact hpb))
              have HMW6 := hid hmw6
              have HSZ6 := hid (Nat.le_trans hsw2 hmo6'.size)
              clear hmo6 hmo6' hmem6 hmw6 hgc hdv6
              go_wp2_with fail
              refine HGC.out.mono ?_
              rintro e w7 ⟨rfl, hmo7, hdv7, hme7⟩
              have HBL7 := hid (hmo7.to_below HBL6.out HSZ6.out (fun b e => by rcases e with e | e; rw [e]; exact hpb; rw [e, HQG.out]; exact hg1))
              have HMW7 := hid (HMW6.out.mods hmo7 (fun e => by rcases e with e | e; exact hpw e.symm; rw [HQG.out] at e; exact hgw e.symm))
              have HDV7 := hid hdv7
              have HME7 := hid hme7
              clear hmo7 hdv7 hme7
              go_wp2
              go_roundw
              case rel => exact ⟨i + 1, _, _, _, by omega, by go_num, HDV7.out, HME7.out, HMW7.out, fun j hj => (given_out f q u _ _ j (by rw [HQB.out, HQN.out]; exact hj)).trans (HEQ2.out j hj), HBL7.out⟩
              case measure => simp only [RowKit.intOf]; omega
          · have hlt3 : ¬ ((i : Int) < T) := hlt2
            go_wp2_with fail
            refine (within_any t 100 (by omega) (by omega) wr).mono ?_
            rintro e w6 ⟨rfl, hw6⟩
            rw [hw6, HTK.out]
            clear hw6 w6
            have hm9 := HME2.out
            rw [HQG.out, HQL.out] at hm9
            have HM9 := hid hm9
            clear hm9
            go_wp2
            obtain ⟨wz, hwz⟩ : ∃ wz, wz = wr := ⟨_, rfl⟩
            rw [← hwz] at HM9 HMW2 HBL2 ⊢
            clear hwz
            go_loopw [17] (fun z wx => ∃ (j nq : Nat), j ≤ len1 ∧ z = .int .i64 j ∧ wx = wz.drewN nq) (fun z _ => len1 - (RowKit.intOf z).toNat)
            case atStart => exact ⟨0, 0, Nat.zero_le _, rfl, rfl⟩
            case round =>
              obtain ⟨j, nq, hj, rfl, hwx⟩ := hrel
              have HWX := hid hwx
              have hmz1 : Mem wr g len1 f := by rw [hwx]; exact HM9.out.below (below_drewN (Below.refl _ _) _)
              have hmz2 : Mem wr gw len1 (fun i => l1.getD i 0) := by rw [hwx]; exact HMW2.out.below (below_drewN (Below.refl _ _) _)
              have HMZ := hid (And.intro hmz1 hmz2)
              clear hwx hmz1 hmz2
              by_cases hjl : j < len1
              · have hji : (j : Int) < len1 := by omega
                have c1 : wr.cell? ⟨g, j, none⟩ = some (.int .u8 (f j)) := HMZ.out.1.cell hjl
                have c2 : wr.cell? ⟨gw, j, none⟩ = some (.int .u8 (l1.getD j 0)) := HMZ.out.2.cell hjl
                have ej : IntKind.i64.wrap ((j : Int) + 1) = (j : Int) + 1 := IntWalk.i64_in _ (by omega)
                by_cases ha : j < bs
                · have hai : decide ((j : Int) < bs) = true := by simp; omega
                  rw [HEQ2.out j (.inl ha)] at c1
                  generalize l1.getD j 0 = y at *
                  go_wp2
                  go_quiet (fail)
                  go_wp2
                  go_roundw
                  case rel => exact ⟨j + 1, _, by omega, by go_num, by rw [HWX.out, World.drewN_drewN]⟩
                  case measure => simp only [RowKit.intOf]; omega
                · have hai : decide ((j : Int) < bs) = false := by simp; omega
                  by_cases hb9 : bs + (8 + 26 * n) ≤ j
                  · have hbi : decide ((bs : Int) + (8 + 26 * (n : Int)) ≤ j) = true := by simp; omega
                    rw [HEQ2.out j (.inr hb9)] at c1
                    generalize l1.getD j 0 = y at *
                    go_wp2
                    go_quiet ((go_at_call 8; exact Calls.quiet_of_same (Size_yes _ n HP.out)))
                    go_wp2
                    go_roundw
                    case rel => exact ⟨j + 1, _, by omega, by go_num, by rw [HWX.out, World.drewN_drewN]⟩
                    case measure => simp only [RowKit.intOf]; omega
                  · have hbi : decide ((bs : Int) + (8 + 26 * (n : Int)) ≤ j) = false := by simp; omega
                    generalize l1.getD j 0 = y at *
                    generalize f j = y2 at *
                    go_wp2
                    go_quiet ((go_at_call 8; exact Calls.quiet_of_same (Size_yes _ n HP.out)))
                    go_wp2
                    go_roundw
                    case rel => exact ⟨j + 1, _, by omega, by go_num, by rw [HWX.out, World.drewN_drewN]⟩
                    case measure => simp only [RowKit.intOf]; omega
              · have hji : ¬ ((j : Int) < len1) := by omega
                go_wp2
                go_ret
                have hb9 : Below w.heap.size w wz := HB1.out.trans (HBL2.out.mono HB1.out.size)
                rw [HWX.out]
                exact ⟨rfl, below_drewN hb9 _⟩
end Go.Proofs.Ytjnhcbompgmknaa
