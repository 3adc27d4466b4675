/- NetL, NetM in one text. -/
import Derived.Test.YtdjghkngiicncaaGreatNetK
/- vnet: Sent. -/
namespace Go.Proofs.YtdjghkngiicncaaGreat
open Go.RowKit

def sentN (q : Qu) : Nat → Sd → List (List Int) → Sd × List (List Int)
  | 0, S, Ls => (S, Ls)
  | k + 1, S, Ls =>
    if (takeR q S).2.2 = 15 then sentN q k (takeS q S) Ls
    else if pcB q.N outP (takeR q S).2.1 then sentN q k (giveS q (takeS q S) (takeR q S).1 0) (Ls ++ [frAt S.f ((takeR q S).2.1.headD default).addr.toNat ((takeR q S).2.1.headD default).len.toNat])
    else sentN q k (giveS q (takeS q S) (takeR q S).1 0) Ls
def sentS (q : Qu) (S : Sd) (Ls : List (List Int)) : Sd × List (List Int) := sentN q (left q S) S Ls
def sentG (q : Qu) (Ls : List (List Int)) : Sd × Option (Int × Bf) → Sd × List (List Int)
  | (T, none) => (T, Ls)
  | (T, some (hd, b)) => sentS q (giveS q T hd 0) (Ls ++ [frAt T.f b.addr.toNat b.len.toNat])
theorem takeS_f (q : Qu) (S : Sd) : (takeS q S).f = S.f := by unfold takeS; split <;> rfl
theorem sent_next {q : Qu} : ∀ (k : Nat) (S : Sd), Ok q S → left q S = k → ∀ Ls, sentS q S Ls = sentG q Ls (nextS q outP S)
  | 0, S, h, hk, Ls => by
    unfold sentS nextS
    rw [hk]
    rfl
  | k + 1, S, h, hk, Ls => by
    have hne : ¬ rd S.f (q.po + 2) 2 = S.o := fun e => by rw [h.left0.2 e] at hk; omega
    have hst := takeS_step h hne
    have hlt : left q (takeS q S) = k := by omega
    have hlg : left q (giveS q (takeS q S) (takeR q S).1 0) = k := by rw [giveS_left]; exact hlt
    rcases takeR_kind q S with h2 | h2 | h2
    · exact absurd (takeR_none.1 h2) hne
    · rw [next_bad h h2, ← sent_next k (takeS q S) h.take hlt Ls]
      show sentN q (left q S) S Ls = sentN q (left q (takeS q S)) (takeS q S) Ls
      rw [hk, hlt, sentN, if_pos h2]
    · cases hp : pcB q.N outP (takeR q S).2.1 with
      | true =>
        rw [next_some h h2 hp]
        show sentN q (left q S) S Ls = sentS q _ _
        unfold sentS
        rw [hlg, hk, sentN, if_neg (by omega), if_pos hp, takeS_f]
      | false =>
        rw [next_skip h h2 hp, ← sent_next k _ (h.take.give _ _) hlg Ls]
        show sentN q (left q S) S Ls = sentN q (left q _) _ Ls
        rw [hlg, hk, sentN, if_neg (by omega), hp]
        simp
theorem next_facts {q : Qu} {P : Bf → Bool} : ∀ (k : Nat) (S : Sd), Ok q S → left q S = k → Ok q (nextS q P S).1 ∧ rd (nextS q P S).1.f (q.po + 2) 2 = rd S.f (q.po + 2) 2 ∧ left q (nextS q P S).1 ≤ left q S ∧ ((nextS q P S).2 ≠ none → left q (nextS q P S).1 + 1 ≤ left q S)
  | 0, S, h, hk => by
    have : nextS q P S = (S, none) := by unfold nextS; rw [hk]; rfl
    rw [this]
    exact ⟨h, rfl, Nat.le_refl _, fun e => absurd rfl e⟩
  | k + 1, S, h, hk => by
    have hne : ¬ rd S.f (q.po + 2) 2 = S.o := fun e => by rw [h.left0.2 e] at hk; omega
    have hst := takeS_step h hne
    have hlt : left q (takeS q S) = k := by omega
    have hlg : left q (giveS q (takeS q S) (takeR q S).1 0) = k := by rw [giveS_left]; exact hlt
    rcases takeR_kind q S with h2 | h2 | h2
    · exact absurd (takeR_none.1 h2) hne
    · rw [next_bad h h2]
      obtain ⟨e1, e2, e3, e4⟩ := next_facts (P := P) k (takeS q S) h.take hlt
      exact ⟨e1, by rw [e2, takeS_f], by omega, fun e => by have := e4 e; omega⟩
    · cases hp : pcB q.N P (takeR q S).2.1 with
      | true =>
        rw [next_some h h2 hp]
        exact ⟨h.take, by rw [takeS_f], by simp only; omega, fun _ => by simp only; omega⟩
      | false =>
        rw [next_skip h h2 hp]
        obtain ⟨e1, e2, e3, e4⟩ := next_facts (P := P) k _ (h.take.give (takeR q S).1 0) hlg
        exact ⟨e1, by rw [e2, giveS_po, takeS_f], by omega, fun e => by have := e4 e; omega⟩
theorem Net.next {w : World} {lab : Nat → Nat} {H : Nh} {S : Ns} {c : Nat} {T : Sd} (h : Net w lab H (S.setO T) c) :
    Calls Tryz.prog 45 #[devV H.vo H.g H.N, .func (.func 51) #[] #[]] w fun e w' => NextPost H.qo outP e (nextS H.qo outP T).2 ∧ Net w' lab H (S.setO (nextS H.qo outP T).1) c ∧ Keep lab w lab w' := by
  refine (next_out w H.vo H.qo T h.vo h.mem h.oko).mono ?_
  rintro e w' ⟨h1, h2, h3, h4⟩
  obtain ⟨h5, h6⟩ := h.toVO h2 h3 h4
  refine ⟨h1, ?_, h6⟩
  have he : S.setO (nextS H.qo outP T).1 = { S.setO T with oo := (nextS H.qo outP T).1.o, uo := (nextS H.qo outP T).1.u, f := (nextS H.qo outP T).1.f } := by
    unfold Ns.setO
    rw [show (nextS H.qo outP T).1.A = T.A from nextN_A _ _ _ _]
  rw [he]
  exact h5
theorem Net.giveO {w : World} {lab : Nat → Nat} {H : Nh} {S : Ns} {c : Nat} {T : Sd} (h : Net w lab H (S.setO T) c) (hd : Int) :
    Calls Tryz.prog 47 #[.pointer (some ⟨H.vo, 0, none⟩), .int .i64 hd, .int .i64 0] w fun e w' => e = .returned (.int .i64 (giveR H.qo hd 0)) ∧ Net w' lab H (S.setO (giveS H.qo T hd 0)) c ∧ Keep lab w lab w' := by
  refine (Give_S w H.vo H.qo T h.vo h.mem hd 0 ⟨by omega, by omega⟩).mono ?_
  rintro e w' ⟨h1, h2, h3, h4⟩
  obtain ⟨h5, h6⟩ := h.toVO h2 h3 h4
  refine ⟨h1, ?_, h6⟩
  have he : S.setO (giveS H.qo T hd 0) = { S.setO T with oo := (giveS H.qo T hd 0).o, uo := (giveS H.qo T hd 0).u, f := (giveS H.qo T hd 0).f } := by
    unfold Ns.setO
    rw [giveS_A]
  rw [he]
  exact h5
def ms0 (e k : Int) : Nat := if e = 0 then 1 + (k % 65536).toNat else 0
theorem ms0_zero (k : Int) : ms0 0 k = 1 + (k % 65536).toNat := rfl
theorem ms0_two (k : Int) : ms0 2 k = 0 := rfl
/-- What stands in the loop's slots behind a call of next. -/
def SlotP (H : Nh) (x5 x6 x7 : Value) : Option (Int × Bf) → Prop
  | none => x5 = .int .i64 0 ∧ x6 = .slice none 0 0 ∧ x7 = .int .i64 2
  | some (hd, b) => ∃ x y : Nat, b.addr = x ∧ b.len = y ∧ x5 = .int .i64 hd ∧ x6 = .slice (some ⟨H.g, x, none⟩) y y ∧ x7 = .int .i64 0 ∧ x + y ≤ H.N ∧ 26 ≤ y ∧ y ≤ 1526
theorem slots_of {H : Nh} {e : Ending} {o : Option (Int × Bf)} (h : NextPost H.qo outP e o) : ∃ x5 x6 x7, e = .returned (.tuple #[x5, x6, x7]) ∧ SlotP H x5 x6 x7 o := by
  cases o with
  | none => exact ⟨_, _, _, h, rfl, rfl, rfl⟩
  | some p =>
    obtain ⟨hd, b⟩ := p
    obtain ⟨x, y, h1, h2, h3, h4, h5, _⟩ := h
    refine ⟨_, _, _, h3, x, y, h1, h2, rfl, rfl, rfl, h4, ?_⟩
    simp [outP, fdB] at h5
    omega
def sentAll (H : Nh) (S : Ns) : Sd × List (List Int) := sentS H.qo S.o []

set_option maxRecDepth 100000 in
set_option maxHeartbeats 8000000 in
theorem Sent_any (w : World) (lab : Nat → Nat) (H : Nh) (S : Ns) (c : Nat) (hn : Net w lab H S c) :
    Calls Tryz.prog 18 #[.pointer (some ⟨H.pp, 0, none⟩)] w fun e w' => ∃ v, e = .returned v ∧ Net w' lab H (S.setO (sentAll H S).1) c ∧ Keep lab w lab w' ∧ FmRow w' (Mine5 w w' lab) v (sentAll H S).2 := by
  obtain ⟨_, _, p2, p3⟩ := hn.portCells
  have HN := hid hn
  have HU0 := hid (Net.next (S := S) (T := S.o) hn)
  have hok := hid hn.oko
  have hbigN := H.big
  unfold sentAll
  generalize hR : sentS H.qo S.o [] = R
  have HR := hid hR
  obtain ⟨I, hI⟩ : ∃ I : Int, rd S.f (H.qo.po + 2) 2 = I := ⟨_, rfl⟩
  have HI := hid hI
  clear hn hR hI
  have HM0 : Hid (left H.qo S.o ≤ 65535) := hid (by unfold left; omega)
  unfold devV at HU0
  go_enter Tryz.func18, Tryz.ntmps18
  go_wp2_with (go_at_call 45; refine HU0.out.mono ?_; rintro e w2 ⟨hp2, hn2, hk2⟩; obtain ⟨x5, x6, x7, rfl, hsl⟩ := slots_of hp2; have HN2 := hid hn2; have HK2 := hid hk2; have HSL := hid hsl; clear hp2 hn2 hk2 hsl)
  go_loopw [3, 5, 6, 7] (fun v x5 x6 x7 wr => ∃ (T : Sd) (Ls : List (List Int)), SlotP H x5 x6 x7 (nextS H.qo outP T).2 ∧ sentS H.qo T Ls = R ∧ Ok H.qo T ∧ T.A = S.Ao ∧ rd T.f (H.qo.po + 2) 2 = I ∧ Ls.length + left H.qo T ≤ 65536 ∧ Net wr lab H (S.setO (nextS H.qo outP T).1) c ∧ Keep lab w lab wr ∧ FmRow wr (Mine5 w wr lab) v Ls)
    (fun _ _ _ x7 wr => ms0 (RowKit.intOf x7) (I - (cellN wr H.vo 8 : Int)))
  case atStart =>
    have := HM0.out
    exact ⟨S.o, [], HSL.out, HR.out, hok.out, rfl, HI.out, by simp; omega, HN2.out, HK2.out, FmRow.nil _ _⟩
  case round =>
    obtain ⟨T, Ls, hsl, hr, hokT, hAT, hIT, hlT, hnT, hkT, hfrT⟩ := hrel
    have HSN := hid (sent_next (left H.qo T) T hokT rfl Ls)
    have HNF := hid (next_facts (P := outP) (left H.qo T) T hokT rfl)
    have HNA : Hid ((nextS H.qo outP T).1.A = T.A) := hid (nextN_A _ _ _ _)
    have HRT := hid hr
    have HOK := hid hokT
    have HAT := hid hAT
    have HIT := hid hIT
    have HLT := hid hlT
    have HNT := hid hnT
    have HKT := hid hkT
    have HFR := hid hfrT
    obtain ⟨_, _, q2, q3⟩ := hnT.portCells
    have hcell : Hid (cellN wr H.vo 8 = (nextS H.qo outP T).1.o) := hid hnT.vo.offs
    obtain ⟨va, vc, hv⟩ := hfrT.shape
    clear hr hokT hAT hIT hlT hnT hkT hfrT p2 p3
    generalize hX : nextS H.qo outP T = X at *
    clear hX
    obtain ⟨T1, o⟩ := X
    simp only at *
    cases o with
    | none =>
      obtain ⟨rfl, rfl, rfl⟩ := hsl
      subst hv
      go_wp2
      go_ret
      refine ⟨_, rfl, ?_, HKT.out, ?_⟩
      · rw [← HRT.out, HSN.out]
        exact HNT.out
      · rw [← HRT.out, HSN.out]
        exact HFR.out
    | some p =>
      obtain ⟨hd, bx1, bx2, bx3⟩ := p
      obtain ⟨x, y, hx, hy, rfl, rfl, rfl, hxy, hy1, hy2⟩ := hsl
      obtain ⟨hfo1, hfo2, hfo3, hfo4⟩ := HNF.out
      replace hfo4 := hfo4 (by simp)
      change bx1 = (x : Int) at hx
      change bx2 = (y : Int) at hy
      have hx' : bx1.toNat = x := by omega
      have hy' : bx2.toNat = y := by omega
      have HSG : Hid (sentS H.qo (giveS H.qo T1 hd 0) (Ls ++ [frAt T1.f x y]) = R) := hid (by
        rw [← HRT.out, HSN.out]
        simp only [sentG, hx', hy'])
      have HIG : Hid (rd (giveS H.qo T1 hd 0).f (H.qo.po + 2) 2 = I) := hid (by rw [giveS_po, hfo2]; exact HIT.out)
      have HOG := hid (hfo1.give hd 0)
      have HAG : Hid ((giveS H.qo T1 hd 0).A = S.Ao) := hid (by rw [giveS_A]; exact HNA.out.trans HAT.out)
      have HLG := hid (giveS_left H.qo T1 hd 0)
      have HL4 := hid hfo4
      have HI1 := hid (hfo2.trans HIT.out)
      have HOL := hid hfo1.o
      have HFO := hid (frameOf_any wr H.g x y y (at_ T1.f x y) (by exact HNT.out.mem.bytes x y hxy) (at_len _ _ _) hy1 hy2 (Nat.le_refl _))
      have HLEN : Hid ((frAt T1.f x y).length = y - 12) := hid (by unfold frAt; rw [List.length_drop, at_len])
      change Hid (Calls Tryz.prog 42 #[.slice (some ⟨H.g, x, none⟩) y y] wr fun e w' => ∃ b c, e = .returned (.slice (some ⟨b, 0, none⟩) (y - 12) c) ∧ wr.heap.size ≤ b ∧ y - 12 ≤ c ∧ Blk w' b (frAt T1.f x y) ∧ Below wr.heap.size wr w') at HFO
      have HLS : Hid (Ls.length ≤ 1048576) := hid (by have := HLT.out; omega)
      have HLS1 : Hid ((Ls ++ [frAt T1.f x y]).length = Ls.length + 1) := hid (by simp)
      clear hx hy hx' hy' hfo1 hfo2 hfo3 hfo4
      subst hv
      have HLZ : Hid (∀ b, wr.heap.size ≤ b → lab b = 0) := hid (fun b hb => by
        by_cases e : lab b = 0
        · exact e
        · have := HNT.out.lt b e; omega)
      have HSZ : Hid (w.heap.size ≤ wr.heap.size) := hid HKT.out.size
      have APPF : Hid (∀ w4 w9 v9, Below wr.heap.size wr w4 → FmRow w9 (fun b => Mine5 w w4 lab b ∨ (w4.heap.size < b ∧ b < w9.heap.size)) v9 (Ls ++ [frAt T1.f x y]) → FmRow w9 (Mine5 w w9 lab) v9 (Ls ++ [frAt T1.f x y])) := hid (fun w4 w9 v9 h4 h9 => h9.weak (fun b hb hl => by
        have h1 := HSZ.out
        have h2 := h4.size
        rcases hb with hb | hb
        · exact ⟨hb.1, hl, hb.2.2⟩
        · exact ⟨by omega, hl, HLZ.out b (by omega)⟩))
      have APPN : Hid (∀ w4 w9 fb fc, Below wr.heap.size wr w4 → Mods (fun b => (Value.slice va Ls.length vc).ownBlock = some b) (w4.alloc (.cells #[.slice (some ⟨fb, 0, none⟩) (y - 12) fc] 25)) w9 → Net w9 lab H (S.setO T1) c ∧ Keep lab w lab w9) := hid (fun w4 w9 fb fc h4 h9 => by
        have hb : Below wr.heap.size wr (w4.alloc (.cells #[.slice (some ⟨fb, 0, none⟩) (y - 12) fc] 25)) := h4.alloc h4.size _
        exact ⟨(HNT.out.below hb).outside h9 (fun b e => (HFR.out.own b e).2.2), (HKT.out.trans (Keep.below hb)).extra h9 (fun b e => (HFR.out.own b e).1)⟩)
      go_wp2_with (first
        | (go_at_call 42; refine HFO.out.mono ?_; rintro e w4 ⟨fb, fc, rfl, hfb, hfc, hbk, hb4⟩; have HBK := hid hbk; have HFBO : Hid (Mine5 w w4 lab fb) := hid ⟨by have h1 := HSZ.out; omega, hbk.lt, HLZ.out fb hfb⟩; have HB4 := hid hb4; clear hfb hbk hb4)
        | (at_builtin; refine wpList_append_row rfl (.tmp 30) (.tmp 33) rfl w4 fb fc (y - 12) (Mine5 w w4 lab) (frAt T1.f x y) _ Ls rfl (HFR.out.onward (Keep.below HB4.out)) HLEN.out HBK.out (HFBO.out) 1 rfl HLS.out ?_; intro v9 w9 hf9 hs9 hm9; have HF9 := hid (APPF.out w4 w9 v9 HB4.out hf9.out); obtain ⟨hn9, hk9⟩ := APPN.out w4 w9 fb fc HB4.out hm9.out; obtain ⟨_, _, t2, t3⟩ := hn9.portCells; obtain ⟨xa, xc, hxv⟩ := HF9.out.shape; subst hxv; have HN9 := hid hn9; have HK9 := hid hk9; clear hn9 hk9 hf9 hs9 hm9)
        | (go_at_call 47; refine (Net.giveO HN9.out hd).mono ?_; rintro e w7 ⟨rfl, hn7, hk7⟩; obtain ⟨_, _, s2, s3⟩ := hn7.portCells; have HN7 := hid hn7; have HK7 := hid hk7; clear hn7 hk7)
        | (go_at_call 45; refine (Net.next (S := S) (T := giveS H.qo T1 hd 0) HN7.out).mono ?_; rintro e w8 ⟨hp8, hn8, hk8⟩; obtain ⟨y5, y6, y7, rfl, hsl8⟩ := slots_of hp8; have HN8 := hid hn8; have HK8 := hid hk8; have HSL8 := hid hsl8; clear hp8 hn8 hk8 hsl8))
      go_roundw
      case rel =>
        have h1 := HLT.out
        have h2 := HL4.out
        have h3 := HLG.out
        exact ⟨giveS H.qo T1 hd 0, Ls ++ [frAt T1.f x y], HSL8.out, HSG.out, HOG.out, HAG.out, HIG.out, by rw [HLS1.out]; omega, HN8.out, HK9.out.trans (HK7.out.trans HK8.out), by have h9 := HF9.out.onward (HK7.out.trans HK8.out); rw [HLS1.out] at h9; exact h9⟩
      case measure =>
        have h2 := hcell.out
        have h3 := HN8.out.vo.offs
        show ms0 (RowKit.intOf y7) _ < ms0 0 _
        rw [ms0_zero, h2, h3]
        have hnf := next_facts (P := outP) _ _ HOG.out rfl
        have hs8 := HSL8.out
        have hlg := HLG.out
        have hig := HIG.out
        generalize nextS H.qo outP (giveS H.qo T1 hd 0) = Y at *
        obtain ⟨T3, o3⟩ := Y
        cases o3 with
        | none =>
          obtain ⟨_, _, rfl⟩ := hs8
          show ms0 2 _ < _
          rw [ms0_two]
          omega
        | some p3 =>
          obtain ⟨hd3, b3⟩ := p3
          obtain ⟨_, _, _, _, _, _, rfl, _⟩ := hs8
          show ms0 0 _ < _
          rw [ms0_zero]
          have h4 := hnf.2.2.2 (by simp)
          unfold left at h4 hlg
          simp only [Ns.setO] at *
          rw [hnf.2.1, hig] at h4
          rw [hig, HI1.out] at hlg
          omega
end Go.Proofs.YtdjghkngiicncaaGreat

/- vnet: NewCard, NewPort. -/
namespace Go.Proofs.YtdjghkngiicncaaGreat
open Go.RowKit

theorem size46 : (Tryz.prog.info? 51).map (·.size) = some 3 := by kernel_rfl
theorem size54 : (Tryz.prog.info? 66).map (·.size) = some 2 := by kernel_rfl
set_option maxRecDepth 100000 in
set_option maxHeartbeats 1000000 in
theorem newDriverSide_any (w : World) (q : Qu) (base which first : Nat) (f : Nat → Int) (hm : Mem w q.g q.N f) (hp : pow2 q.n = true) (hw : which ≤ 2) (hb : base + which * (8 + 26 * q.n) = q.base) (hfi : base + 2 * (8 + 26 * q.n) + which * q.n * 1528 = first) :
    Calls Tryz.prog 24 #[.slice (some ⟨q.g, 0, none⟩) q.N q.N, .int .i64 base, .int .i64 q.n, .int .i64 which] w fun e w' => ∃ pd, e = .returned (.tuple #[sideV pd q.g q.N first, .int .i64 0]) ∧ Mods (fun b => b = q.g) w w' ∧ Mem w' q.g q.N (zr f q.base (8 + 26 * q.n)) ∧ ∃ al, Drv w' pd q (A0 q.n) 0 al ∧ ∀ b, al b → w.heap.size ≤ b := by
  have hbig := q.geo.big
  have hfit := q.geo.fit
  have hbb : base ≤ 1099511627776 := by omega
  have HQ := hid (fun W : World => queueAt_any W base q.n which hp (by omega) (by omega) q.base (by rw [← hb]; simp [Int.mul_add]))
  have HPL := hid (fun W : World => placesAt_any W base q.n which hp (by omega) (by omega) first (by rw [← hfi]; simp [Int.mul_add, Int.mul_assoc]))
  obtain ⟨W, hW⟩ : ∃ W, W = w.alloc (.cells #[.pointer none, .slice none 0 0, .int .i64 0] 51) := ⟨_, rfl⟩
  have HB0 : Hid (Below w.heap.size w W) := hid (by rw [hW]; exact (Below.refl _ _).alloc (Nat.le_refl _) _)
  have HBX : Hid (W.heap[w.heap.size]? = some (.cells #[.pointer none, .slice none 0 0, .int .i64 0] 51 (0, 0))) := hid (by rw [hW]; exact (MapKept.heap_alloc w _).1)
  have HND := hid (NewDriver_ok W q q.N q.N f (hm.below HB0.out) hp (by omega) (Nat.le_refl _) hbig)
  have HG : Hid (q.g < w.heap.size) := hid hm.lt
  clear hm hp hb hfi
  unfold sideV
  go_enter Tryz.func24, Tryz.ntmps24
  go_wp2_with fail
  rw [← hW]
  clear hW
  refine (HQ.out W).mono ?_
  rintro e w1 ⟨rfl, hw1⟩
  rw [hw1]
  clear hw1 w1
  go_wp2_with fail
  refine HND.out.mono ?_
  rintro e w2 ⟨pd, rfl, hmo2, hm2, al, hd2, ha2⟩
  have HMO2 := hid hmo2
  have HM2 := hid hm2
  have HD2 := hid hd2
  have HA2 := hid ha2
  have hbx2 : Hid (w2.heap[w.heap.size]? = some (.cells #[.pointer none, .slice none 0 0, .int .i64 0] 51 (0, 0))) := hid ((hmo2.block w.heap.size (Array.getElem?_eq_some_iff.1 HBX.out).1 (fun e => by have := HG.out; omega)).trans HBX.out)
  have k0 := cell_of (i := 0) hbx2.out rfl
  have k1 := cell_of (i := 1) hbx2.out rfl
  have k2 := cell_of (i := 2) hbx2.out rfl
  have z0 : w2.frozen? ⟨w.heap.size, 0, none⟩ = false := by unfold World.frozen?; simp [hbx2.out]
  have z1 : w2.frozen? ⟨w.heap.size, 1, none⟩ = false := by unfold World.frozen?; simp [hbx2.out]
  have z2 : w2.frozen? ⟨w.heap.size, 2, none⟩ = false := by unfold World.frozen?; simp [hbx2.out]
  clear hmo2 hm2 hd2 ha2
  go_wp2_with (go_at_call 21; refine (HPL.out w2).mono ?_; rintro e w3 ⟨rfl, hw3⟩; rw [hw3]; clear hw3 w3)
  have hws := setc (setc (setc hbx2.out 0 (.pointer (some ⟨pd, 0, none⟩))) 1 (.slice (some ⟨q.g, 0, none⟩) q.N q.N)) 2 (.int .i64 first)
  have hst : Mods (fun b => b = w.heap.size) w2 (((w2.setCell ⟨w.heap.size, 0, none⟩ (.pointer (some ⟨pd, 0, none⟩))).setCell ⟨w.heap.size, 1, none⟩ (.slice (some ⟨q.g, 0, none⟩) q.N q.N)).setCell ⟨w.heap.size, 2, none⟩ (.int .i64 first)) := (((Mods.refl (fun b => b = w.heap.size) w2).setCell w.heap.size 0 _ rfl).setCell w.heap.size 1 _ rfl).setCell w.heap.size 2 _ rfl
  have hg := HG.out
  have hwb : w.heap.size < W.heap.size := (Array.getElem?_eq_some_iff.1 HBX.out).1
  refine bodyPost_ret (results_c2 rfl _ _ _ _ _ _ rfl hws Tryz.underlying51 size46) rfl ⟨pd, rfl, ?_, ?_, al, ?_, ?_⟩
  · exact ((Mods.of_below HB0.out).tr HMO2.out).trans hst (fun b hb => .inr (by omega))
  · exact HM2.out.mods hst (by omega)
  · exact HD2.out.mods hst (fun b hb e => by have := HA2.out b hb; omega)
  · exact fun b hb => by have := HA2.out b hb; omega
set_option maxRecDepth 100000 in
set_option maxHeartbeats 1000000 in
theorem newDeviceSide_any (w : World) (q : Qu) (base which : Nat) (hgl : q.g < w.heap.size) (hp : pow2 q.n = true) (hw : which ≤ 2) (hb : base + which * (8 + 26 * q.n) = q.base) :
    Calls Tryz.prog 29 #[.slice (some ⟨q.g, 0, none⟩) q.N q.N, .int .i64 base, .int .i64 q.n, .int .i64 which] w fun e w' => ∃ pv, e = .returned (.tuple #[devV pv q.g q.N, .int .i64 0]) ∧ Below w.heap.size w w' ∧ Dev w' pv q 0 0 ∧ w.heap.size ≤ pv := by
  have hbig := q.geo.big
  have hfit := q.geo.fit
  have hbb : base ≤ 1099511627776 := by omega
  have HQ := hid (fun W : World => queueAt_any W base q.n which hp (by omega) (by omega) q.base (by rw [← hb]; simp [Int.mul_add]))
  obtain ⟨W, hW⟩ : ∃ W, W = w.alloc (.cells #[.pointer none, .slice none 0 0] 66) := ⟨_, rfl⟩
  have HB0 : Hid (Below w.heap.size w W) := hid (by rw [hW]; exact (Below.refl _ _).alloc (Nat.le_refl _) _)
  have HBX : Hid (W.heap[w.heap.size]? = some (.cells #[.pointer none, .slice none 0 0] 66 (0, 0))) := hid (by rw [hW]; exact (MapKept.heap_alloc w _).1)
  have HND := hid (NewDevice_ok W q q.N q.N hp (by omega) (Nat.le_refl _) hbig (Nat.lt_of_lt_of_le hgl HB0.out.size))
  have HG : Hid (q.g < w.heap.size) := hid hgl
  clear hgl hp hb
  unfold devV
  go_enter Tryz.func29, Tryz.ntmps29
  go_wp2_with fail
  rw [← hW]
  clear hW
  refine (HQ.out W).mono ?_
  rintro e w1 ⟨rfl, hw1⟩
  rw [hw1]
  clear hw1 w1
  go_wp2_with fail
  refine HND.out.mono ?_
  rintro e w2 ⟨pv, rfl, hb2, hpv, hd2⟩
  have HB2 := hid hb2
  have HD2 := hid hd2
  have HPV := hid hpv
  have hwb : w.heap.size < W.heap.size := (Array.getElem?_eq_some_iff.1 HBX.out).1
  have hbx2 : Hid (w2.heap[w.heap.size]? = some (.cells #[.pointer none, .slice none 0 0] 66 (0, 0))) := hid ((hb2.block w.heap.size hwb).trans HBX.out)
  have k0 := cell_of (i := 0) hbx2.out rfl
  have k1 := cell_of (i := 1) hbx2.out rfl
  have z0 : w2.frozen? ⟨w.heap.size, 0, none⟩ = false := by unfold World.frozen?; simp [hbx2.out]
  have z1 : w2.frozen? ⟨w.heap.size, 1, none⟩ = false := by unfold World.frozen?; simp [hbx2.out]
  clear hb2 hd2 hpv
  go_wp2
  have hws := setc (setc hbx2.out 0 (.pointer (some ⟨pv, 0, none⟩))) 1 (.slice (some ⟨q.g, 0, none⟩) q.N q.N)
  have hst : Mods (fun b => b = w.heap.size) w2 ((w2.setCell ⟨w.heap.size, 0, none⟩ (.pointer (some ⟨pv, 0, none⟩))).setCell ⟨w.heap.size, 1, none⟩ (.slice (some ⟨q.g, 0, none⟩) q.N q.N)) := ((Mods.refl (fun b => b = w.heap.size) w2).setCell w.heap.size 0 _ rfl).setCell w.heap.size 1 _ rfl
  have hpv := HPV.out
  refine bodyPost_ret (results_c2 rfl _ _ _ _ _ _ rfl hws Tryz.underlying66 size54) rfl ⟨pv, rfl, ?_, ?_, ?_⟩
  · exact hst.to_below (HB0.out.trans (HB2.out.mono HB0.out.size)) (Nat.le_trans HB0.out.size HB2.out.size) (fun b e => by omega)
  · exact HD2.out.mods hst (by omega)
  · omega
end Go.Proofs.YtdjghkngiicncaaGreat
