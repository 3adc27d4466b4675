/- vnet: Send. -/
import Derived.Test.YtpmbknlafeljlaaNetG
namespace Go.Proofs.Ytpmbknlafeljlaa
open Go.RowKit

theorem Net.more {w : World} {lab : Nat → Nat} {H : Nh} {S : Ns} {c c' : Nat} (h : Net w lab H S c) (hc : c ≤ c') : Net w lab H S c' := { h with di := h.di.up (fun _ h => h) h.di.lt (by show ¬ _ = 1; rw [h.l5]; omega) hc, dq := h.dq.up (fun _ h => h) h.dq.lt (by show ¬ _ = 2; rw [h.l5]; omega) hc }
theorem backN_of (q : Qu) : ∀ (k : Nat) (S : Sd), (backN q k S).f = S.f ∧ (backN q k S).o = S.o ∧ (backN q k S).u = S.u
  | 0, _ => ⟨rfl, rfl, rfl⟩
  | k + 1, S => by
    obtain ⟨h1, h2, h3⟩ := backN_of q k (usedS q S)
    exact ⟨h1.trans (usedS_f q S), h2.trans (usedS_o q S).1, h3.trans (usedS_o q S).2⟩
theorem One.use {A : Abs} (h : One A) (hd : Int) (ch : List Nat) : One (UseA A hd ch) := fun p hp => h p (List.mem_of_mem_eraseP hp)
theorem One.bad {A : Abs} (h : One A) : One (BadA A) := h
theorem One.used {q : Qu} {S : Sd} (h : One S.A) : One (usedS q S).A := by
  unfold usedS
  split
  · exact h
  · split
    · exact h
    · exact h.use _ _
theorem One.backN {q : Qu} : ∀ (k : Nat) (S : Sd), One S.A → One (Go.Proofs.Ytpmbknlafeljlaa.backN q k S).A
  | 0, _, h => h
  | k + 1, S, h => One.backN k (usedS q S) (One.used h)
theorem take_one {l : List Nat} (h : 0 < l.length) : l.take 1 = [l.getD 0 0] := by
  cases l with
  | nil => simp at h
  | cons x l => simp
theorem One.add {A : Abs} (h : One A) (hf : 0 < A.free.length) : One (AddA A 1) := fun p hp => by
  rcases List.mem_append.1 hp with h1 | h1
  · exact h p h1
  · simp at h1
    subst h1
    simp [take_one hf]
theorem Ok.backN {q : Qu} : ∀ (k : Nat) (S : Sd), Ok q S → Ok q (Go.Proofs.Ytpmbknlafeljlaa.backN q k S)
  | 0, _, h => h
  | k + 1, S, h => Ok.backN k (usedS q S) h.used

def sendA (H : Nh) (T : Sd) (L : List Int) : Sd :=
  { T with A := AddA T.A 1, f := addF (puts T.f (H.fo + T.A.free.getD 0 0 * 1528) (rowL L)) H.qo T.A [⟨(H.fo + T.A.free.getD 0 0 * 1528 : Nat), (12 + L.length : Nat), false⟩] }
def sendR (H : Nh) (S : Ns) (L : List Int) : Int := if frB L.length then (if (backS H.qo S.o).A.free.length = 0 then 7 else 0) else 14
def sendS (H : Nh) (S : Ns) (L : List Int) : Ns := if frB L.length then (if (backS H.qo S.o).A.free.length = 0 then S.setO (backS H.qo S.o) else S.setO (sendA H (backS H.qo S.o) L)) else S
theorem frB_iff {n : Nat} : frB (n : Int) = true ↔ 14 ≤ n ∧ n ≤ 1514 := by simp [frB]; omega

set_option maxRecDepth 100000 in
set_option maxHeartbeats 4000000 in
theorem Send_any (w : World) (lab : Nat → Nat) (H : Nh) (S : Ns) (c : Nat) (hn : Net w lab H S c) (hc : c < 1099511627775) (ad : Option Addr) (cap len : Nat) (L : List Int) (hB : Bytes w ad L) (hln : L.length = len) (hl : ∀ b off, ad = some ⟨b, off, none⟩ → lab b = 0) :
    Calls Try.prog 13 #[.pointer (some ⟨H.pc, 0, none⟩), .slice ad len cap] w fun e w' => e = .returned (.int .i64 (sendR H S L)) ∧ ∃ lab', Net w' lab' H (sendS H S L) (c + 1) ∧ Keep lab w lab' w' := by
  have HFRM := hid (isFrame_any w len)
  have hsz : (Net w lab H S c) := hn
  unfold sendR sendS
  rw [hln]
  obtain ⟨_, _, _, p3, p4, p5⟩ := hn.cardCells
  have HN := hid hn
  cases hfr : frB (len : Int) with
  | false =>
    have HF := hid hfr
    simp only [Bool.false_eq_true, if_false]
    clear hfr hn hsz hB
    rw [HF.out] at HFRM
    go_enter Try.func13, Try.ntmps13
    go_wp2_with (go_at_call 23; refine HFRM.out.mono ?_; rintro e w1 ⟨rfl, rfl⟩)
    go_ret
    exact ⟨rfl, lab, HN.out.more (by omega), Keep.refl _ _⟩
  | true =>
    obtain ⟨h14, h15⟩ := frB_iff.1 hfr
    rw [hfr] at HFRM
    simp only [if_true]
    have HTB := hid (takeBack_any w H.dq H.qo S.o c (fun b => lab b = 2) H.fo hn.dq hn.mem hn.oko)
    have HO1 := hid (One.backN (q := H.qo) (more H.qo S.o) S.o hn.oo)
    have HOK := hid (Ok.backN (q := H.qo) (more H.qo S.o) S.o hn.oko)
    have HFO := hid (backN_of H.qo (more H.qo S.o) S.o)
    have HB := hid hB
    have HLN := hid hln
    have HL := hid hl
    have HTD : Hid (∀ w1 w' (lab1 : Nat → Nat) (S1 : Ns) (A' : Abs) (f' : Nat → Int), Net w1 lab1 H S1 c → Step w1 w' H.dq H.qo A' (c + 1) (fun b => lab1 b = 2) → Mem w' H.g H.N f' → One A' → ∃ lab', Net w' lab' H { S1 with Ao := A', f := f' } (c + 1) ∧ Keep lab1 w1 lab' w') := hid (fun w1 w' lab1 S1 A' f' h1 h2 h3 h4 => by
      obtain ⟨lab', h5, h6, _⟩ := h1.toDO h2 h3 (by omega) h4
      exact ⟨lab', h5, h6⟩)
    change Hid (One (backS H.qo S.o).A) at HO1
    change Hid (Ok H.qo (backS H.qo S.o)) at HOK
    change Hid ((backS H.qo S.o).f = _ ∧ (backS H.qo S.o).o = _ ∧ (backS H.qo S.o).u = _) at HFO
    clear hn hsz hB hln hl hfr
    generalize hT : backS H.qo S.o = T at *
    clear hT
    have hfi := H.fo_fit
    have hni := H.bd
    have hbigN := H.big
    unfold sideV at HTB
    by_cases hf0 : T.A.free.length = 0
    · have g1 : ((T.A.free.length : Int) == 0) = true := by simp [hf0]
      have g2 : decide ((T.A.free.length : Int) = 0) = true := by simp [hf0]
      rw [if_pos hf0, if_pos hf0]
      clear hf0
      go_enter Try.func13, Try.ntmps13
      go_wp2_with (first
        | (go_at_call 23; refine HFRM.out.mono ?_; rintro e w1 ⟨rfl, hw1⟩; rw [hw1]; clear hw1)
        | (go_at_call 28; refine HTB.out.mono ?_; rintro e w2 ⟨rfl, hs2, hm2⟩; obtain ⟨lab2, hn2, hk2, _⟩ := HN.out.toDO hs2 hm2 (Nat.le_refl _) HO1.out; obtain ⟨_, _, _, q3, q4, q5⟩ := hn2.cardCells; have HN2 := hid hn2; have HK2 := hid hk2; clear hs2 hm2 hn2 hk2)
        | (go_at_call 29; refine (Free_any w2 H.dq H.qo T.A c (fun b => lab2 b = 2) HN2.out.dq).mono ?_; rintro e w3 ⟨rfl, hw3⟩; rw [hw3]; clear hw3))
      go_ret
      refine ⟨rfl, lab2, ?_, HK2.out⟩
      have hx := HN2.out.more (show c ≤ c + 1 by omega)
      obtain ⟨e1, e2, e3⟩ := HFO.out
      have he : S.setO T = { S with Ao := T.A, f := T.f } := by unfold Ns.setO; rw [e2, e3]; rfl
      rw [he]
      exact hx
    · have g1 : ((T.A.free.length : Int) == 0) = false := by simpa using hf0
      have g2 : decide ((T.A.free.length : Int) = 0) = false := by simpa using hf0
      rw [if_neg hf0, if_neg hf0]
      have hpos : 0 < T.A.free.length := by omega
      obtain ⟨x, hx⟩ : ∃ x, T.A.free.getD 0 0 = x := ⟨_, rfl⟩
      have hxn : x < H.n := by rw [← hx]; exact HOK.out.wf.free_lt (getD_mem T.A.free 0 0 hpos)
      have HX := hid hx
      have HPOS := hid hpos
      clear hf0 hpos hx
      go_enter Try.func13, Try.ntmps13
      go_wp2_with (first
        | (go_at_call 23; refine HFRM.out.mono ?_; rintro e w1 ⟨rfl, hw1⟩; rw [hw1]; clear hw1)
        | (go_at_call 28; refine HTB.out.mono ?_; rintro e w2 ⟨rfl, hs2, hm2⟩; obtain ⟨lab2, hn2, hk2, _⟩ := HN.out.toDO hs2 hm2 (Nat.le_refl _) HO1.out; obtain ⟨_, _, _, q3, q4, q5⟩ := hn2.cardCells; have HN2 := hid hn2; have HK2 := hid hk2; clear hs2 hm2 hn2 hk2)
        | (go_at_call 29; refine (Free_any w2 H.dq H.qo T.A c (fun b => lab2 b = 2) HN2.out.dq).mono ?_; rintro e w3 ⟨rfl, hw3⟩; rw [hw3]; clear hw3))
      have HLF := hid (lowestFree_any w2.drew H.dq H.qo T.A c (fun b => lab2 b = 2) H.fo H.g H.N (HN2.out.dq.below ((Below.refl _ w2).drew)) (by omega) HO1.out HPOS.out)
      rw [HX.out] at HLF
      have hB2 : Bytes w2 ad L := fun i hi => by
        obtain ⟨b, off, h1, h2, h3⟩ := HB.out i hi
        exact ⟨b, off, h1, HK2.out.2.cell h2 (fun e => e (HL.out b off h1)), h3⟩
      have HOF : Hid (∀ w5, Below w2.heap.size w2 w5 → Calls Try.prog 30 #[sideV H.dq H.g H.N H.fo, .int .i64 x, .slice ad len cap] w5 fun e w' => e = .returned (.int .i64 0) ∧ Step w5 w' H.dq H.qo (AddA T.A 1) (c + 1) (fun b => lab2 b = 2) ∧ Mem w' H.g H.N (addF (puts T.f (H.fo + x * 1528) (rowL L)) H.qo T.A [⟨(H.fo + x * 1528 : Nat), (12 + len : Nat), false⟩])) := hid (fun w5 h5 =>
        offerFrame_any w5 H.dq H.qo T c (fun b => lab2 b = 2) H.fo x (H.fo + x * 1528) ad cap len L (HN2.out.dq.below h5) (HN2.out.mem.below h5) (hB2.later h5) HLN.out h14 h15 (by omega) rfl (hfi x hxn) HPOS.out (by omega))
      clear hB2
      unfold sideV at HLF HOF
      go_region_held3 (fun w' => w'.cell? ⟨H.pc, 3, none⟩ = some (.pointer (some ⟨H.dq, 0, none⟩)) ∧ w'.cell? ⟨H.pc, 4, none⟩ = some (.slice (some ⟨H.g, 0, none⟩) H.N H.N) ∧ w'.cell? ⟨H.pc, 5, none⟩ = some (.int .i64 H.fo)) ((first | exact ⟨q3, q4, q5⟩ | exact HS5.out | exact HS6.out))
        ((first
          | (go_at_call 31; refine HLF.out.mono ?_; rintro e w5 ⟨rfl, hb5⟩; have HB5 := hid ((Below.refl _ w2).drew.trans hb5); have HS5 := hid (And.intro (cell_later HB5.out q3) (And.intro (cell_later HB5.out q4) (cell_later HB5.out q5))); clear hb5)
          | (go_at_call 30; refine (HOF.out w5 HB5.out).mono ?_; rintro e w6 ⟨rfl, hs6, hm6⟩; obtain ⟨lab6, hn6, hk6⟩ := HTD.out w5 w6 lab2 _ _ _ (HN2.out.below HB5.out) hs6 hm6 (HO1.out.add HPOS.out); obtain ⟨_, _, _, s3, s4, s5⟩ := hn6.cardCells; have HS6 := hid (And.intro s3 (And.intro s4 s5)); have HN6 := hid hn6; have HK6 := hid hk6; clear hs6 hm6 hn6 hk6 s3 s4 s5)))
      go_wp2
      go_ret
      obtain ⟨e1, e2, e3⟩ := HFO.out
      refine ⟨rfl, lab6, ?_, HK2.out.trans ((Keep.below HB5.out).trans HK6.out)⟩
      have he : S.setO (sendA H T L) = { S with Ao := AddA T.A 1, f := addF (puts T.f (H.fo + x * 1528) (rowL L)) H.qo T.A [⟨(H.fo + x * 1528 : Nat), (12 + len : Nat), false⟩] } := by unfold Ns.setO sendA; rw [HX.out, HLN.out]; simp only [e2, e3]; rfl
      rw [he]
      exact HN6.out
end Go.Proofs.Ytpmbknlafeljlaa
