/- What a segment brings. -/
import Derived.Test.YtmmijbiapflneaaTbD
namespace Go.Proofs.Ytmmijbiapflneaa
open Go.RowKit Go.Maps
set_option linter.unusedVariables false
def takeInC (c : Cn) (s : Sg) : Cn := if hasB s.fl 1 then noteEndS (noteS c s.seq s.dat) (a32 s.seq s.dat.length) else noteS c s.seq s.dat
def takeInS (c : Cn) (s : Sg) : Cn × Bool := goOnS (takeInC c s)
theorem noteEndS_is (c : Cn) (e : Int) : ∃ en en0, noteEndS c e = { c with en := en, en0 := en0 } := by
  unfold noteEndS
  split
  · exact ⟨_, _, rfl⟩
  · exact ⟨c.en, c.en0, rfl⟩
theorem putsN_ok (c : Cn) (s : Int) (d : List Int) (hd : ∀ x ∈ d, IsB x) (hE : ∀ x y, c.E x = some y → IsB y) (k : Nat) (hk : k ≤ d.length) : ∀ x y, (putsN c s d k).E x = some y → IsB y := by
  induction k with
  | zero => exact hE
  | succ k ih =>
    intro x y hxy
    simp only [putsN, put1] at hxy
    split at hxy
    · exact ih (by omega) x y hxy
    · by_cases e : x = a32 s k
      · subst e
        have hxy : upd (putsN c s d k).E (a32 s k) (some (d.getD k 0)) (a32 s k) = some y := hxy
        rw [upd_same] at hxy
        simp only [Option.some.injEq] at hxy
        subst hxy
        have : d.getD k 0 ∈ d := by simp [List.getD, show k < d.length by omega]
        exact hd _ this
      · have hxy : upd (putsN c s d k).E (a32 s k) (some (d.getD k 0)) x = some y := hxy
        rw [upd_other _ _ e] at hxy
        exact ih (by omega) x y hxy
theorem ntDat_len (c : Cn) (s : Int) (d : List Int) : (ntDat c s d).length ≤ (roomC c).toNat ∧ (ntDat c s d).length ≤ d.length := by
  have h := s32_bd s c.R
  unfold ntDat ntAt
  split <;> simp only [List.length_take, List.length_drop] <;> omega
theorem ntDat_mem (c : Cn) (s : Int) (d : List Int) : ∀ x ∈ ntDat c s d, x ∈ d := by
  intro x hx
  unfold ntDat at hx
  have h2 := List.mem_of_mem_take hx
  split at h2
  · exact List.mem_of_mem_drop h2
  · exact h2
/-- What noting turns. -/
theorem noteS_ok (c : Cn) (s : Int) (d : List Int) (hd : ∀ x ∈ d, IsB x) (hE : ∀ x y, c.E x = some y → IsB y) (hR : IsU c.R) (hcl : c.came.length ≤ 16384) (hrb : roomC c ≤ 16384 - c.came.length) :
    ∃ cm R E ec, noteS c s d = { c with came := cm, R := R, E := E, ec := ec } ∧ cm.length ≤ 16384 ∧ IsU R ∧ ec ≤ c.ec + d.length ∧ ∀ x y, E x = some y → IsB y := by
  obtain ⟨h1, h2⟩ := ntDat_len c s d
  unfold noteS noteQ
  split
  · refine ⟨_, _, c.E, c.ec, rfl, ?_, a32_u _ _, by omega, hE⟩
    rw [List.length_append]; omega
  · obtain ⟨E, ec, h, h3⟩ := putsN_is c (ntSeq c s) (ntDat c s d) (ntDat c s d).length
    refine ⟨c.came, c.R, E, ec, h, hcl, hR, by omega, ?_⟩
    have := putsN_ok c (ntSeq c s) (ntDat c s d) (fun x hx => hd x (ntDat_mem c s d x hx)) hE _ (Nat.le_refl _)
    rw [h] at this
    exact this
set_option maxRecDepth 100000 in
set_option maxHeartbeats 16000000 in
theorem takeIn_any {w : World} {p : Nat} {S : Nat → Prop} {c : Cn} {vc vm vw : Value} (h : CnX w p S c vc vm vw) (hcl : c.came.length ≤ 16384) (hrb : 0 ≤ roomC c ∧ roomC c ≤ 16384 - c.came.length) (hlv : c.lv = true) (hR : IsU c.R) (hE : ∀ x y, c.E x = some y → IsB y) (s : Sg) (a : Option Addr) (n cp : Nat) (hseq : IsU s.seq) (hn : s.dat.length = n) (hl : n ≤ 300000) (hc : n ≤ cp) (hb : Bytes w a s.dat) (hec : c.ec ≤ 300000) :
    Calls Try.prog 41 #[.pointer (some ⟨p, 0, none⟩), .agg (sgC s.fr s.to_ s.seq s.ack s.fl s.win s.mss (.slice a n cp))] w fun e w' => e = .returned (.bool (takeInS c s).2) ∧ ∃ S' vc' vm', CnX w' p S' (takeInS c s).1 vc' vm' vw ∧ Kp S w S' w' := by
  obtain ⟨cm, R, E, ec, hns, hn1, hn2, hn3, hn4⟩ := noteS_ok c s.seq s.dat hb.isB hE hR hcl hrb.2
  obtain ⟨W1, hW1, h1, b1⟩ := boxS w (sgC s.fr s.to_ s.seq s.ack s.fl s.win s.mss (.slice a n cp)) 30
  obtain ⟨g, hg⟩ : ∃ g, w.heap.size = g := ⟨_, rfl⟩
  have hgS : ¬ S g := fun e => by have := h.slt g e; omega
  have HNO := hid (note_any (h.later b1) hcl ⟨hrb.1, by omega⟩ hlv s.seq hseq a n cp s.dat hn (by omega) hc (hb.later b1) (by omega))
  obtain ⟨c1, hc1⟩ : ∃ x, noteS c s.seq s.dat = x := ⟨_, rfl⟩
  have hc1e := hc1.symm.trans hns
  have hcl1 : c1.came.length ≤ 16384 := by rw [hc1e]; exact hn1
  have hlv1 : c1.lv = true := by rw [hc1e]; exact hlv
  have hR1 : IsU c1.R := by rw [hc1e]; exact hn2
  have hec1 : c1.ec ≤ 600000 := by rw [hc1e]; simp only; omega
  have hE1 : ∀ x y, c1.E x = some y → IsB y := by rw [hc1e]; exact hn4
  have HEN : Hid (∀ W S' vc', CnX W p S' c1 vc' vm vw → Calls Try.prog 51 #[.pointer (some ⟨p, 0, none⟩), .int .u32 (a32 s.seq n)] W fun r w' => r = .returned undef ∧ CnX w' p S' (noteEndS c1 (a32 s.seq n)) vc' vm vw ∧ Mods (fun b => b = p) W w') := hid (fun W S' vc' hx => noteEnd_any hx hcl1 _ (a32_u _ _))
  have HGO : Hid (∀ W S' vc', CnX W p S' (takeInC c s) vc' vm vw → Calls Try.prog 53 #[.pointer (some ⟨p, 0, none⟩)] W fun e w' => e = .returned (.bool (takeInS c s).2) ∧ ∃ S2 vc2 vm2, CnX w' p S2 (takeInS c s).1 vc2 vm2 vw ∧ Kp S' W S2 w') := hid (fun W S' vc' hx => by
    have hq : ∃ en en0, takeInC c s = { c1 with en := en, en0 := en0 } := by
      unfold takeInC
      rw [hc1]
      split
      · exact noteEndS_is _ _
      · exact ⟨c1.en, c1.en0, rfl⟩
    obtain ⟨en, en0, hq⟩ := hq
    exact goOn_any hx (by rw [hq]; exact hlv1) (by rw [hq]; exact hR1) (by rw [hq]; simp only; omega) (by rw [hq]; exact hE1))
  have hT : takeInC c s = if hasB s.fl 1 then noteEndS c1 (a32 s.seq n) else c1 := by unfold takeInC; rw [hc1, hn]
  rw [hc1] at HNO
  obtain ⟨RB_, hRB⟩ : ∃ x, (takeInS c s).2 = x := ⟨_, rfl⟩
  obtain ⟨RC, hRC⟩ : ∃ x, (takeInS c s).1 = x := ⟨_, rfl⟩
  rw [hRB, hRC] at HGO ⊢
  rw [hg] at h1
  have HgS := hid hgS
  have HG := hid hg
  have HSW : Hid (W1.heap.size = w.heap.size + 1) := hid (by rw [hW1]; simp)
  have H1 := hid h1
  have HB1 := hid b1
  obtain ⟨f, t, q, ak, fl, wi, mss, dat⟩ := s
  simp only at *
  have HHA : Hid (∀ W, Calls Try.prog 23 #[.agg (sgC f t q ak fl wi mss (.slice a n cp)), .int .i64 1] W fun e w' => e = .returned (.bool (hasB fl 1)) ∧ Below W.heap.size W w') := hid (fun W => has_any W f t q ak fl wi mss 1 _)
  have HED : Hid (∀ W, Calls Try.prog 52 #[.agg (sgC f t q ak fl wi mss (.slice a n cp))] W fun e w' => e = .returned (.int .u32 (a32 q n)) ∧ Below W.heap.size W w') := hid (fun W => end_any W f t q ak fl wi mss a n cp (by omega))
  have p2 := cell_of h1 (i := 2) (v := .int .u32 q) rfl
  have p7 := cell_of h1 (i := 7) (v := .slice a n cp) rfl
  have HW := hW1.symm
  clear h1 b1 hW1 h hcl hrb hlv hR hE hseq hn hl hc hb hec hns hn1 hn2 hn3 hn4 hc1 hc1e hcl1 hlv1 hR1 hec1 hE1 hgS hRB hRC
  cases hF : hasB fl 1 with
  | true =>
    rw [hF] at HHA hT
    simp only [if_true] at hT
    rw [hT] at HGO
    clear hF hT
    go_enter Try.func41, Try.ntmps41
    go_wp2_with (first
      | (go_at_call 50; refine HNO.out.mono ?_; rintro e w2 ⟨rfl, S2, vc2, hx2, hk2⟩; have hlt1 := (Array.getElem?_eq_some_iff.1 H1.out).1; have H2 := hid ((hk2.block hlt1 HgS.out).trans H1.out); have HX2 := hid hx2; have HK2 := hid (Kp.trans (Kp.below HB1.out) hk2); clear hx2 hk2 hlt1 HNO p2 p7)
      | (refine wpList_load_row rfl 30 _ rfl g rfl 30 _ (0, 0) _ H2.out Try.underlying30 rfl sizeSg ?_)
      | (go_at_call 23; refine (HHA.out _).mono ?_; rintro e w3 ⟨rfl, hb3⟩; have hlt2 := (Array.getElem?_eq_some_iff.1 H2.out).1; have H3 := hid ((hb3.block _ hlt2).trans H2.out); clear H2; have H2 := H3; clear H3; have HX3 := hid (HX2.out.later hb3); have HK3 := hid (Kp.trans HK2.out (Kp.below hb3)); clear hb3 hlt2 HHA HX2 HK2)
      | (go_at_call 52; refine (HED.out _).mono ?_; rintro e w4 ⟨rfl, hb4⟩; have HX4 := hid (HX3.out.later hb4); have HK4 := hid (Kp.trans HK3.out (Kp.below hb4)); clear hb4 HED HX3 HK3 H2)
      | (go_at_call 51; refine (HEN.out _ _ _ HX4.out).mono ?_; rintro e w5 ⟨rfl, hx5, hm5⟩; have HX5 := hid hx5; have HK5 := hid (Kp.trans HK4.out (HX4.out.kp hm5)); clear hx5 hm5 HEN HX4 HK4)
      | (go_at_call 53; refine (HGO.out _ _ _ HX5.out).mono ?_; rintro e w6 ⟨rfl, S6, vc6, vm6, hx6, hk6⟩; have HX6 := hid hx6; have HK6 := hid (Kp.trans HK5.out hk6); clear hx6 hk6 HGO HX5 HK5))
    go_ret
    first | exact ⟨rfl, S6, vc6, vm6, HX6.out, HK6.out⟩ | exact ⟨rfl, S6, vc6, ⟨vm6, HX6.out⟩, HK6.out⟩ | exact ⟨rfl, S6, ⟨vc6, vm6, HX6.out⟩, HK6.out⟩
  | false =>
    rw [hF] at HHA hT
    simp only [Bool.false_eq_true, if_false] at hT
    rw [hT] at HGO
    clear hF hT
    go_enter Try.func41, Try.ntmps41
    go_wp2_with (first
      | (go_at_call 50; refine HNO.out.mono ?_; rintro e w2 ⟨rfl, S2, vc2, hx2, hk2⟩; have hlt1 := (Array.getElem?_eq_some_iff.1 H1.out).1; have H2 := hid ((hk2.block hlt1 HgS.out).trans H1.out); have HX2 := hid hx2; have HK2 := hid (Kp.trans (Kp.below HB1.out) hk2); clear hx2 hk2 hlt1 HNO p2 p7)
      | (refine wpList_load_row rfl 30 _ rfl g rfl 30 _ (0, 0) _ H2.out Try.underlying30 rfl sizeSg ?_)
      | (go_at_call 23; refine (HHA.out _).mono ?_; rintro e w3 ⟨rfl, hb3⟩; have HX5 := hid (HX2.out.later hb3); have HK5 := hid (Kp.trans HK2.out (Kp.below hb3)); clear hb3 HHA HX2 HK2 H2)
      | (go_at_call 53; refine (HGO.out _ _ _ HX5.out).mono ?_; rintro e w6 ⟨rfl, S6, vc6, vm6, hx6, hk6⟩; have HX6 := hid hx6; have HK6 := hid (Kp.trans HK5.out hk6); clear hx6 hk6 HGO HX5 HK5))
    go_ret
    first | exact ⟨rfl, S6, vc6, vm6, HX6.out, HK6.out⟩ | exact ⟨rfl, S6, vc6, ⟨vm6, HX6.out⟩, HK6.out⟩ | exact ⟨rfl, S6, ⟨vc6, vm6, HX6.out⟩, HK6.out⟩
end Go.Proofs.Ytmmijbiapflneaa
