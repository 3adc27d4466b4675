/- IpEchoes: any body is answered as an echo, or refused, as the document says. -/
import Derived.Test.YtgdajplloamjcaaPdB
namespace Go.Proofs.Ytgdajplloamjcaa
open Go.RowKit Go.Maps
set_option linter.unusedVariables false
theorem inet_zero2 (x y : Int) (r : List Int) : inetL ([x, y, 0, 0] ++ r) = inetL ([x, y] ++ r) := by
  unfold inetL
  simp only [List.cons_append, List.nil_append, wsum]
  rw [show (0 + 1 + 1 + 1 + 1 : Nat) = 2 + 2 by rfl, wsum_par 2]
  simp
theorem empty0 (w : World) : GO (w.alloc (.cells #[] 5)) w.heap.size (.slice (some ⟨w.heap.size, 0, none⟩) 0 0) [] :=
  ⟨fun x hx => by simp at hx, rfl, .inr ⟨w.heap.size, 0, _, rfl, Nat.le_refl _, alloc_new w _, Nat.le_refl _, by unfold maxLen; omega, by simp, by simp [u8s]⟩⟩
/-- A copy of one's own. -/
theorem ownCopy (w : World) (a : Option Addr) (n c : Nat) (l : List Int) (hn : l.length = n) (hl : n ≤ 800000) (hb : Bytes w a l) : ∃ W1, W1 = w.alloc (.cells #[] 5) ∧ ∃ a2 c2 w2, (Builtin.append_ #[22, 22] 22 #[.slice (some ⟨w.heap.size, 0, none⟩) 0 0, .slice a n c]).run Try.prog W1 = .ok (.slice a2 n c2) w2 ∧ GO w2 w.heap.size (.slice a2 n c2) l ∧ Below w.heap.size w w2 := by
  obtain ⟨W1, hW1, b1⟩ := newW w (.cells #[] 5)
  have hz := empty0 w
  rw [← hW1] at hz
  obtain ⟨a2, c2, w2, hap, hg2, hb2⟩ := hz.push rfl b1.size l a n c hn (hb.later b1) (by omega) 22
  rw [Nat.zero_add, List.nil_append] at *
  exact ⟨W1, hW1, a2, c2, w2, hap, hg2, b1.trans hb2⟩
set_option maxRecDepth 100000 in
set_option maxHeartbeats 4000000 in
theorem IpEchoes_plain (w : World) (a : Option Addr) (n c : Nat) (l : List Int) (right : Bool) (hn : l.length = n) (hc : n ≤ c) (hb : Bytes w a l) (hl : n ≤ 5000) (hno : right = false ∨ n < 8) :
    Calls Try.prog 5 #[.slice a n c, .bool right] w fun e w' => e = .returned (.bool true) ∧ Below w.heap.size w w' := by
  have hli : ¬ ((5000 : Int) < n) := by omega
  have HBY := hid hb
  have HN := hid hn
  clear hb hn
  have hrt : right = false ∨ (right = true ∧ (n : Int) < 8) := by
    rcases hno with h | h
    · exact .inl h
    · cases right
      · exact .inl rfl
      · exact .inr ⟨rfl, by omega⟩
  clear hno
  have fin : ∀ R : Prop, (right = false → R) → ((right = true ∧ (n : Int) < 8) → R) → R := fun R h1 h2 => hrt.elim h1 h2
  rcases hrt with rfl | ⟨rfl, hn8⟩
  · have HKN := hid (known_any w)
    have HOC := hid (fun w1 (h : Below w.heap.size w w1) => ownCopy w1 a n c l HN.out (by omega) (HBY.out.later h))
    obtain ⟨E, hE⟩ : ∃ E, ecE l = E := ⟨_, rfl⟩
    obtain ⟨R, hR⟩ : ∃ R, ecL l = R := ⟨_, rfl⟩
    obtain ⟨sl, hsl⟩ : ∃ sl, strOfNums R = sl := ⟨_, rfl⟩
    have HEA := hid (fun (W : World) (a2 : Option Addr) (c2 : Nat) (hc2 : n ≤ c2) (h : Bytes W a2 l) => Echo_any W a2 n c2 l HN.out (by omega) hc2 h)
    have HEB := hid (fun (W : World) (a2 : Option Addr) (c2 : Nat) (hc2 : n ≤ c2) (h : Bytes W a2 l) => rEcho_any W a2 n c2 l HN.out (by omega) hc2 h)
    rw [hE, hR] at HEA HEB
    have HSL := hid hsl
    clear hE hR hsl fin
    go_enter Try.func5, Try.ntmps5
    go_wp2_with (first
      | (go_at_call 7; refine HKN.out.mono ?_; rintro e w1 ⟨rfl, hb1⟩; obtain ⟨W2, hW2, a2, c2, w2, hap, hg2, hb2⟩ := HOC.out w1 hb1; have HW2 := hW2.symm; have HB2 := hid (hb1.trans (hb2.mono hb1.size)); obtain ⟨x2, y2, e2, hc2, hy2⟩ := hg2.by_ (S := fun _ => True) (fun _ _ => trivial); rw [HN.out] at e2 hc2; simp only [Value.slice.injEq, true_and] at e2; obtain ⟨rfl, rfl⟩ := e2; have HY2 := hid hy2; have HC2 := hid hc2; clear hW2 hb1 hb2 hg2 hy2 hc2 HOC HKN)
      | (at_builtin; refine wpList_append_run rfl _ _ 22 rfl rfl rfl hap ?_)
      | (go_at_call 18; refine (HEA.out _ _ _ HC2.out HY2.out.bytes).mono ?_; rintro e w6 ⟨aA, cA, rfl, hyA, hcA, hb6⟩; have HB6 := hid hb6; have HYA := hid hyA; clear hyA hcA hb6 HEA)
      | (go_at_call 19; refine (HEB.out _ _ _ HC2.out (HY2.out.bytes.later HB6.out)).mono ?_; rintro e w8 ⟨aB, cB, rfl, hyB, hcB, hb8⟩; have HB8 := hid (HB6.out.trans (hb8.mono HB6.out.size)); have cvA := conv0 (cap := cA) (HYA.out.bytes.later hb8) rfl; have cvB := conv0 (cap := cB) hyB.bytes rfl; rw [HSL.out] at cvA cvB; clear hyB hcB hb8 HEB))
    go_ret
    exact ⟨rfl, HB2.out.trans (HB8.out.mono HB2.out.size)⟩
  · have HKN := hid (known_any w)
    have HOC := hid (fun w1 (h : Below w.heap.size w w1) => ownCopy w1 a n c l HN.out (by omega) (HBY.out.later h))
    obtain ⟨E, hE⟩ : ∃ E, ecE l = E := ⟨_, rfl⟩
    obtain ⟨R, hR⟩ : ∃ R, ecL l = R := ⟨_, rfl⟩
    obtain ⟨sl, hsl⟩ : ∃ sl, strOfNums R = sl := ⟨_, rfl⟩
    have HEA := hid (fun (W : World) (a2 : Option Addr) (c2 : Nat) (hc2 : n ≤ c2) (h : Bytes W a2 l) => Echo_any W a2 n c2 l HN.out (by omega) hc2 h)
    have HEB := hid (fun (W : World) (a2 : Option Addr) (c2 : Nat) (hc2 : n ≤ c2) (h : Bytes W a2 l) => rEcho_any W a2 n c2 l HN.out (by omega) hc2 h)
    rw [hE, hR] at HEA HEB
    have HSL := hid hsl
    clear hE hR hsl fin
    go_enter Try.func5, Try.ntmps5
    go_wp2_with (first
      | (go_at_call 7; refine HKN.out.mono ?_; rintro e w1 ⟨rfl, hb1⟩; obtain ⟨W2, hW2, a2, c2, w2, hap, hg2, hb2⟩ := HOC.out w1 hb1; have HW2 := hW2.symm; have HB2 := hid (hb1.trans (hb2.mono hb1.size)); obtain ⟨x2, y2, e2, hc2, hy2⟩ := hg2.by_ (S := fun _ => True) (fun _ _ => trivial); rw [HN.out] at e2 hc2; simp only [Value.slice.injEq, true_and] at e2; obtain ⟨rfl, rfl⟩ := e2; have HY2 := hid hy2; have HC2 := hid hc2; clear hW2 hb1 hb2 hg2 hy2 hc2 HOC HKN)
      | (at_builtin; refine wpList_append_run rfl _ _ 22 rfl rfl rfl hap ?_)
      | (go_at_call 18; refine (HEA.out _ _ _ HC2.out HY2.out.bytes).mono ?_; rintro e w6 ⟨aA, cA, rfl, hyA, hcA, hb6⟩; have HB6 := hid hb6; have HYA := hid hyA; clear hyA hcA hb6 HEA)
      | (go_at_call 19; refine (HEB.out _ _ _ HC2.out (HY2.out.bytes.later HB6.out)).mono ?_; rintro e w8 ⟨aB, cB, rfl, hyB, hcB, hb8⟩; have HB8 := hid (HB6.out.trans (hb8.mono HB6.out.size)); have cvA := conv0 (cap := cA) (HYA.out.bytes.later hb8) rfl; have cvB := conv0 (cap := cB) hyB.bytes rfl; rw [HSL.out] at cvA cvB; clear hyB hcB hb8 HEB))
    go_ret
    exact ⟨rfl, HB2.out.trans (HB8.out.mono HB2.out.size)⟩
set_option maxRecDepth 100000 in
set_option maxHeartbeats 8000000 in
theorem IpEchoes_right (w : World) (a : Option Addr) (n c : Nat) (l : List Int) (hn : l.length = n) (hc : n ≤ c) (hb : Bytes w a l) (hl : n ≤ 5000) (h8 : 8 ≤ n) :
    Calls Try.prog 5 #[.slice a n c, .bool true] w fun e w' => e = .returned (.bool true) ∧ Below w.heap.size w w' := by
  have hli : ¬ ((5000 : Int) < n) := by omega
  have h8i : (8 : Int) ≤ n := by omega
  have HKN := hid (known_any w)
  have HALL : Hid (∀ w1 : World, Below w.heap.size w w1 → ∃ W2, W2 = w1.alloc (.cells #[] 5) ∧ ∃ g c2 w3, (Builtin.append_ #[22, 22] 22 #[.slice (some ⟨w1.heap.size, 0, none⟩) 0 0, .slice a n c]).run Try.prog W2 = .ok (.slice (some ⟨g, 0, none⟩) n c2) w3 ∧ n ≤ c2 ∧ ∃ A0, A0 = w3.setCell ⟨g, 0, none⟩ (.int .u8 8) ∧ ∃ A1, A1 = A0.setCell ⟨g, 1, none⟩ (.int .u8 0) ∧ ∃ A2, A2 = A1.setCell ⟨g, 2, none⟩ (.int .u8 0) ∧ ∃ A3, A3 = A2.setCell ⟨g, 3, none⟩ (.int .u8 0) ∧ (∃ x0 x1 x2 x3, w3.cell? ⟨g, 0, none⟩ = some (.int .u8 x0) ∧ A0.cell? ⟨g, 1, none⟩ = some (.int .u8 x1) ∧ A1.cell? ⟨g, 2, none⟩ = some (.int .u8 x2) ∧ A2.cell? ⟨g, 3, none⟩ = some (.int .u8 x3)) ∧ (w3.frozen? ⟨g, 0, none⟩ = false ∧ A0.frozen? ⟨g, 1, none⟩ = false ∧ A1.frozen? ⟨g, 2, none⟩ = false ∧ A2.frozen? ⟨g, 3, none⟩ = false) ∧ ∃ S, Bytes A3 (some ⟨g, 0, none⟩) ([8, 0, 0, 0] ++ l.drop 4) ∧ S = inetL ([8, 0, 0, 0] ++ l.drop 4) ∧ 0 ≤ S ∧ S ≤ 65535 ∧ ∃ A4, A4 = A3.setCell ⟨g, 2, none⟩ (.int .u8 (S / 256)) ∧ ∃ A5, A5 = A4.setCell ⟨g, 3, none⟩ (.int .u8 (S % 256)) ∧ (∃ x4 x5, A3.cell? ⟨g, 2, none⟩ = some (.int .u8 x4) ∧ A4.cell? ⟨g, 3, none⟩ = some (.int .u8 x5)) ∧ (A3.frozen? ⟨g, 2, none⟩ = false ∧ A4.frozen? ⟨g, 3, none⟩ = false) ∧ Bytes A5 (some ⟨g, 0, none⟩) ([8, 0] ++ bytesBe 2 S ++ l.drop 4) ∧ Below w.heap.size w A5) := hid (fun w1 hw1 => by
    obtain ⟨W2, hW2, a2, c2, w3, hap, hg3, hb3⟩ := ownCopy w1 a n c l hn (by omega) (hb.later hw1)
    obtain ⟨g, cur, rfl, hgB, hh, hcc, hcs, hbc⟩ := hg3.cells hn (by omega)
    have hgw : w.heap.size ≤ g := Nat.le_trans hw1.size hgB
    have b3 := hw1.trans (hb3.mono hw1.size)
    obtain ⟨A0, e0, h0, b0, _, _⟩ := setP hh 0 (.int .u8 8) w.heap.size w b3 hgw
    obtain ⟨A1, e1, h1, b1, _, _⟩ := setP h0 1 (.int .u8 0) w.heap.size w b0 hgw
    obtain ⟨A2, e2, h2, b2, _, _⟩ := setP h1 2 (.int .u8 0) w.heap.size w b1 hgw
    obtain ⟨A3, e3, h3, b3', _, _⟩ := setP h2 3 (.int .u8 0) w.heap.size w b2 hgw
    have k0 := hbc.set 0 8 (by omega)
    have k1 := k0.set 1 0 (by simp; omega)
    have k2 := k1.set 2 0 (by simp; omega)
    have k3 := k2.set 3 0 (by simp; omega)
    have hI : ∀ x ∈ l, IsB x := hb.isB
    have eL : (((l.set 0 8).set 1 0).set 2 0).set 3 0 = [8, 0, 0, 0] ++ l.drop 4 := by
      match l, hn, h8 with
      | p0 :: p1 :: p2 :: p3 :: r, _, _ => rfl
      | [], h1, h2 => simp at h1; omega
      | [_], h1, h2 => simp at h1; omega
      | [_, _], h1, h2 => simp at h1; omega
      | [_, _, _], h1, h2 => simp at h1; omega
    have hI3 : ∀ x ∈ [8, 0, 0, 0] ++ l.drop 4, IsB x := by
      rw [← eL]
      have z : IsB 0 := by unfold IsB; omega
      exact isB_set (isB_set (isB_set (isB_set hI 0 (by unfold IsB; omega)) 1 z) 2 z) 3 z
    rw [eL] at k3
    have hib := inetL_bd _ hI3
    obtain ⟨S, hS⟩ : ∃ S, S = inetL ([8, 0, 0, 0] ++ l.drop 4) := ⟨_, rfl⟩
    rw [← hS] at hib
    obtain ⟨A4, e4, h4, b4, _, _⟩ := setP h3 2 (.int .u8 (S / 256)) w.heap.size w b3' hgw
    obtain ⟨A5, e5, h5, b5, _, _⟩ := setP h4 3 (.int .u8 (S % 256)) w.heap.size w b4 hgw
    have k4 := k3.set 2 (S / 256) (by simp)
    have k5 := k4.set 3 (S % 256) (by simp)
    have eM : (([8, 0, 0, 0] ++ l.drop 4).set 2 (S / 256)).set 3 (S % 256) = [8, 0] ++ bytesBe 2 S ++ l.drop 4 := by
      rw [be2, show S / 256 % 256 = S / 256 by omega]; rfl
    have hI5 : ∀ x ∈ [8, 0] ++ bytesBe 2 S ++ l.drop 4, IsB x := by
      rw [← eM]; exact isB_set (isB_set hI3 2 (by unfold IsB; omega)) 3 (by unfold IsB; omega)
    rw [eM] at k5
    exact ⟨W2, hW2, g, c2, w3, hap, hcc, A0, e0, A1, e1, A2, e2, A3, e3, ⟨_, _, _, _, cell_of hh (hbc 0 (by omega)), cell_of h0 (k0 1 (by simp; omega)), cell_of h1 (k1 2 (by simp; omega)), cell_of h2 (k2 3 (by simp; omega))⟩, ⟨froz_of hh 0, froz_of h0 1, froz_of h1 2, froz_of h2 3⟩, S, (k3.bytes (S := fun _ => True) h3 hI3 trivial).bytes, hS, hib.1, hib.2, A4, e4, A5, e5, ⟨_, _, cell_of h3 (k3 2 (by simp)), cell_of h4 (k4 3 (by simp))⟩, ⟨froz_of h3 2, froz_of h4 3⟩, (k5.bytes (S := fun _ => True) h5 hI5 trivial).bytes, b5⟩)
  obtain ⟨r, hr⟩ : ∃ r, r = l.drop 4 := ⟨_, rfl⟩
  have hrl : r.length = n - 4 := by rw [hr]; simp; omega
  have hrI : ∀ x ∈ r, IsB x := fun x hx => hb.isB x (by rw [hr] at hx; exact List.mem_of_mem_drop hx)
  rw [← hr] at HALL
  have HRL := hid hrl
  have HRI := hid hrI
  clear hr hb hn hrl hrI
  go_enter Try.func5, Try.ntmps5
  go_upto_region 8 with (first
    | (go_at_call 7; refine HKN.out.mono ?_; rintro e w1 ⟨rfl, hb1⟩; obtain ⟨W2, hW2, g, c2, w3, hap, hcc, A0, e0, A1, e1, A2, e2, A3, e3, ⟨x0, x1, x2, x3, y0, y1, y2, y3⟩, ⟨f0, f1, f2, f3⟩, S, hy3, hS, hS0, hS1, A4, e4, A5, e5, ⟨x4, x5, y4, y5⟩, ⟨f4, f5⟩, hy5, hbA⟩ := HALL.out w1 hb1; have HW2 := hW2.symm; have E0 := e0.symm; have E1 := e1.symm; have E2 := e2.symm; have E3 := e3.symm; have E4 := hid e4.symm; have E5 := hid e5.symm; have Y4 := hid (And.intro y4 (And.intro y5 (And.intro f4 f5))); have HY3 := hid hy3; have HS := hid (And.intro hS (And.intro hS0 hS1)); have HY5 := hid hy5; have HBA := hid hbA; clear hW2 e0 e1 e2 e3 e4 e5 y4 y5 f4 f5 hy3 hS hS0 hS1 hy5 hbA hb1 HALL HKN)
    | (at_builtin; refine wpList_append_run rfl _ _ 22 rfl rfl rfl hap ?_))
  clear hap HW2 E0 E1 E2 E3 y0 y1 y2 y3 f0 f1 f2 f3
  have hS1 := HS.out.2.2
  have hS0 := HS.out.2.1
  have E4' := E4.out
  have E5' := E5.out
  obtain ⟨y4, y5, f4, f5⟩ := Y4.out
  have hw8 : IntKind.u8.wrap (S / 256) = S / 256 := IntWalk.u8_in _ (by omega)
  have hw9 : IntKind.u8.wrap S = S % 256 := IntKind.wrap_u8 S
  have HIN := hid (linet_at (some ⟨g, 0, none⟩) n c2 ([8, 0, 0, 0] ++ r) A3 (by have := HRL.out; simp; omega) (by omega) HY3.out)
  rw [← HS.out.1] at HIN
  go_upto_region 10 with (go_at_call 17; refine HIN.out.mono ?_; rintro e w9 ⟨rfl, rfl⟩; clear HIN)
  clear E4' E5' y4 y5 f4 f5 hw8 hw9 E4 E5 Y4 HY3
  obtain ⟨L2, hL2⟩ : ∃ L, L = [8, 0] ++ bytesBe 2 S ++ r := ⟨_, rfl⟩
  have hLn : L2.length = n := by rw [hL2]; have := HRL.out; simp [len_be]; omega
  have hLd : L2.drop 4 = r := by rw [hL2, be2]; rfl
  have hL0 : inetL L2 = 0 := by rw [hL2, HS.out.1, inet_zero2]; exact inet_own 8 0 r (by unfold IsB; omega) (by unfold IsB; omega) HRI.out
  have hE : ecE L2 = 0 := by
    unfold ecE
    rw [if_neg (by omega), if_neg (by simpa using hL0), if_neg (by rw [hL2, be2]; simp [beOf, beOn])]
  obtain ⟨R, hR⟩ : ∃ R, R = ecR L2 := ⟨_, rfl⟩
  have hLL : ecL L2 = R := by unfold ecL; rw [if_pos hE, hR]
  have hRn : R.length = n := by rw [hR, ecR_len L2 (by omega), hLn]
  have hR2 : R = [0, 0] ++ bytesBe 2 (inetL ([0, 0] ++ r)) ++ r := by rw [hR]; unfold ecR; rw [hLd, show bytesBe 2 0 = [0, 0] by decide]
  have hRd : R.drop 4 = r := by rw [hR2, be2]; rfl
  have hR0 : inetL R = 0 := by rw [hR2]; exact inet_own 0 0 r (by unfold IsB; omega) (by unfold IsB; omega) HRI.out
  have hRg : R.getD 0 0 = 0 := by rw [hR2]; rfl
  have HY5' := HY5.out
  rw [← hL2] at HY5'
  have HEA := Echo_any A5 (some ⟨g, 0, none⟩) n c2 L2 hLn (by omega) hcc HY5'
  have HEB := fun W (h : Below A5.heap.size A5 W) => rEcho_any W (some ⟨g, 0, none⟩) n c2 L2 hLn (by omega) hcc (HY5'.later h)
  rw [hE, hLL, hRn] at HEA HEB
  have HEA := hid HEA
  have HEB := hid HEB
  have HYL := hid HY5'
  have HR0 := hid (And.intro (show 0 < R.length by omega) hRg)
  have HRN := hid hRn
  have HLN := hid hLn
  have HRD := hid (And.intro hRd HRL.out)
  have HLD := hid (And.intro hLd HRL.out)
  have HRI0 := hid hR0
  obtain ⟨sl, hsl⟩ : ∃ sl, strOfNums r = sl := ⟨_, rfl⟩
  have HSL := hid hsl
  obtain ⟨sR, hsR⟩ : ∃ sR, strOfNums R = sR := ⟨_, rfl⟩
  have HSR := hid hsR
  obtain ⟨a5, hcutC, hcbC⟩ := cut_l (some ⟨g, 0, none⟩) n c2 4 (by omega) hcc
  have hcutC' : ∀ W : World, (Instr.slice 22 (.slice (some ⟨g, 0, none⟩) n c2) (some (.int .i64 4)) none none).run Try.prog W = .ok (.slice a5 (n - 4) (c2 - 4)) W := hcutC
  have HCC := hid hcbC
  clear hL2 hLn hLd hL0 hE hR hLL hRn hR2 hRd hR0 hRg HY5' hsl hsR hcutC hcbC hS0 hS1
  go_upto_region 15 with (first
    | (go_at_call 18; refine HEA.out.mono ?_; rintro e w6 ⟨aA, cA, rfl, hyA, hcA, hb6⟩; have HB6 := hid hb6; have HYA := hid hyA; obtain ⟨ba, oa, haA, _⟩ := hyA.bytes.open_ HR0.out.1; subst haA; obtain ⟨a4, hcutA, hcbA⟩ := cut_l (some ⟨ba, oa, none⟩) n cA 4 (by omega) hcA; have hcutA' : ∀ W : World, (Instr.slice 22 (.slice (some ⟨ba, oa, none⟩) n cA) (some (.int .i64 4)) none none).run Try.prog W = .ok (.slice a4 (n - 4) (cA - 4)) W := hcutA; have HCA := hid hcbA; clear hyA hcA hb6 HEA hcutA hcbA)
    | (go_at_call 19; refine (HEB.out _ HB6.out).mono ?_; rintro e w8 ⟨aB, cB, rfl, hyB, hcB, hb8⟩; have HB8 := hid (HB6.out.trans (hb8.mono HB6.out.size)); have cvA := conv0 (cap := cA) (HYA.out.bytes.later hb8) HRN.out; have cvB := conv0 (cap := cB) hyB.bytes HRN.out; rw [HSR.out] at cvA cvB; have HS0 := hid (And.intro (HYA.out.bytes.later hb8) (HYL.out.later HB8.out)); clear hyB hcB hb8 HEB))
  clear cvA cvB
  have hn0 : ¬ n = 0 := by omega
  have HIA := hid (linet_at (some ⟨ba, oa, none⟩) n cA R w8.drew HRN.out (by omega) (HS0.out.1.later ((Below.refl _ _).drew)))
  rw [HRI0.out] at HIA
  try simp only [Act.put]
  refine wp_region_held_drew (S := fun W => Bytes W (some ⟨ba, oa, none⟩) R ∧ Bytes W (some ⟨g, 0, none⟩) L2) (by kernel_rfl) HS0.out (fun hS => ?_)
  refine nany_take 0 70 (.int .i64 0) rfl rfl (by kernel_rfl) (by kernel_rfl) (by kernel_rfl) (fun _ _ _ h => h) (Or.inl ⟨by rfl, ?_⟩) hS ?_
  · rintro w' hS'
    go_simp
  simp only [List.setIfInBounds_toArray, List.set_cons_zero, List.set_cons_succ]
  refine nany_take 1 71 (.bool true) rfl rfl (by kernel_rfl) (by kernel_rfl) (by kernel_rfl) (fun _ _ _ h => h) (Or.inl ⟨by rfl, ?_⟩) hS ?_
  · rintro w' hS'
    go_simp
  simp only [List.setIfInBounds_toArray, List.set_cons_zero, List.set_cons_succ]
  refine nany_take 2 72 (.bool true) rfl rfl (by kernel_rfl) (by kernel_rfl) (by kernel_rfl) (fun _ _ _ h => h) (Or.inl ⟨by rfl, ?_⟩) hS ?_
  · rintro w' hS'
    go_simp
  simp only [List.setIfInBounds_toArray, List.set_cons_zero, List.set_cons_succ]
  refine nany_take 3 73 (.slice (some ⟨ba, oa, none⟩) n cA) rfl rfl (by kernel_rfl) (by kernel_rfl) (by kernel_rfl) (fun _ _ _ h => h) (Or.inl ⟨by rfl, ?_⟩) hS ?_
  · rintro w' hS'
    go_simp
  simp only [List.setIfInBounds_toArray, List.set_cons_zero, List.set_cons_succ]
  refine nany_take 4 74 (.int .i64 n) rfl rfl (by kernel_rfl) (by kernel_rfl) (by kernel_rfl) (fun _ _ _ h => h) (Or.inl ⟨by rfl, ?_⟩) hS ?_
  · rintro w' hS'
    go_simp
  simp only [List.setIfInBounds_toArray, List.set_cons_zero, List.set_cons_succ]
  refine nany_take 5 75 (.slice (some ⟨g, 0, none⟩) n c2) rfl rfl (by kernel_rfl) (by kernel_rfl) (by kernel_rfl) (fun _ _ _ h => h) (Or.inl ⟨by rfl, ?_⟩) hS ?_
  · rintro w' hS'
    go_simp
  simp only [List.setIfInBounds_toArray, List.set_cons_zero, List.set_cons_succ]
  refine nany_take 6 76 (.int .i64 n) rfl rfl (by kernel_rfl) (by kernel_rfl) (by kernel_rfl) (fun _ _ _ h => h) (Or.inl ⟨by rfl, ?_⟩) hS ?_
  · rintro w' hS'
    go_simp
  simp only [List.setIfInBounds_toArray, List.set_cons_zero, List.set_cons_succ]
  refine nany_take 7 77 (.bool true) rfl rfl (by kernel_rfl) (by kernel_rfl) (by kernel_rfl) (fun _ _ _ h => h) (Or.inl ⟨by rfl, ?_⟩) hS ?_
  · rintro w' hS'
    go_simp
  simp only [List.setIfInBounds_toArray, List.set_cons_zero, List.set_cons_succ]
  refine nany_take 8 78 (.bool true) rfl rfl (by kernel_rfl) (by kernel_rfl) (by kernel_rfl) (fun _ _ _ h => h) (Or.inl ⟨by rfl, ?_⟩) hS ?_
  · rintro w' hS'
    go_simp
  simp only [List.setIfInBounds_toArray, List.set_cons_zero, List.set_cons_succ]
  refine nany_take 9 79 (.bool true) rfl rfl (by kernel_rfl) (by kernel_rfl) (by kernel_rfl) (fun _ _ _ h => h) (Or.inl ⟨by rfl, ?_⟩) hS ?_
  · rintro w' hS'
    go_simp
  simp only [List.setIfInBounds_toArray, List.set_cons_zero, List.set_cons_succ]
  refine nany_take 10 80 (.slice (some ⟨ba, oa, none⟩) n cA) rfl rfl (by kernel_rfl) (by kernel_rfl) (by kernel_rfl) (fun _ _ _ h => h) (Or.inl ⟨by rfl, ?_⟩) hS ?_
  · rintro w' hS'
    go_simp
  simp only [List.setIfInBounds_toArray, List.set_cons_zero, List.set_cons_succ]
  refine nany_take 11 81 (.pointer (some ⟨ba, oa, none⟩)) rfl rfl (by kernel_rfl) (by kernel_rfl) (by kernel_rfl) (fun _ _ _ h => h) (Or.inl ⟨by rfl, ?_⟩) hS ?_
  · rintro w' hS'
    go_simp
  simp only [List.setIfInBounds_toArray, List.set_cons_zero, List.set_cons_succ]
  refine nany_take 12 82 (.int .u8 0) rfl rfl (by kernel_rfl) (by kernel_rfl) (by kernel_rfl) (fun _ _ _ h => h) (Or.inl ⟨by rfl, ?_⟩) hS ?_
  · rintro w' hS'
    have hc0 := hS'.1.at_ 0 HR0.out.1; rw [HR0.out.2, Nat.add_zero] at hc0; go_simp
  simp only [List.setIfInBounds_toArray, List.set_cons_zero, List.set_cons_succ]
  refine nany_take 13 83 (.bool true) rfl rfl (by kernel_rfl) (by kernel_rfl) (by kernel_rfl) (fun _ _ _ h => h) (Or.inl ⟨by rfl, ?_⟩) hS ?_
  · rintro w' hS'
    go_simp
  simp only [List.setIfInBounds_toArray, List.set_cons_zero, List.set_cons_succ]
  refine nany_take 14 84 (.bool true) rfl rfl (by kernel_rfl) (by kernel_rfl) (by kernel_rfl) (fun _ _ _ h => h) (Or.inl ⟨by rfl, ?_⟩) hS ?_
  · rintro w' hS'
    go_simp
  simp only [List.setIfInBounds_toArray, List.set_cons_zero, List.set_cons_succ]
  refine nany_take 15 85 (.bool true) rfl rfl (by kernel_rfl) (by kernel_rfl) (by kernel_rfl) (fun _ _ _ h => h) (Or.inl ⟨by rfl, ?_⟩) hS ?_
  · rintro w' hS'
    go_simp
  simp only [List.setIfInBounds_toArray, List.set_cons_zero, List.set_cons_succ]
  refine nany_take 16 86 (.slice (some ⟨ba, oa, none⟩) n cA) rfl rfl (by kernel_rfl) (by kernel_rfl) (by kernel_rfl) (fun _ _ _ h => h) (Or.inl ⟨by rfl, ?_⟩) hS ?_
  · rintro w' hS'
    go_simp
  simp only [List.setIfInBounds_toArray, List.set_cons_zero, List.set_cons_succ]
  refine nany_take 17 87 (.slice a4 (n - 4) (cA - 4)) rfl rfl (by kernel_rfl) (by kernel_rfl) (by kernel_rfl) (fun _ _ _ h => h) (Or.inl ⟨by rfl, ?_⟩) hS ?_
  · rintro w' hS'
    go_simp
  simp only [List.setIfInBounds_toArray, List.set_cons_zero, List.set_cons_succ]
  refine nany_take 18 88 (.string sl) rfl rfl (by kernel_rfl) (by kernel_rfl) (by kernel_rfl) (fun _ _ _ h => h) (Or.inl ⟨by rfl, ?_⟩) hS ?_
  · rintro w' hS'
    have hcv := conv0 (cap := cA - 4) (HCA.out w' R HRN.out hS'.1) (show (R.drop 4).length = n - 4 by rw [HRD.out.1]; exact HRD.out.2); rw [HRD.out.1, HSL.out] at hcv; go_simp
  simp only [List.setIfInBounds_toArray, List.set_cons_zero, List.set_cons_succ]
  refine nany_take 19 89 (.slice (some ⟨g, 0, none⟩) n c2) rfl rfl (by kernel_rfl) (by kernel_rfl) (by kernel_rfl) (fun _ _ _ h => h) (Or.inl ⟨by rfl, ?_⟩) hS ?_
  · rintro w' hS'
    go_simp
  simp only [List.setIfInBounds_toArray, List.set_cons_zero, List.set_cons_succ]
  refine nany_take 20 90 (.slice a5 (n - 4) (c2 - 4)) rfl rfl (by kernel_rfl) (by kernel_rfl) (by kernel_rfl) (fun _ _ _ h => h) (Or.inl ⟨by rfl, ?_⟩) hS ?_
  · rintro w' hS'
    go_simp
  simp only [List.setIfInBounds_toArray, List.set_cons_zero, List.set_cons_succ]
  refine nany_take 21 91 (.string sl) rfl rfl (by kernel_rfl) (by kernel_rfl) (by kernel_rfl) (fun _ _ _ h => h) (Or.inl ⟨by rfl, ?_⟩) hS ?_
  · rintro w' hS'
    have hcv := conv0 (cap := c2 - 4) (HCC.out w' L2 HLN.out hS'.2) (show (L2.drop 4).length = n - 4 by rw [HLD.out.1]; exact HLD.out.2); rw [HLD.out.1, HSL.out] at hcv; go_simp
  simp only [List.setIfInBounds_toArray, List.set_cons_zero, List.set_cons_succ]
  refine nany_take 22 92 (.bool true) rfl rfl (by kernel_rfl) (by kernel_rfl) (by kernel_rfl) (fun _ _ _ h => h) (Or.inl ⟨by rfl, ?_⟩) hS ?_
  · rintro w' hS'
    go_simp
  simp only [List.setIfInBounds_toArray, List.set_cons_zero, List.set_cons_succ]
  refine nany_take 23 93 (.bool true) rfl rfl (by kernel_rfl) (by kernel_rfl) (by kernel_rfl) (fun _ _ _ h => h) (Or.inl ⟨by rfl, ?_⟩) hS ?_
  · rintro w' hS'
    go_simp
  simp only [List.setIfInBounds_toArray, List.set_cons_zero, List.set_cons_succ]
  refine nany_take 24 94 (.bool true) rfl rfl (by kernel_rfl) (by kernel_rfl) (by kernel_rfl) (fun _ _ _ h => h) (Or.inl ⟨by rfl, ?_⟩) hS ?_
  · rintro w' hS'
    go_simp
  simp only [List.setIfInBounds_toArray, List.set_cons_zero, List.set_cons_succ]
  refine nany_take 25 95 (.slice (some ⟨ba, oa, none⟩) n cA) rfl rfl (by kernel_rfl) (by kernel_rfl) (by kernel_rfl) (fun _ _ _ h => h) (Or.inl ⟨by rfl, ?_⟩) hS ?_
  · rintro w' hS'
    go_simp
  simp only [List.setIfInBounds_toArray, List.set_cons_zero, List.set_cons_succ]
  refine nany_one 26 (by kernel_rfl) ?_
  refine nop_callE 96 (f := 17) (args := #[.slice (some ⟨ba, oa, none⟩) n cA]) (R := fun v w' => v = .int .u16 0 ∧ w' = w8.drew) rfl (by rfl) rfl (by go_simp) (HIA.out.mono (fun e w' h => ⟨_, h.1, rfl, h.2⟩)) ?_
  rintro v w9 ⟨rfl, rfl⟩
  refine ⟨hS, ?_⟩
  simp only [List.setIfInBounds_toArray, List.set_cons_zero, List.set_cons_succ]
  refine nany_take 27 97 (.bool true) rfl rfl (by kernel_rfl) (by kernel_rfl) (by kernel_rfl) (fun _ _ _ h => h) (Or.inl ⟨by rfl, ?_⟩) hS ?_
  · rintro w' hS'
    go_simp
  simp only [List.setIfInBounds_toArray, List.set_cons_zero, List.set_cons_succ]
  refine nany_take 28 98 (.bool true) rfl rfl (by kernel_rfl) (by kernel_rfl) (by kernel_rfl) (fun _ _ _ h => h) (Or.inl ⟨by rfl, ?_⟩) hS ?_
  · rintro w' hS'
    go_simp
  simp only [List.setIfInBounds_toArray, List.set_cons_zero, List.set_cons_succ]
  refine nany_take 29 4 (.bool true) rfl rfl (by kernel_rfl) (by kernel_rfl) (by kernel_rfl) (fun _ _ _ h => h) (Or.inl ⟨by rfl, ?_⟩) hS ?_
  · rintro w' hS'
    go_simp
  simp only [List.setIfInBounds_toArray, List.set_cons_zero, List.set_cons_succ]
  refine wpAnyH_done (by kernel_rfl) ?_ _
  have h2 := HBA.out.trans (HB8.out.mono HBA.out.size)
  have HF := hid h2.drew
  clear h2 hS
  go_wp2
  go_ret
  exact ⟨rfl, HF.out⟩
theorem IpEchoes_walk (w : World) (a : Option Addr) (n c : Nat) (l : List Int) (right : Bool) (hn : l.length = n) (hm : n ≤ maxLen) (hc : n ≤ c) (hb : Bytes w a l) :
    Calls Try.prog 5 #[.slice a n c, .bool right] w fun e w' => e = .returned (.bool true) ∧ Below w.heap.size w w' := by
  by_cases hl : n ≤ 5000
  · by_cases h8 : right = true ∧ 8 ≤ n
    · obtain ⟨rfl, h8⟩ := h8
      exact IpEchoes_right w a n c l hn hc hb hl h8
    · exact IpEchoes_plain w a n c l right hn hc hb hl (by cases right <;> simp at h8 ⊢; omega)
  · unfold maxLen at hm
    have hli : (5000 : Int) < n := by omega
    have HKN := hid (known_any w)
    clear hb hn
    go_enter Try.func5, Try.ntmps5
    go_wp2_with (go_at_call 7; refine HKN.out.mono ?_; rintro e w1 ⟨rfl, hb1⟩; have HB1 := hid hb1; clear hb1)
    go_ret
    exact ⟨rfl, HB1.out⟩
end Go.Proofs.Ytgdajplloamjcaa
