/- Any bytes are read, by any calls in any order, as the document says: the law's walk. -/
import Derived.Test.YteeakkpbpffohaaXdL
namespace Go.Proofs.Yteeakkpbpffohaa
open Go.RowKit Go.Maps
set_option linter.unusedVariables false

theorem It.ok.later {x : It} {w w' : World} (h : x.ok w) (hb : Below w.heap.size w w') : x.ok w' := ⟨h.hk, h.hn, h.hv, h.hl, h.hb.later hb, h.hm, h.hc⟩
theorem rdR_l (r : Rd) (x : It) : (rdR r x).l = r.l := by
  have h : ∀ (α : Type) (R : Rs α), (ansR r R).l = r.l := fun α R => by unfold ansR; split <;> (try split) <;> rfl
  unfold rdR
  repeat' split
  all_goals exact h _ _
/-- Both readers begin. -/
theorem TR.begin_ {w0 w1 W2 : World} {p : Nat} {a : Option Addr} {n c : Nat} {l : List Int} (hn : l.length = n) (hl : n ≤ 900000) (hc : n ≤ c) (hb : Bytes w0 a l) (h01 : Below w0.heap.size w0 w1) (hp : w0.heap.size ≤ p) (hp1 : p + 1 = w1.heap.size)
    (hm : ∀ X : Nat → Prop, X p → (∀ b, w0.heap.size ≤ b → b < p → ¬ X b) → RX w1 68 X p ⟨l, 0, 0⟩) (hW2 : W2 = w1.alloc (.cells #[.slice a n c, .int .i64 0, .int .i64 0] 29)) : TR w0 W2 p w1.heap.size ⟨l, 0, 0⟩ := by
  have b2 : Below w1.heap.size w1 W2 := by rw [hW2]; exact below_alloc (Below.refl _ _) (Nat.le_refl _) _
  have hbl := h01.trans (b2.mono h01.size)
  refine ⟨(hm (PQ p w1.heap.size) (.inl rfl) (fun b h1 h2 e => by rcases e with e | e <;> omega)).later b2, ⟨⟨a, c, ?_, by rw [show (⟨l, 0, 0⟩ : Rd).l.length = n from hn]; exact hc, fun W hW => ?_⟩, .inr rfl, Nat.zero_le _, by rw [show (⟨l, 0, 0⟩ : Rd).l.length = n from hn]; exact hl⟩, by omega, hp, h01.size, hbl⟩
  · rw [show (⟨l, 0, 0⟩ : Rd).l.length = n from hn, hW2]; exact alloc_new w1 _
  · exact hb.later (hW.to_below hbl hbl.size (fun b hb => by rcases hb with e | e <;> rw [e]; exact hp; exact h01.size))
set_option maxRecDepth 100000 in
set_option maxHeartbeats 16000000 in
theorem XdrReads_walk (w : World) (a b : Option Addr) (n c m cap : Nat) (l : List Int) (L : List It) (hn : l.length = n) (hm : n ≤ maxLen) (hc : n ≤ c) (hb : Bytes w a l) (hL : L.length = m) (hmL : m ≤ maxLen) (hR : ItR w b L) :
    Calls Try.prog 3 #[.slice a n c, .slice b m cap] w fun e w' => e = .returned (.bool true) ∧ Below w.heap.size w w' := by
  have HK := hid (known_any w)
  have HR := hid hR
  have HN := hid hn
  have HL := hid hL
  have HB := hid hb
  unfold maxLen at hm hmL
  clear hR hn hL hb
  by_cases hbig : n ≤ 16384
  rotate_left
  · have hbi : (16384 : Int) < n := by omega
    go_enter Try.func3, Try.ntmps3
    go_wp2_with (go_at_call 8; refine HK.out.mono ?_; rintro e w1 ⟨rfl, hb1⟩; have HB1 := hid hb1; clear hb1)
    go_ret
    exact ⟨rfl, HB1.out⟩
  have hbi : ¬ ((16384 : Int) < n) := by omega
  go_enter Try.func3, Try.ntmps3
  go_wp2_with (first
    | (go_at_call 8
       refine HK.out.mono ?_
       rintro e w1 ⟨rfl, hb1⟩
       obtain ⟨a2, c2, w2, hap, hy2, hc2, hb2⟩ := twinY w1 a n c l HN.out (by omega) (HB.out.later hb1) 22
       have HB2 := hid (hb1.trans (hb2.mono hb1.size))
       have HY2 := hid hy2
       have HNR := hid (NewReader_any w2 a2 n c2 l HN.out (by omega) hy2.bytes)
       have HAP := hid hap
       have HC2 := hid hc2
       clear hb1 hy2 hb2 hap hc2)
    | (at_builtin; refine wpList_append_run rfl _ _ 22 rfl rfl rfl HAP.out ?_; clear HAP)
    | (go_at_call 9
       refine HNR.out.mono ?_
       rintro e w3 ⟨p, rfl, hp, hx, _, hb3, hp1⟩
       obtain ⟨W4, hW4⟩ : ∃ W, W = w3.alloc (.cells #[.slice a n c, .int .i64 0, .int .i64 0] 29) := ⟨_, rfl⟩
       have hT := TR.begin_ HN.out (by omega) hc (HB.out.later HB2.out) hb3 hp hp1 hx hW4
       obtain ⟨q, hq⟩ : ∃ q, w3.heap.size = q := ⟨_, rfl⟩
       rw [hq] at hT
       have HT := hid hT
       have hW4' := hW4.symm
       clear hp hx hb3 hp1 hT hW4))
  go_loopw [8] (fun i wr => ∃ k : Nat, k ≤ m ∧ k ≤ 60 ∧ i = .int .i64 k ∧ ∃ r, r.l = l ∧ TR w2 wr p q r) (fun i _ => 60 - (intOf i).toNat)
  case atStart => exact ⟨0, Nat.zero_le _, Nat.zero_le _, rfl, _, rfl, HT.out⟩
  case round =>
    obtain ⟨k, hk, hk60, rfl, r, hrl, hT⟩ := hrel
    by_cases hgo : k < m ∧ k < 60
    · obtain ⟨hlt, hlt2⟩ := hgo
      have hki : (k : Int) < m := by omega
      have hki2 : (k : Int) < 60 := by omega
      have hkl : k < L.length := by rw [HL.out]; exact hlt
      obtain ⟨hok, _⟩ := HR.out k hkl
      obtain ⟨b5, off, rfl, hcx⟩ := HR.out.later (HB2.out.trans (hT.bl.mono HB2.out.size)) k hkl
      obtain ⟨x, hx⟩ : ∃ x, L.getD k default = x := ⟨_, rfl⟩
      rw [hx] at hok hcx
      have q0 := hcx 0 (by omega)
      have q1 := hcx 1 (by omega)
      have q2 := hcx 2 (by omega)
      have q3 := hcx 3 (by omega)
      have q4 := hcx 4 (by omega)
      simp only [itC, List.getElem?_toArray, List.getElem?_cons_zero, List.getElem?_cons_succ, Nat.add_zero] at q0 q1 q2 q3 q4
      have HW : Hid (∀ W, TR w2 W p q r → Calls Try.prog 10 #[.pointer (some ⟨p, 0, none⟩), .pointer (some ⟨q, 0, none⟩), .agg #[.int .i64 x.kd, .int .i64 x.nn, .int .u64 x.v, .bool x.on, .slice x.a x.n x.c]] W fun e w' => e = .returned (.bool true) ∧ TR w2 w' p q (rdR r x)) := hid (fun W hW => read_any hW x (hok.later HB2.out))
      have HRL := hid ((rdR_l r x).trans hrl)
      have HT1 := hid hT
      clear hcx hT hx hok hrl
      go_upto_region 13 with fail
      try simp only [Act.put]
      refine wp_region_held_drew (S := fun _ => True) (by kernel_rfl) trivial (fun hS => ?_)
      obtain ⟨v0, hv0⟩ : ∃ W, W = wr.drew := ⟨_, rfl⟩
      rw [← hv0]
      have HT0 := hid (show TR w2 v0 p q r by rw [hv0]; exact HT1.out.later (Below.refl _ _).drew)
      have z0 : v0.cell? ⟨b5, off + k * 5, none⟩ = some (.int .i64 x.kd) := by rw [hv0]; exact q0
      have z1 : v0.cell? ⟨b5, off + k * 5 + 1, none⟩ = some (.int .i64 x.nn) := by rw [hv0]; exact q1
      have z2 : v0.cell? ⟨b5, off + k * 5 + 2, none⟩ = some (.int .u64 x.v) := by rw [hv0]; exact q2
      have z3 : v0.cell? ⟨b5, off + k * 5 + 3, none⟩ = some (.bool x.on) := by rw [hv0]; exact q3
      have z4 : v0.cell? ⟨b5, off + k * 5 + 4, none⟩ = some (.slice x.a x.n x.c) := by rw [hv0]; exact q4
      clear hv0 q0 q1 q2 q3 q4
      refine nany_take 0 34 (.pointer (some ⟨p, 0, none⟩)) rfl rfl (by kernel_rfl) (by kernel_rfl) (by kernel_rfl) (fun _ _ _ h => h) (Or.inl ⟨by rfl, ?_⟩) trivial ?_
      · rintro w' -
        go_simp
      simp only [List.setIfInBounds_toArray, List.set_cons_zero, List.set_cons_succ]
      refine nany_take 1 35 (.pointer (some ⟨q, 0, none⟩)) rfl rfl (by kernel_rfl) (by kernel_rfl) (by kernel_rfl) (fun _ _ _ h => h) (Or.inl ⟨by rfl, ?_⟩) trivial ?_
      · rintro w' -
        go_simp
      simp only [List.setIfInBounds_toArray, List.set_cons_zero, List.set_cons_succ]
      refine nany_take 2 36 (.slice (some ⟨b5, off, none⟩) m cap) rfl rfl (by kernel_rfl) (by kernel_rfl) (by kernel_rfl) (fun _ _ _ h => h) (Or.inl ⟨by rfl, ?_⟩) trivial ?_
      · rintro w' -
        go_simp
      simp only [List.setIfInBounds_toArray, List.set_cons_zero, List.set_cons_succ]
      refine nany_take 3 37 (.int .i64 k) rfl rfl (by kernel_rfl) (by kernel_rfl) (by kernel_rfl) (fun _ _ _ h => h) (Or.inl ⟨by rfl, ?_⟩) trivial ?_
      · rintro w' -
        go_simp
      simp only [List.setIfInBounds_toArray, List.set_cons_zero, List.set_cons_succ]
      refine nany_take 4 38 (.pointer (some ⟨b5, off + k * 5, none⟩)) rfl rfl (by kernel_rfl) (by kernel_rfl) (by kernel_rfl) (fun _ _ _ h => h) (Or.inl ⟨by rfl, ?_⟩) trivial ?_
      · rintro w' -
        go_simp
      simp only [List.setIfInBounds_toArray, List.set_cons_zero, List.set_cons_succ]
      refine nany_one 5 (by kernel_rfl) ?_
      refine nop_value' 39 (v := .agg #[.int .i64 x.kd, .int .i64 x.nn, .int .u64 x.v, .bool x.on, .slice x.a x.n x.c]) (w' := v0) rfl (by rfl) rfl (by go_simp) ?_
      refine ⟨trivial, ?_⟩
      simp only [List.setIfInBounds_toArray, List.set_cons_zero, List.set_cons_succ]
      clear z0 z1 z2 z3 z4
      refine nany_one 6 (by kernel_rfl) ?_
      refine nop_callE 40 (f := 10) (args := #[.pointer (some ⟨p, 0, none⟩), .pointer (some ⟨q, 0, none⟩), .agg #[.int .i64 x.kd, .int .i64 x.nn, .int .u64 x.v, .bool x.on, .slice x.a x.n x.c]]) (R := fun v w' => v = .bool true ∧ TR w2 w' p q (rdR r x)) rfl (by rfl) rfl (by go_simp) ((HW.out v0 HT0.out).mono (fun e w' h => ⟨_, h.1, rfl, h.2⟩)) ?_
      rintro v v6 ⟨rfl, hT6⟩
      refine ⟨trivial, ?_⟩
      simp only [List.setIfInBounds_toArray, List.set_cons_zero, List.set_cons_succ]
      have HT6 := hid hT6
      obtain ⟨y, hy⟩ : ∃ y, rdR r x = y := ⟨_, rfl⟩
      rw [hy] at HT6 HRL
      clear hT6 hy hS
      refine nwpAnyH_strong (S' := fun W => Below v6.heap.size v6 W) (fun W h => trivial) _ _ _ _ ?_
      have hS : Below v6.heap.size v6 v6 := Below.refl _ _
      obtain ⟨da, dc, dbx, _, _⟩ := HT6.out.d.box
      have dP := cell_of dbx (i := 1) (v := .int .i64 y.k) rfl
      have dE := cell_of dbx (i := 2) (v := .int .i64 y.e) rfl
      clear dbx
      refine nany_take 7 41 (.bool false) rfl rfl (by kernel_rfl) (by kernel_rfl) (by kernel_rfl) (fun _ _ _ h => h) (Or.inl ⟨by rfl, ?_⟩) hS ?_
      · rintro w' hS'
        go_simp
      simp only [List.setIfInBounds_toArray, List.set_cons_zero, List.set_cons_succ]
      refine nany_take 8 42 (.bool false) rfl rfl (by kernel_rfl) (by kernel_rfl) (by kernel_rfl) (fun _ _ _ h => h) (Or.inl ⟨by rfl, ?_⟩) hS ?_
      · rintro w' hS'
        go_simp
      simp only [List.setIfInBounds_toArray, List.set_cons_zero, List.set_cons_succ]
      refine nany_take 9 43 (.pointer (some ⟨p, 0, none⟩)) rfl rfl (by kernel_rfl) (by kernel_rfl) (by kernel_rfl) (fun _ _ _ h => h) (Or.inl ⟨by rfl, ?_⟩) hS ?_
      · rintro w' hS'
        go_simp
      simp only [List.setIfInBounds_toArray, List.set_cons_zero, List.set_cons_succ]
      refine nany_take 11 45 (.pointer (some ⟨q, 0, none⟩)) rfl rfl (by kernel_rfl) (by kernel_rfl) (by kernel_rfl) (fun _ _ _ h => h) (Or.inl ⟨by rfl, ?_⟩) hS ?_
      · rintro w' hS'
        go_simp
      simp only [List.setIfInBounds_toArray, List.set_cons_zero, List.set_cons_succ]
      refine nany_take 12 46 (.pointer (some ⟨q, 0, none⟩)) rfl rfl (by kernel_rfl) (by kernel_rfl) (by kernel_rfl) (fun _ _ _ h => h) (Or.inl ⟨by rfl, ?_⟩) hS ?_
      · rintro w' hS'
        go_simp
      simp only [List.setIfInBounds_toArray, List.set_cons_zero, List.set_cons_succ]
      refine nany_take 13 47 (.pointer (some ⟨q, 1, none⟩)) rfl rfl (by kernel_rfl) (by kernel_rfl) (by kernel_rfl) (fun _ _ _ h => h) (Or.inl ⟨by rfl, ?_⟩) hS ?_
      · rintro w' hS'
        go_simp
      simp only [List.setIfInBounds_toArray, List.set_cons_zero, List.set_cons_succ]
      refine nany_take 14 48 (.int .i64 y.k) rfl rfl (by kernel_rfl) (by kernel_rfl) (by kernel_rfl) (fun _ _ _ h => h) (Or.inl ⟨by rfl, ?_⟩) hS ?_
      · rintro w' hS'
        have hc9 := cell_later hS' dP
        go_simp
      simp only [List.setIfInBounds_toArray, List.set_cons_zero, List.set_cons_succ]
      refine nany_one 10 (by kernel_rfl) ?_
      refine nop_callE 44 (f := 11) (args := #[.pointer (some ⟨p, 0, none⟩)]) (R := fun v w' => v = .int .i64 y.k ∧ w' = v6) rfl (by rfl) rfl (by go_simp) ((RAt_any HT6.out.m).mono (fun e w' h => ⟨_, h.1, rfl, h.2⟩)) ?_
      rintro v v7 ⟨rfl, hv7⟩
      subst hv7
      refine ⟨hS, ?_⟩
      simp only [List.setIfInBounds_toArray, List.set_cons_zero, List.set_cons_succ]
      refine nany_take 15 49 (.bool false) rfl rfl (by kernel_rfl) (by kernel_rfl) (by kernel_rfl) (fun _ _ _ h => h) (Or.inl ⟨by rfl, ?_⟩) hS ?_
      · rintro w' hS'
        go_simp
      simp only [List.setIfInBounds_toArray, List.set_cons_zero, List.set_cons_succ]
      refine nany_take 16 50 (.bool false) rfl rfl (by kernel_rfl) (by kernel_rfl) (by kernel_rfl) (fun _ _ _ h => h) (Or.inl ⟨by rfl, ?_⟩) hS ?_
      · rintro w' hS'
        go_simp
      simp only [List.setIfInBounds_toArray, List.set_cons_zero, List.set_cons_succ]
      refine nany_take 17 51 (.bool false) rfl rfl (by kernel_rfl) (by kernel_rfl) (by kernel_rfl) (fun _ _ _ h => h) (Or.inl ⟨by rfl, ?_⟩) hS ?_
      · rintro w' hS'
        go_simp
      simp only [List.setIfInBounds_toArray, List.set_cons_zero, List.set_cons_succ]
      refine nany_take 18 52 (.pointer (some ⟨p, 0, none⟩)) rfl rfl (by kernel_rfl) (by kernel_rfl) (by kernel_rfl) (fun _ _ _ h => h) (Or.inl ⟨by rfl, ?_⟩) hS ?_
      · rintro w' hS'
        go_simp
      simp only [List.setIfInBounds_toArray, List.set_cons_zero, List.set_cons_succ]
      refine nany_take 20 54 (.pointer (some ⟨q, 0, none⟩)) rfl rfl (by kernel_rfl) (by kernel_rfl) (by kernel_rfl) (fun _ _ _ h => h) (Or.inl ⟨by rfl, ?_⟩) hS ?_
      · rintro w' hS'
        go_simp
      simp only [List.setIfInBounds_toArray, List.set_cons_zero, List.set_cons_succ]
      obtain ⟨lf, hlf⟩ : ∃ z, y.l.length - y.k = z := ⟨_, rfl⟩
      refine nany_one 19 (by kernel_rfl) ?_
      refine nop_callE 53 (f := 12) (args := #[.pointer (some ⟨p, 0, none⟩)]) (R := fun v w' => v = .int .i64 (lf : Int) ∧ Below v7.heap.size v7 w') rfl (by rfl) rfl (by go_simp) ((RLeft_any HT6.out.m).mono (fun e w' h => ⟨_, by rw [hlf] at h; exact h.1, rfl, h.2⟩)) ?_
      rintro v v8 ⟨rfl, hb8⟩
      clear hS
      have hS := hb8
      refine ⟨hS, ?_⟩
      simp only [List.setIfInBounds_toArray, List.set_cons_zero, List.set_cons_succ]
      have HT8 := hid (HT6.out.later hb8)
      refine nany_one 21 (by kernel_rfl) ?_
      refine nop_callE 55 (f := 13) (args := #[.pointer (some ⟨q, 0, none⟩)]) (R := fun v w' => v = .int .i64 (lf : Int) ∧ Below v8.heap.size v8 w') rfl (by rfl) rfl (by go_simp) ((dLeft_any HT8.out.d).mono (fun e w' h => ⟨_, by rw [hlf] at h; exact h.1, rfl, h.2⟩)) ?_
      rintro v v9 ⟨rfl, hb9⟩
      have hS9 := hb8.trans (hb9.mono hb8.size)
      have HT9 := hid (HT8.out.later hb9)
      clear hS hlf
      have hS := hS9
      refine ⟨hS, ?_⟩
      simp only [List.setIfInBounds_toArray, List.set_cons_zero, List.set_cons_succ]
      refine nany_take 22 56 (.bool false) rfl rfl (by kernel_rfl) (by kernel_rfl) (by kernel_rfl) (fun _ _ _ h => h) (Or.inl ⟨by rfl, ?_⟩) hS ?_
      · rintro w' hS'
        go_simp
      simp only [List.setIfInBounds_toArray, List.set_cons_zero, List.set_cons_succ]
      refine nany_take 23 57 (.bool false) rfl rfl (by kernel_rfl) (by kernel_rfl) (by kernel_rfl) (fun _ _ _ h => h) (Or.inl ⟨by rfl, ?_⟩) hS ?_
      · rintro w' hS'
        go_simp
      simp only [List.setIfInBounds_toArray, List.set_cons_zero, List.set_cons_succ]
      refine nany_take 24 58 (.bool false) rfl rfl (by kernel_rfl) (by kernel_rfl) (by kernel_rfl) (fun _ _ _ h => h) (Or.inl ⟨by rfl, ?_⟩) hS ?_
      · rintro w' hS'
        go_simp
      simp only [List.setIfInBounds_toArray, List.set_cons_zero, List.set_cons_succ]
      refine nany_take 25 59 (.pointer (some ⟨p, 0, none⟩)) rfl rfl (by kernel_rfl) (by kernel_rfl) (by kernel_rfl) (fun _ _ _ h => h) (Or.inl ⟨by rfl, ?_⟩) hS ?_
      · rintro w' hS'
        go_simp
      simp only [List.setIfInBounds_toArray, List.set_cons_zero, List.set_cons_succ]
      refine nany_take 27 61 (.pointer (some ⟨q, 0, none⟩)) rfl rfl (by kernel_rfl) (by kernel_rfl) (by kernel_rfl) (fun _ _ _ h => h) (Or.inl ⟨by rfl, ?_⟩) hS ?_
      · rintro w' hS'
        go_simp
      simp only [List.setIfInBounds_toArray, List.set_cons_zero, List.set_cons_succ]
      refine nany_take 28 62 (.pointer (some ⟨q, 0, none⟩)) rfl rfl (by kernel_rfl) (by kernel_rfl) (by kernel_rfl) (fun _ _ _ h => h) (Or.inl ⟨by rfl, ?_⟩) hS ?_
      · rintro w' hS'
        go_simp
      simp only [List.setIfInBounds_toArray, List.set_cons_zero, List.set_cons_succ]
      refine nany_take 29 63 (.pointer (some ⟨q, 2, none⟩)) rfl rfl (by kernel_rfl) (by kernel_rfl) (by kernel_rfl) (fun _ _ _ h => h) (Or.inl ⟨by rfl, ?_⟩) hS ?_
      · rintro w' hS'
        go_simp
      simp only [List.setIfInBounds_toArray, List.set_cons_zero, List.set_cons_succ]
      refine nany_take 30 64 (.int .i64 y.e) rfl rfl (by kernel_rfl) (by kernel_rfl) (by kernel_rfl) (fun _ _ _ h => h) (Or.inl ⟨by rfl, ?_⟩) hS ?_
      · rintro w' hS'
        have hc9 := cell_later hS' dE
        go_simp
      simp only [List.setIfInBounds_toArray, List.set_cons_zero, List.set_cons_succ]
      refine nany_one 26 (by kernel_rfl) ?_
      refine nop_callE 60 (f := 14) (args := #[.pointer (some ⟨p, 0, none⟩)]) (R := fun v w' => v = .int .i64 y.e ∧ w' = v9) rfl (by rfl) rfl (by go_simp) ((RErr_any HT9.out.m).mono (fun e w' h => ⟨_, h.1, rfl, h.2⟩)) ?_
      rintro v v10 ⟨rfl, hv10⟩
      subst hv10
      refine ⟨hS, ?_⟩
      simp only [List.setIfInBounds_toArray, List.set_cons_zero, List.set_cons_succ]
      refine nany_take 31 65 (.bool false) rfl rfl (by kernel_rfl) (by kernel_rfl) (by kernel_rfl) (fun _ _ _ h => h) (Or.inl ⟨by rfl, ?_⟩) hS ?_
      · rintro w' hS'
        go_simp
      simp only [List.setIfInBounds_toArray, List.set_cons_zero, List.set_cons_succ]
      refine nany_take 32 66 (.bool false) rfl rfl (by kernel_rfl) (by kernel_rfl) (by kernel_rfl) (fun _ _ _ h => h) (Or.inl ⟨by rfl, ?_⟩) hS ?_
      · rintro w' hS'
        go_simp
      simp only [List.setIfInBounds_toArray, List.set_cons_zero, List.set_cons_succ]
      refine wpAnyH_done (by kernel_rfl) ?_ _
      clear hS hS9 hb8 hb9 dP dE
      go_wp2
      go_roundw
      case rel => exact ⟨k + 1, by omega, by omega, by go_num, y, HRL.out, HT9.out⟩
      case measure => simp [intOf]; omega
    · by_cases hlt : k < m
      · have hki : (k : Int) < m := by omega
        have hki2 : ¬ ((k : Int) < 60) := by omega
        have hBL := hT.bl
        have hyb := HY2.out.bytes.later hBL
        have hab := (HB.out.later HB2.out).later hBL
        have hcv := conv0 hyb (cap := c2) HN.out
        have hcv2 := conv0 hab (cap := c) HN.out
        have hcw := bytes_conv hyb (cap := c2) HN.out
        have hcw2 := bytes_conv hab (cap := c) HN.out
        have HBL := hid (HB2.out.trans (hBL.mono HB2.out.size))
        clear hyb hab hBL hT
        go_wp2
        go_ret
        exact ⟨rfl, HBL.out⟩
      · have hki : ¬ ((k : Int) < m) := by omega
        have hBL := hT.bl
        have hyb := HY2.out.bytes.later hBL
        have hab := (HB.out.later HB2.out).later hBL
        have hcv := conv0 hyb (cap := c2) HN.out
        have hcv2 := conv0 hab (cap := c) HN.out
        have hcw := bytes_conv hyb (cap := c2) HN.out
        have hcw2 := bytes_conv hab (cap := c) HN.out
        have HBL := hid (HB2.out.trans (hBL.mono HB2.out.size))
        clear hyb hab hBL hT
        go_wp2
        go_ret
        exact ⟨rfl, HBL.out⟩
end Go.Proofs.Yteeakkpbpffohaa
