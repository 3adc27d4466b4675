/- back: are items read from bytes, all of them, to the end? -/
import Derived.Test.YteeakkpbpffohaaXeA
namespace Go.Proofs.Yteeakkpbpffohaa
open Go.RowKit Go.Maps
set_option linter.unusedVariables false

theorem fixP_isB (l : List Int) (k : Nat) (n : Int) (h : ∀ x ∈ l, IsB x) : ∀ z ∈ (fixP l k n).v, IsB z := by
  unfold fixP
  repeat' split
  all_goals first | (intro z hz; exact h z (List.mem_of_mem_drop (List.mem_of_mem_take hz))) | (intro z hz; simp at hz)
theorem cntP_isB (l : List Int) (k : Nat) (n : Int) (h : ∀ x ∈ l, IsB x) : ∀ z ∈ (cntP l k n).v, IsB z := by
  unfold cntP
  cases numQ l k 4 with
  | none => intro z hz; simp at hz
  | some v =>
    by_cases hg : n < v
    · simp only [hg, if_true]; intro z hz; simp at hz
    · simp only [hg, if_false]; exact fixP_isB l _ _ h
theorem ansV_isB5 (r : Rd) (n : Int) (k : Nat) (h : ∀ x ∈ r.l, IsB x) : ∀ z ∈ ansV r [] (fixP r.l k n), IsB z := by
  unfold ansV
  repeat' split
  all_goals first | exact fixP_isB _ _ _ h | (intro z hz; simp at hz)
theorem ansV_isB4 (r : Rd) (n : Int) (k : Nat) (h : ∀ x ∈ r.l, IsB x) : ∀ z ∈ ansV r [] (cntP r.l k n), IsB z := by
  unfold ansV
  repeat' split
  all_goals first | exact cntP_isB _ _ _ h | (intro z hz; simp at hz)
theorem RX.isB' {w : World} {T : TypeId} {X : Nat → Prop} {p : Nat} {r : Rd} (h : RX w T X p r) : ∀ x ∈ r.l, IsB x := let ⟨_, _, _, _, h3⟩ := h.box; (h3 w (Mods.refl _ _)).isB
set_option maxRecDepth 100000 in
set_option maxHeartbeats 16000000 in
theorem back_any (w : World) (a b : Option Addr) (n c m cap : Nat) (l : List Int) (L : List It) (hn : l.length = n) (hl : n ≤ 900000) (hb : Bytes w a l) (hL : L.length = m) (hmL : m ≤ 1000) (hR : ItR w b L) (hx3 : ∀ x ∈ L, x.n ≤ 3000) :
    Calls Try.prog 28 #[.slice a n c, .slice b m cap] w fun e w' => e = .returned (.bool (backB l L)) ∧ Below w.heap.size w w' := by
  have HNR := hid (NewReader_any w a n c l hn hl hb)
  have HR := hid hR
  have HN := hid hn
  have HL := hid hL
  obtain ⟨BB, hBB⟩ : ∃ x, backB l L = x := ⟨_, rfl⟩
  have HBB := hid hBB
  have HX3 := hid hx3
  rw [hBB]
  clear hR hn hL hb hBB hx3
  go_enter Try.func28, Try.ntmps28
  go_wp2_with (go_at_call 9
               refine HNR.out.mono ?_
               rintro e w3 ⟨p, rfl, hp, hx, _, hb3, hp1⟩
               have HX0 := hid (hx (fun b => b = p) rfl (fun b h1 h2 e => by have h3 : b = p := e; omega))
               have HP := hid hp
               have HB3 := hid hb3
               clear hp hx hb3 hp1 HNR)
  go_loopw [6] (fun i wr => ∃ k : Nat, k ≤ m ∧ i = .int .i64 k ∧ ∃ r, runB ⟨l, 0, 0⟩ (L.take k) = some r ∧ r.l = l ∧ r.k ≤ l.length ∧ RX wr 68 (fun b => b = p) p r ∧ Below w.heap.size w wr) (fun i _ => m - (intOf i).toNat)
  case atStart => exact ⟨0, Nat.zero_le _, rfl, ⟨l, 0, 0⟩, by simp [runB], rfl, Nat.zero_le _, HX0.out, HB3.out⟩
  case round =>
    obtain ⟨k, hk, rfl, r, hrun, hrl, hrk, hX, hbl⟩ := hrel
    by_cases hlt : k < m
    rotate_left
    · have hki : ¬ ((k : Int) < m) := by omega
      have hall : L.take k = L := List.take_of_length_le (by rw [HL.out]; omega)
      rw [hall] at hrun
      have hv : BB = decide (r.k = n) := by rw [← HBB.out, backB, hrun, ← HN.out]
      have HV := hid hv
      have HA := hid (RAt_any hX)
      have HLF := hid (RLeft_any hX)
      rw [hrl] at HLF
      have HBL := hid hbl
      have HXX := hid hX
      have hll := HN.out
      obtain ⟨rk, hrk2⟩ : ∃ x, r.k = x := ⟨_, rfl⟩
      rw [hrk2] at HA HLF HV hrk
      rw [HN.out] at HLF hrk
      have HRR := hid hrk2
      have HRL := hid hrl
      clear hv hX hbl hrun hall hrl hll hrk2
      by_cases hkn : rk = n
      · have hz : n - rk = 0 := by omega
        rw [hz] at HLF
        have HVV := hid (HV.out.trans (decide_eq_true hkn))
        have HKN := hid hkn
        rw [hkn] at HA
        clear hz hkn HV
        go_wp2_with (first
          | (go_at_call 12
             refine HLF.out.mono ?_
             rintro e w7 ⟨rfl, hb7⟩
             have HB7 := hid (HBL.out.trans (hb7.mono HBL.out.size))
             have HA7 := hid (RAt_any (HXX.out.later hb7))
             rw [HRR.out, HKN.out] at HA7
             clear hb7)
          | (go_at_call 11
             refine HA7.out.mono ?_
             rintro e w8 ⟨rfl, hw8⟩
             subst hw8))
        go_ret
        exact ⟨ret_bool HVV.out.symm, HB7.out⟩
      · obtain ⟨z, hz⟩ : ∃ z, n - rk = z := ⟨_, rfl⟩
        have hz0 : ¬ ((z : Int) = 0) := by omega
        have hz1 : ((z : Int) == 0) = false := by simpa using hz0
        have HVV := hid (HV.out.trans (decide_eq_false hkn))
        rw [hz] at HLF
        clear hz HV hkn
        go_wp2_with (go_at_call 12
                     refine HLF.out.mono ?_
                     rintro e w7 ⟨rfl, hb7⟩
                     have HB7 := hid (HBL.out.trans (hb7.mono HBL.out.size))
                     clear hb7)
        go_ret
        exact ⟨ret_bool HVV.out.symm, HB7.out⟩
    have hki : (k : Int) < m := by omega
    have hkl : k < L.length := by rw [HL.out]; exact hlt
    have hgm : L.getD k default ∈ L := by
      have e : L.getD k default = L[k] := by simp [List.getD, hkl]
      rw [e]; exact List.getElem_mem hkl
    have hx9 := HX3.out _ hgm
    have hstep := runB_snoc hkl hrun
    obtain ⟨hok, b5, off, rfl, hcx⟩ := HR.out k hkl
    obtain ⟨x, hx⟩ : ∃ x, L.getD k default = x := ⟨_, rfl⟩
    rw [hx] at hok hcx hstep hx9
    have HSY : Hid (okB r x = true → runB ⟨l, 0, 0⟩ (L.take (k + 1)) = some (bkR r x)) := hid (fun h => by rw [hstep, if_pos h])
    have HSN : Hid (okB r x = false → BB = false) := hid (fun h => by
      have h2 : runB ⟨l, 0, 0⟩ (L.take (k + 1)) = none := by rw [hstep, if_neg (by rw [h]; decide)]
      rw [← HBB.out, backB, runB_none h2])
    have hok2 : okB r x = (bkG r x && decide ((bkR r x).e = 0)) := rfl
    have q0 := hcx 0 (by omega)
    have q2 := hcx 2 (by omega)
    have q3 := hcx 3 (by omega)
    have q4 := hcx 4 (by omega)
    simp only [itC, List.getElem?_toArray, List.getElem?_cons_zero, List.getElem?_cons_succ, Nat.add_zero] at q0 q2 q3 q4
    have t0 := cell_later hbl q0
    have HBLK := hid (show b5 ≠ p by
      have h8 := World.block_lt_of_cell? w _ q0
      have h7 : b5 < w.heap.size := h8
      have := HP.out
      omega)
    have hRL : (bkR r x).l = l := (bkR_l r x).trans hrl
    have HRKL : Hid (RX wr 68 (fun b => b = p) p r) := hid hX
    obtain ⟨xkd, xnn, xv, xon, xa, xn, xc, xl⟩ := x
    obtain ⟨ok1, ok2, ok3, ok4, ok5, ok6, ok7⟩ := hok
    simp only at ok1 ok2 ok3 ok4 ok5 ok6 ok7 q0 q2 q3 q4 t0 hx9
    unfold II16 at ok1
    have HBL := hid hbl
    have HRL2 := hid hRL
    have HXI := hid ok5.isB
    have HXB := hid ok5
    have HXN := hid ok4
    have HX := hid hX
    clear hcx hstep hx ok2 ok4 ok5 ok6 hrun hbl hX hRL hgm
    by_cases e1 : xkd = 1
    · subst e1
      obtain ⟨R2, hR2⟩ : ∃ y, bkR r ⟨1, xnn, xv, xon, xa, xn, xc, xl⟩ = y := ⟨_, rfl⟩
      rw [hR2] at HRL2
      have e9 : bkR r ⟨1, xnn, xv, xon, xa, xn, xc, xl⟩ = ansR r (u32P r.l r.k) := by simp [bkR]
      have g9 : bkG r ⟨1, xnn, xv, xon, xa, xn, xc, xl⟩ = (ansV r 0 (u32P r.l r.k) == IntKind.u32.wrap xv) := by simp [bkG]
      have HC : Hid (∀ W, RX W 68 (fun b => b = p) p r → Calls Try.prog 30 #[.pointer (some ⟨p, 0, none⟩)] W fun e w' => e = .returned (.int .u32 (ansV r 0 (u32P r.l r.k))) ∧ RX w' 68 (fun b => b = p) p R2 ∧ Mods (fun b => b = p) W w') := hid (fun W hW => by have := RU32_any hW; rwa [← e9, hR2] at this)
      obtain ⟨V, hV⟩ : ∃ V, ansV r 0 (u32P r.l r.k) = V := ⟨_, rfl⟩
      rw [hV] at HC g9
      clear hV e9
      obtain ⟨yv, hwr⟩ : ∃ y, IntKind.u32.wrap xv = y := ⟨_, rfl⟩
      rw [hwr] at g9
      cases hG : bkG r ⟨1, xnn, xv, xon, xa, xn, xc, xl⟩ with
      | false =>
        have hbb : BB = false := HSN.out (by rw [hok2, hG]; rfl)
        have HBF := hid hbb
        have hse := g9.symm.trans hG
        clear g9
        clear hbb hG hok2 HSY HSN
        go_upto_region 9 with fail
        try simp only [Act.put]
        obtain ⟨v0, hv0⟩ : ∃ W, W = wr.drew := ⟨_, rfl⟩
        have HB0 := hid (show Below w.heap.size w v0 by rw [hv0]; exact HBL.out.drew)
        have HX0' := hid (show RX v0 68 (fun b => b = p) p r by rw [hv0]; exact HX.out.later (Below.refl _ _).drew)
        refine wp_region_held_drew (S := fun W => Below w.heap.size w W) (by kernel_rfl) (by exact HBL.out.drew) (fun hS => ?_)
        rw [← hv0] at hS ⊢
        clear hv0 t0
        refine nany_take 0 39 (.pointer (some ⟨p, 0, none⟩)) rfl rfl (by kernel_rfl) (by kernel_rfl) (by kernel_rfl) (fun _ _ _ h => h) (Or.inl ⟨by rfl, ?_⟩) hS ?_
        · rintro w' hS'
          go_simp
        simp only [List.setIfInBounds_toArray, List.set_cons_zero, List.set_cons_succ]
        refine nany_take 2 41 (.slice (some ⟨b5, off, none⟩) m cap) rfl rfl (by kernel_rfl) (by kernel_rfl) (by kernel_rfl) (fun _ _ _ h => h) (Or.inl ⟨by rfl, ?_⟩) hS ?_
        · rintro w' hS'
          go_simp
        simp only [List.setIfInBounds_toArray, List.set_cons_zero, List.set_cons_succ]
        refine nany_take 3 42 (.int .i64 k) rfl rfl (by kernel_rfl) (by kernel_rfl) (by kernel_rfl) (fun _ _ _ h => h) (Or.inl ⟨by rfl, ?_⟩) hS ?_
        · rintro w' hS'
          go_simp
        simp only [List.setIfInBounds_toArray, List.set_cons_zero, List.set_cons_succ]
        refine nany_take 4 43 (.pointer (some ⟨b5, off + k * 5, none⟩)) rfl rfl (by kernel_rfl) (by kernel_rfl) (by kernel_rfl) (fun _ _ _ h => h) (Or.inl ⟨by rfl, ?_⟩) hS ?_
        · rintro w' hS'
          go_simp
        simp only [List.setIfInBounds_toArray, List.set_cons_zero, List.set_cons_succ]
        refine nany_take 5 44 (.pointer (some ⟨b5, off + k * 5 + 2, none⟩)) rfl rfl (by kernel_rfl) (by kernel_rfl) (by kernel_rfl) (fun _ _ _ h => h) (Or.inl ⟨by rfl, ?_⟩) hS ?_
        · rintro w' hS'
          go_simp
        simp only [List.setIfInBounds_toArray, List.set_cons_zero, List.set_cons_succ]
        refine nany_take 6 45 (.int .u64 xv) rfl rfl (by kernel_rfl) (by kernel_rfl) (by kernel_rfl) (fun _ _ _ h => h) (Or.inl ⟨by rfl, ?_⟩) hS ?_
        · rintro w' hS'
          have hc9 := cell_later hS' q2
          go_simp
        simp only [List.setIfInBounds_toArray, List.set_cons_zero, List.set_cons_succ]
        refine nany_take 7 46 (.int .u32 yv) rfl rfl (by kernel_rfl) (by kernel_rfl) (by kernel_rfl) (fun _ _ _ h => h) (Or.inl ⟨by rfl, ?_⟩) hS ?_
        · rintro w' hS'
          go_simp
        simp only [List.setIfInBounds_toArray, List.set_cons_zero, List.set_cons_succ]
        refine nany_one 1 (by kernel_rfl) ?_
        refine nop_callE 40 (f := 30) (args := #[.pointer (some ⟨p, 0, none⟩)]) (R := fun v w' => v = .int .u32 V ∧ RX w' 68 (fun b => b = p) p R2 ∧ Mods (fun b => b = p) v0 w') rfl (by rfl) rfl (by go_simp) ((HC.out v0 HX0'.out).mono (fun e w' h => ⟨_, h.1, rfl, h.2⟩)) ?_
        rintro v v5 ⟨rfl, hx5, hm5⟩
        have hS5 := hm5.to_below hS hS.size (fun b hb => by have h9 : b = p := hb; rw [h9]; exact HP.out)
        clear hS
        have hS := hS5
        refine ⟨hS, ?_⟩
        simp only [List.setIfInBounds_toArray, List.set_cons_zero, List.set_cons_succ]
        have HX5 := hid hx5
        clear hx5 hm5
        refine nany_take 8 47 (.bool false) rfl rfl (by kernel_rfl) (by kernel_rfl) (by kernel_rfl) (fun _ _ _ h => h) (Or.inl ⟨by rfl, ?_⟩) hS ?_
        · rintro w' hS'
          go_simp
        simp only [List.setIfInBounds_toArray, List.set_cons_zero, List.set_cons_succ]
        refine nany_take 9 7 (.bool false) rfl rfl (by kernel_rfl) (by kernel_rfl) (by kernel_rfl) (fun _ _ _ h => h) (Or.inl ⟨by rfl, ?_⟩) hS ?_
        · rintro w' hS'
          go_simp
        simp only [List.setIfInBounds_toArray, List.set_cons_zero, List.set_cons_succ]
        refine wpAnyH_done (by kernel_rfl) ?_ _
        have HB5 := hid hS
        clear hS hS5
        go_wp2
        go_ret
        exact ⟨ret_bool HBF.out.symm, HB5.out⟩
      | true =>
        by_cases he : R2.e = 0
        · have hrr : runB ⟨l, 0, 0⟩ (L.take (k + 1)) = some R2 := by rw [HSY.out (by rw [hok2, hG, hR2, he]; rfl), hR2]
          have HRR := hid hrr
          have HE := hid he
          have hse := g9.symm.trans hG
          clear g9
          clear hrr he hG hok2 HSY HSN hR2
          go_upto_region 9 with fail
          try simp only [Act.put]
          obtain ⟨v0, hv0⟩ : ∃ W, W = wr.drew := ⟨_, rfl⟩
          have HB0 := hid (show Below w.heap.size w v0 by rw [hv0]; exact HBL.out.drew)
          have HX0' := hid (show RX v0 68 (fun b => b = p) p r by rw [hv0]; exact HX.out.later (Below.refl _ _).drew)
          refine wp_region_held_drew (S := fun W => Below w.heap.size w W) (by kernel_rfl) (by exact HBL.out.drew) (fun hS => ?_)
          rw [← hv0] at hS ⊢
          clear hv0 t0
          refine nany_take 0 39 (.pointer (some ⟨p, 0, none⟩)) rfl rfl (by kernel_rfl) (by kernel_rfl) (by kernel_rfl) (fun _ _ _ h => h) (Or.inl ⟨by rfl, ?_⟩) hS ?_
          · rintro w' hS'
            go_simp
          simp only [List.setIfInBounds_toArray, List.set_cons_zero, List.set_cons_succ]
          refine nany_take 2 41 (.slice (some ⟨b5, off, none⟩) m cap) rfl rfl (by kernel_rfl) (by kernel_rfl) (by kernel_rfl) (fun _ _ _ h => h) (Or.inl ⟨by rfl, ?_⟩) hS ?_
          · rintro w' hS'
            go_simp
          simp only [List.setIfInBounds_toArray, List.set_cons_zero, List.set_cons_succ]
          refine nany_take 3 42 (.int .i64 k) rfl rfl (by kernel_rfl) (by kernel_rfl) (by kernel_rfl) (fun _ _ _ h => h) (Or.inl ⟨by rfl, ?_⟩) hS ?_
          · rintro w' hS'
            go_simp
          simp only [List.setIfInBounds_toArray, List.set_cons_zero, List.set_cons_succ]
          refine nany_take 4 43 (.pointer (some ⟨b5, off + k * 5, none⟩)) rfl rfl (by kernel_rfl) (by kernel_rfl) (by kernel_rfl) (fun _ _ _ h => h) (Or.inl ⟨by rfl, ?_⟩) hS ?_
          · rintro w' hS'
            go_simp
          simp only [List.setIfInBounds_toArray, List.set_cons_zero, List.set_cons_succ]
          refine nany_take 5 44 (.pointer (some ⟨b5, off + k * 5 + 2, none⟩)) rfl rfl (by kernel_rfl) (by kernel_rfl) (by kernel_rfl) (fun _ _ _ h => h) (Or.inl ⟨by rfl, ?_⟩) hS ?_
          · rintro w' hS'
            go_simp
          simp only [List.setIfInBounds_toArray, List.set_cons_zero, List.set_cons_succ]
          refine nany_take 6 45 (.int .u64 xv) rfl rfl (by kernel_rfl) (by kernel_rfl) (by kernel_rfl) (fun _ _ _ h => h) (Or.inl ⟨by rfl, ?_⟩) hS ?_
          · rintro w' hS'
            have hc9 := cell_later hS' q2
            go_simp
          simp only [List.setIfInBounds_toArray, List.set_cons_zero, List.set_cons_succ]
          refine nany_take 7 46 (.int .u32 yv) rfl rfl (by kernel_rfl) (by kernel_rfl) (by kernel_rfl) (fun _ _ _ h => h) (Or.inl ⟨by rfl, ?_⟩) hS ?_
          · rintro w' hS'
            go_simp
          simp only [List.setIfInBounds_toArray, List.set_cons_zero, List.set_cons_succ]
          refine nany_one 1 (by kernel_rfl) ?_
          refine nop_callE 40 (f := 30) (args := #[.pointer (some ⟨p, 0, none⟩)]) (R := fun v w' => v = .int .u32 V ∧ RX w' 68 (fun b => b = p) p R2 ∧ Mods (fun b => b = p) v0 w') rfl (by rfl) rfl (by go_simp) ((HC.out v0 HX0'.out).mono (fun e w' h => ⟨_, h.1, rfl, h.2⟩)) ?_
          rintro v v5 ⟨rfl, hx5, hm5⟩
          have hS5 := hm5.to_below hS hS.size (fun b hb => by have h9 : b = p := hb; rw [h9]; exact HP.out)
          clear hS
          have hS := hS5
          refine ⟨hS, ?_⟩
          simp only [List.setIfInBounds_toArray, List.set_cons_zero, List.set_cons_succ]
          have HX5 := hid hx5
          clear hx5 hm5
          refine nany_take 8 47 (.bool true) rfl rfl (by kernel_rfl) (by kernel_rfl) (by kernel_rfl) (fun _ _ _ h => h) (Or.inl ⟨by rfl, ?_⟩) hS ?_
          · rintro w' hS'
            go_simp
          simp only [List.setIfInBounds_toArray, List.set_cons_zero, List.set_cons_succ]
          refine nany_take 9 7 (.bool true) rfl rfl (by kernel_rfl) (by kernel_rfl) (by kernel_rfl) (fun _ _ _ h => h) (Or.inl ⟨by rfl, ?_⟩) hS ?_
          · rintro w' hS'
            go_simp
          simp only [List.setIfInBounds_toArray, List.set_cons_zero, List.set_cons_succ]
          refine wpAnyH_done (by kernel_rfl) ?_ _
          have HB5 := hid hS
          clear hS hS5
          have HER := hid (RErr_any HX5.out)
          rw [HE.out] at HER
          have HRK := hid HX5.out.hk
          go_wp2_with (go_at_call 14; refine HER.out.mono ?_; rintro e w8 ⟨rfl, hw8⟩; subst hw8)
          go_roundw
          case rel => exact ⟨k + 1, by omega, by go_num, R2, HRR.out, HRL2.out, by have := HRK.out; rw [HRL2.out] at this; exact this, HX5.out, HB5.out⟩
          case measure => simp [intOf]; omega
        · have hbb : BB = false := HSN.out (by rw [hok2, hR2, decide_eq_false he, Bool.and_false])
          have HBF := hid hbb
          obtain ⟨E, hE⟩ : ∃ E, R2.e = E := ⟨_, rfl⟩
          rw [hE] at he
          have hee : (E != 0) = true := by simpa using he
          have HE := hid hE
          have hse := g9.symm.trans hG
          clear g9
          clear hbb hG hok2 HSY HSN hR2 he hE
          go_upto_region 9 with fail
          try simp only [Act.put]
          obtain ⟨v0, hv0⟩ : ∃ W, W = wr.drew := ⟨_, rfl⟩
          have HB0 := hid (show Below w.heap.size w v0 by rw [hv0]; exact HBL.out.drew)
          have HX0' := hid (show RX v0 68 (fun b => b = p) p r by rw [hv0]; exact HX.out.later (Below.refl _ _).drew)
          refine wp_region_held_drew (S := fun W => Below w.heap.size w W) (by kernel_rfl) (by exact HBL.out.drew) (fun hS => ?_)
          rw [← hv0] at hS ⊢
          clear hv0 t0
          refine nany_take 0 39 (.pointer (some ⟨p, 0, none⟩)) rfl rfl (by kernel_rfl) (by kernel_rfl) (by kernel_rfl) (fun _ _ _ h => h) (Or.inl ⟨by rfl, ?_⟩) hS ?_
          · rintro w' hS'
            go_simp
          simp only [List.setIfInBounds_toArray, List.set_cons_zero, List.set_cons_succ]
          refine nany_take 2 41 (.slice (some ⟨b5, off, none⟩) m cap) rfl rfl (by kernel_rfl) (by kernel_rfl) (by kernel_rfl) (fun _ _ _ h => h) (Or.inl ⟨by rfl, ?_⟩) hS ?_
          · rintro w' hS'
            go_simp
          simp only [List.setIfInBounds_toArray, List.set_cons_zero, List.set_cons_succ]
          refine nany_take 3 42 (.int .i64 k) rfl rfl (by kernel_rfl) (by kernel_rfl) (by kernel_rfl) (fun _ _ _ h => h) (Or.inl ⟨by rfl, ?_⟩) hS ?_
          · rintro w' hS'
            go_simp
          simp only [List.setIfInBounds_toArray, List.set_cons_zero, List.set_cons_succ]
          refine nany_take 4 43 (.pointer (some ⟨b5, off + k * 5, none⟩)) rfl rfl (by kernel_rfl) (by kernel_rfl) (by kernel_rfl) (fun _ _ _ h => h) (Or.inl ⟨by rfl, ?_⟩) hS ?_
          · rintro w' hS'
            go_simp
          simp only [List.setIfInBounds_toArray, List.set_cons_zero, List.set_cons_succ]
          refine nany_take 5 44 (.pointer (some ⟨b5, off + k * 5 + 2, none⟩)) rfl rfl (by kernel_rfl) (by kernel_rfl) (by kernel_rfl) (fun _ _ _ h => h) (Or.inl ⟨by rfl, ?_⟩) hS ?_
          · rintro w' hS'
            go_simp
          simp only [List.setIfInBounds_toArray, List.set_cons_zero, List.set_cons_succ]
          refine nany_take 6 45 (.int .u64 xv) rfl rfl (by kernel_rfl) (by kernel_rfl) (by kernel_rfl) (fun _ _ _ h => h) (Or.inl ⟨by rfl, ?_⟩) hS ?_
          · rintro w' hS'
            have hc9 := cell_later hS' q2
            go_simp
          simp only [List.setIfInBounds_toArray, List.set_cons_zero, List.set_cons_succ]
          refine nany_take 7 46 (.int .u32 yv) rfl rfl (by kernel_rfl) (by kernel_rfl) (by kernel_rfl) (fun _ _ _ h => h) (Or.inl ⟨by rfl, ?_⟩) hS ?_
          · rintro w' hS'
            go_simp
          simp only [List.setIfInBounds_toArray, List.set_cons_zero, List.set_cons_succ]
          refine nany_one 1 (by kernel_rfl) ?_
          refine nop_callE 40 (f := 30) (args := #[.pointer (some ⟨p, 0, none⟩)]) (R := fun v w' => v = .int .u32 V ∧ RX w' 68 (fun b => b = p) p R2 ∧ Mods (fun b => b = p) v0 w') rfl (by rfl) rfl (by go_simp) ((HC.out v0 HX0'.out).mono (fun e w' h => ⟨_, h.1, rfl, h.2⟩)) ?_
          rintro v v5 ⟨rfl, hx5, hm5⟩
          have hS5 := hm5.to_below hS hS.size (fun b hb => by have h9 : b = p := hb; rw [h9]; exact HP.out)
          clear hS
          have hS := hS5
          refine ⟨hS, ?_⟩
          simp only [List.setIfInBounds_toArray, List.set_cons_zero, List.set_cons_succ]
          have HX5 := hid hx5
          clear hx5 hm5
          refine nany_take 8 47 (.bool true) rfl rfl (by kernel_rfl) (by kernel_rfl) (by kernel_rfl) (fun _ _ _ h => h) (Or.inl ⟨by rfl, ?_⟩) hS ?_
          · rintro w' hS'
            go_simp
          simp only [List.setIfInBounds_toArray, List.set_cons_zero, List.set_cons_succ]
          refine nany_take 9 7 (.bool true) rfl rfl (by kernel_rfl) (by kernel_rfl) (by kernel_rfl) (fun _ _ _ h => h) (Or.inl ⟨by rfl, ?_⟩) hS ?_
          · rintro w' hS'
            go_simp
          simp only [List.setIfInBounds_toArray, List.set_cons_zero, List.set_cons_succ]
          refine wpAnyH_done (by kernel_rfl) ?_ _
          have HB5 := hid hS
          clear hS hS5
          have HER := hid (RErr_any HX5.out)
          rw [HE.out] at HER
          go_wp2_with (go_at_call 14; refine HER.out.mono ?_; rintro e w8 ⟨rfl, hw8⟩; subst hw8)
          go_ret
          exact ⟨ret_bool HBF.out.symm, HB5.out⟩
    have f1 : (xkd == 1) = false := by simp [e1]
    by_cases e2 : xkd = 2
    · subst e2
      obtain ⟨R2, hR2⟩ : ∃ y, bkR r ⟨2, xnn, xv, xon, xa, xn, xc, xl⟩ = y := ⟨_, rfl⟩
      rw [hR2] at HRL2
      have e9 : bkR r ⟨2, xnn, xv, xon, xa, xn, xc, xl⟩ = ansR r (u64P r.l r.k) := by simp [bkR]
      have g9 : bkG r ⟨2, xnn, xv, xon, xa, xn, xc, xl⟩ = (ansV r 0 (u64P r.l r.k) == xv) := by simp [bkG]
      have HC : Hid (∀ W, RX W 68 (fun b => b = p) p r → Calls Try.prog 33 #[.pointer (some ⟨p, 0, none⟩)] W fun e w' => e = .returned (.int .u64 (ansV r 0 (u64P r.l r.k))) ∧ RX w' 68 (fun b => b = p) p R2 ∧ Mods (fun b => b = p) W w') := hid (fun W hW => by have := RU64_any hW; rwa [← e9, hR2] at this)
      obtain ⟨V, hV⟩ : ∃ V, ansV r 0 (u64P r.l r.k) = V := ⟨_, rfl⟩
      rw [hV] at HC g9
      clear hV e9
      cases hG : bkG r ⟨2, xnn, xv, xon, xa, xn, xc, xl⟩ with
      | false =>
        have hbb : BB = false := HSN.out (by rw [hok2, hG]; rfl)
        have HBF := hid hbb
        have hse := g9.symm.trans hG
        clear g9
        clear hbb hG hok2 HSY HSN
        go_upto_region 11 with fail
        try simp only [Act.put]
        obtain ⟨v0, hv0⟩ : ∃ W, W = wr.drew := ⟨_, rfl⟩
        have HB0 := hid (show Below w.heap.size w v0 by rw [hv0]; exact HBL.out.drew)
        have HX0' := hid (show RX v0 68 (fun b => b = p) p r by rw [hv0]; exact HX.out.later (Below.refl _ _).drew)
        refine wp_region_held_drew (S := fun W => Below w.heap.size w W) (by kernel_rfl) (by exact HBL.out.drew) (fun hS => ?_)
        rw [← hv0] at hS ⊢
        clear hv0 t0
        refine nany_take 0 50 (.pointer (some ⟨p, 0, none⟩)) rfl rfl (by kernel_rfl) (by kernel_rfl) (by kernel_rfl) (fun _ _ _ h => h) (Or.inl ⟨by rfl, ?_⟩) hS ?_
        · rintro w' hS'
          go_simp
        simp only [List.setIfInBounds_toArray, List.set_cons_zero, List.set_cons_succ]
        refine nany_take 2 52 (.slice (some ⟨b5, off, none⟩) m cap) rfl rfl (by kernel_rfl) (by kernel_rfl) (by kernel_rfl) (fun _ _ _ h => h) (Or.inl ⟨by rfl, ?_⟩) hS ?_
        · rintro w' hS'
          go_simp
        simp only [List.setIfInBounds_toArray, List.set_cons_zero, List.set_cons_succ]
        refine nany_take 3 53 (.int .i64 k) rfl rfl (by kernel_rfl) (by kernel_rfl) (by kernel_rfl) (fun _ _ _ h => h) (Or.inl ⟨by rfl, ?_⟩) hS ?_
        · rintro w' hS'
          go_simp
        simp only [List.setIfInBounds_toArray, List.set_cons_zero, List.set_cons_succ]
        refine nany_take 4 54 (.pointer (some ⟨b5, off + k * 5, none⟩)) rfl rfl (by kernel_rfl) (by kernel_rfl) (by kernel_rfl) (fun _ _ _ h => h) (Or.inl ⟨by rfl, ?_⟩) hS ?_
        · rintro w' hS'
          go_simp
        simp only [List.setIfInBounds_toArray, List.set_cons_zero, List.set_cons_succ]
        refine nany_take 5 55 (.pointer (some ⟨b5, off + k * 5 + 2, none⟩)) rfl rfl (by kernel_rfl) (by kernel_rfl) (by kernel_rfl) (fun _ _ _ h => h) (Or.inl ⟨by rfl, ?_⟩) hS ?_
        · rintro w' hS'
          go_simp
        simp only [List.setIfInBounds_toArray, List.set_cons_zero, List.set_cons_succ]
        refine nany_take 6 56 (.int .u64 xv) rfl rfl (by kernel_rfl) (by kernel_rfl) (by kernel_rfl) (fun _ _ _ h => h) (Or.inl ⟨by rfl, ?_⟩) hS ?_
        · rintro w' hS'
          have hc9 := cell_later hS' q2
          go_simp
        simp only [List.setIfInBounds_toArray, List.set_cons_zero, List.set_cons_succ]
        refine nany_one 1 (by kernel_rfl) ?_
        refine nop_callE 51 (f := 33) (args := #[.pointer (some ⟨p, 0, none⟩)]) (R := fun v w' => v = .int .u64 V ∧ RX w' 68 (fun b => b = p) p R2 ∧ Mods (fun b => b = p) v0 w') rfl (by rfl) rfl (by go_simp) ((HC.out v0 HX0'.out).mono (fun e w' h => ⟨_, h.1, rfl, h.2⟩)) ?_
        rintro v v5 ⟨rfl, hx5, hm5⟩
        have hS5 := hm5.to_below hS hS.size (fun b hb => by have h9 : b = p := hb; rw [h9]; exact HP.out)
        clear hS
        have hS := hS5
        refine ⟨hS, ?_⟩
        simp only [List.setIfInBounds_toArray, List.set_cons_zero, List.set_cons_succ]
        have HX5 := hid hx5
        clear hx5 hm5
        refine nany_take 7 57 (.bool false) rfl rfl (by kernel_rfl) (by kernel_rfl) (by kernel_rfl) (fun _ _ _ h => h) (Or.inl ⟨by rfl, ?_⟩) hS ?_
        · rintro w' hS'
          go_simp
        simp only [List.setIfInBounds_toArray, List.set_cons_zero, List.set_cons_succ]
        refine nany_take 8 7 (.bool false) rfl rfl (by kernel_rfl) (by kernel_rfl) (by kernel_rfl) (fun _ _ _ h => h) (Or.inl ⟨by rfl, ?_⟩) hS ?_
        · rintro w' hS'
          go_simp
        simp only [List.setIfInBounds_toArray, List.set_cons_zero, List.set_cons_succ]
        refine wpAnyH_done (by kernel_rfl) ?_ _
        have HB5 := hid hS
        clear hS hS5
        go_wp2
        go_ret
        exact ⟨ret_bool HBF.out.symm, HB5.out⟩
      | true =>
        by_cases he : R2.e = 0
        · have hrr : runB ⟨l, 0, 0⟩ (L.take (k + 1)) = some R2 := by rw [HSY.out (by rw [hok2, hG, hR2, he]; rfl), hR2]
          have HRR := hid hrr
          have HE := hid he
          have hse := g9.symm.trans hG
          clear g9
          clear hrr he hG hok2 HSY HSN hR2
          go_upto_region 11 with fail
          try simp only [Act.put]
          obtain ⟨v0, hv0⟩ : ∃ W, W = wr.drew := ⟨_, rfl⟩
          have HB0 := hid (show Below w.heap.size w v0 by rw [hv0]; exact HBL.out.drew)
          have HX0' := hid (show RX v0 68 (fun b => b = p) p r by rw [hv0]; exact HX.out.later (Below.refl _ _).drew)
          refine wp_region_held_drew (S := fun W => Below w.heap.size w W) (by kernel_rfl) (by exact HBL.out.drew) (fun hS => ?_)
          rw [← hv0] at hS ⊢
          clear hv0 t0
          refine nany_take 0 50 (.pointer (some ⟨p, 0, none⟩)) rfl rfl (by kernel_rfl) (by kernel_rfl) (by kernel_rfl) (fun _ _ _ h => h) (Or.inl ⟨by rfl, ?_⟩) hS ?_
          · rintro w' hS'
            go_simp
          simp only [List.setIfInBounds_toArray, List.set_cons_zero, List.set_cons_succ]
          refine nany_take 2 52 (.slice (some ⟨b5, off, none⟩) m cap) rfl rfl (by kernel_rfl) (by kernel_rfl) (by kernel_rfl) (fun _ _ _ h => h) (Or.inl ⟨by rfl, ?_⟩) hS ?_
          · rintro w' hS'
            go_simp
          simp only [List.setIfInBounds_toArray, List.set_cons_zero, List.set_cons_succ]
          refine nany_take 3 53 (.int .i64 k) rfl rfl (by kernel_rfl) (by kernel_rfl) (by kernel_rfl) (fun _ _ _ h => h) (Or.inl ⟨by rfl, ?_⟩) hS ?_
          · rintro w' hS'
            go_simp
          simp only [List.setIfInBounds_toArray, List.set_cons_zero, List.set_cons_succ]
          refine nany_take 4 54 (.pointer (some ⟨b5, off + k * 5, none⟩)) rfl rfl (by kernel_rfl) (by kernel_rfl) (by kernel_rfl) (fun _ _ _ h => h) (Or.inl ⟨by rfl, ?_⟩) hS ?_
          · rintro w' hS'
            go_simp
          simp only [List.setIfInBounds_toArray, List.set_cons_zero, List.set_cons_succ]
          refine nany_take 5 55 (.pointer (some ⟨b5, off + k * 5 + 2, none⟩)) rfl rfl (by kernel_rfl) (by kernel_rfl) (by kernel_rfl) (fun _ _ _ h => h) (Or.inl ⟨by rfl, ?_⟩) hS ?_
          · rintro w' hS'
            go_simp
          simp only [List.setIfInBounds_toArray, List.set_cons_zero, List.set_cons_succ]
          refine nany_take 6 56 (.int .u64 xv) rfl rfl (by kernel_rfl) (by kernel_rfl) (by kernel_rfl) (fun _ _ _ h => h) (Or.inl ⟨by rfl, ?_⟩) hS ?_
          · rintro w' hS'
            have hc9 := cell_later hS' q2
            go_simp
          simp only [List.setIfInBounds_toArray, List.set_cons_zero, List.set_cons_succ]
          refine nany_one 1 (by kernel_rfl) ?_
          refine nop_callE 51 (f := 33) (args := #[.pointer (some ⟨p, 0, none⟩)]) (R := fun v w' => v = .int .u64 V ∧ RX w' 68 (fun b => b = p) p R2 ∧ Mods (fun b => b = p) v0 w') rfl (by rfl) rfl (by go_simp) ((HC.out v0 HX0'.out).mono (fun e w' h => ⟨_, h.1, rfl, h.2⟩)) ?_
          rintro v v5 ⟨rfl, hx5, hm5⟩
          have hS5 := hm5.to_below hS hS.size (fun b hb => by have h9 : b = p := hb; rw [h9]; exact HP.out)
          clear hS
          have hS := hS5
          refine ⟨hS, ?_⟩
          simp only [List.setIfInBounds_toArray, List.set_cons_zero, List.set_cons_succ]
          have HX5 := hid hx5
          clear hx5 hm5
          refine nany_take 7 57 (.bool true) rfl rfl (by kernel_rfl) (by kernel_rfl) (by kernel_rfl) (fun _ _ _ h => h) (Or.inl ⟨by rfl, ?_⟩) hS ?_
          · rintro w' hS'
            go_simp
          simp only [List.setIfInBounds_toArray, List.set_cons_zero, List.set_cons_succ]
          refine nany_take 8 7 (.bool true) rfl rfl (by kernel_rfl) (by kernel_rfl) (by kernel_rfl) (fun _ _ _ h => h) (Or.inl ⟨by rfl, ?_⟩) hS ?_
          · rintro w' hS'
            go_simp
          simp only [List.setIfInBounds_toArray, List.set_cons_zero, List.set_cons_succ]
          refine wpAnyH_done (by kernel_rfl) ?_ _
          have HB5 := hid hS
          clear hS hS5
          have HER := hid (RErr_any HX5.out)
          rw [HE.out] at HER
          have HRK := hid HX5.out.hk
          go_wp2_with (go_at_call 14; refine HER.out.mono ?_; rintro e w8 ⟨rfl, hw8⟩; subst hw8)
          go_roundw
          case rel => exact ⟨k + 1, by omega, by go_num, R2, HRR.out, HRL2.out, by have := HRK.out; rw [HRL2.out] at this; exact this, HX5.out, HB5.out⟩
          case measure => simp [intOf]; omega
        · have hbb : BB = false := HSN.out (by rw [hok2, hR2, decide_eq_false he, Bool.and_false])
          have HBF := hid hbb
          obtain ⟨E, hE⟩ : ∃ E, R2.e = E := ⟨_, rfl⟩
          rw [hE] at he
          have hee : (E != 0) = true := by simpa using he
          have HE := hid hE
          have hse := g9.symm.trans hG
          clear g9
          clear hbb hG hok2 HSY HSN hR2 he hE
          go_upto_region 11 with fail
          try simp only [Act.put]
          obtain ⟨v0, hv0⟩ : ∃ W, W = wr.drew := ⟨_, rfl⟩
          have HB0 := hid (show Below w.heap.size w v0 by rw [hv0]; exact HBL.out.drew)
          have HX0' := hid (show RX v0 68 (fun b => b = p) p r by rw [hv0]; exact HX.out.later (Below.refl _ _).drew)
          refine wp_region_held_drew (S := fun W => Below w.heap.size w W) (by kernel_rfl) (by exact HBL.out.drew) (fun hS => ?_)
          rw [← hv0] at hS ⊢
          clear hv0 t0
          refine nany_take 0 50 (.pointer (some ⟨p, 0, none⟩)) rfl rfl (by kernel_rfl) (by kernel_rfl) (by kernel_rfl) (fun _ _ _ h => h) (Or.inl ⟨by rfl, ?_⟩) hS ?_
          · rintro w' hS'
            go_simp
          simp only [List.setIfInBounds_toArray, List.set_cons_zero, List.set_cons_succ]
          refine nany_take 2 52 (.slice (some ⟨b5, off, none⟩) m cap) rfl rfl (by kernel_rfl) (by kernel_rfl) (by kernel_rfl) (fun _ _ _ h => h) (Or.inl ⟨by rfl, ?_⟩) hS ?_
          · rintro w' hS'
            go_simp
          simp only [List.setIfInBounds_toArray, List.set_cons_zero, List.set_cons_succ]
          refine nany_take 3 53 (.int .i64 k) rfl rfl (by kernel_rfl) (by kernel_rfl) (by kernel_rfl) (fun _ _ _ h => h) (Or.inl ⟨by rfl, ?_⟩) hS ?_
          · rintro w' hS'
            go_simp
          simp only [List.setIfInBounds_toArray, List.set_cons_zero, List.set_cons_succ]
          refine nany_take 4 54 (.pointer (some ⟨b5, off + k * 5, none⟩)) rfl rfl (by kernel_rfl) (by kernel_rfl) (by kernel_rfl) (fun _ _ _ h => h) (Or.inl ⟨by rfl, ?_⟩) hS ?_
          · rintro w' hS'
            go_simp
          simp only [List.setIfInBounds_toArray, List.set_cons_zero, List.set_cons_succ]
          refine nany_take 5 55 (.pointer (some ⟨b5, off + k * 5 + 2, none⟩)) rfl rfl (by kernel_rfl) (by kernel_rfl) (by kernel_rfl) (fun _ _ _ h => h) (Or.inl ⟨by rfl, ?_⟩) hS ?_
          · rintro w' hS'
            go_simp
          simp only [List.setIfInBounds_toArray, List.set_cons_zero, List.set_cons_succ]
          refine nany_take 6 56 (.int .u64 xv) rfl rfl (by kernel_rfl) (by kernel_rfl) (by kernel_rfl) (fun _ _ _ h => h) (Or.inl ⟨by rfl, ?_⟩) hS ?_
          · rintro w' hS'
            have hc9 := cell_later hS' q2
            go_simp
          simp only [List.setIfInBounds_toArray, List.set_cons_zero, List.set_cons_succ]
          refine nany_one 1 (by kernel_rfl) ?_
          refine nop_callE 51 (f := 33) (args := #[.pointer (some ⟨p, 0, none⟩)]) (R := fun v w' => v = .int .u64 V ∧ RX w' 68 (fun b => b = p) p R2 ∧ Mods (fun b => b = p) v0 w') rfl (by rfl) rfl (by go_simp) ((HC.out v0 HX0'.out).mono (fun e w' h => ⟨_, h.1, rfl, h.2⟩)) ?_
          rintro v v5 ⟨rfl, hx5, hm5⟩
          have hS5 := hm5.to_below hS hS.size (fun b hb => by have h9 : b = p := hb; rw [h9]; exact HP.out)
          clear hS
          have hS := hS5
          refine ⟨hS, ?_⟩
          simp only [List.setIfInBounds_toArray, List.set_cons_zero, List.set_cons_succ]
          have HX5 := hid hx5
          clear hx5 hm5
          refine nany_take 7 57 (.bool true) rfl rfl (by kernel_rfl) (by kernel_rfl) (by kernel_rfl) (fun _ _ _ h => h) (Or.inl ⟨by rfl, ?_⟩) hS ?_
          · rintro w' hS'
            go_simp
          simp only [List.setIfInBounds_toArray, List.set_cons_zero, List.set_cons_succ]
          refine nany_take 8 7 (.bool true) rfl rfl (by kernel_rfl) (by kernel_rfl) (by kernel_rfl) (fun _ _ _ h => h) (Or.inl ⟨by rfl, ?_⟩) hS ?_
          · rintro w' hS'
            go_simp
          simp only [List.setIfInBounds_toArray, List.set_cons_zero, List.set_cons_succ]
          refine wpAnyH_done (by kernel_rfl) ?_ _
          have HB5 := hid hS
          clear hS hS5
          have HER := hid (RErr_any HX5.out)
          rw [HE.out] at HER
          go_wp2_with (go_at_call 14; refine HER.out.mono ?_; rintro e w8 ⟨rfl, hw8⟩; subst hw8)
          go_ret
          exact ⟨ret_bool HBF.out.symm, HB5.out⟩
    have f2 : (xkd == 2) = false := by simp [e2]
    by_cases e3 : xkd = 3
    · subst e3
      obtain ⟨R2, hR2⟩ : ∃ y, bkR r ⟨3, xnn, xv, xon, xa, xn, xc, xl⟩ = y := ⟨_, rfl⟩
      rw [hR2] at HRL2
      have e9 : bkR r ⟨3, xnn, xv, xon, xa, xn, xc, xl⟩ = ansR r (boolP r.l r.k) := by simp [bkR]
      have g9 : bkG r ⟨3, xnn, xv, xon, xa, xn, xc, xl⟩ = (ansV r false (boolP r.l r.k) == xon) := by simp [bkG]
      have HC : Hid (∀ W, RX W 68 (fun b => b = p) p r → Calls Try.prog 35 #[.pointer (some ⟨p, 0, none⟩)] W fun e w' => e = .returned (.bool (ansV r false (boolP r.l r.k))) ∧ RX w' 68 (fun b => b = p) p R2 ∧ Mods (fun b => b = p) W w') := hid (fun W hW => by have := RBool_any hW; rwa [← e9, hR2] at this)
      obtain ⟨V, hV⟩ : ∃ V, ansV r false (boolP r.l r.k) = V := ⟨_, rfl⟩
      rw [hV] at HC g9
      clear hV e9
      cases hG : bkG r ⟨3, xnn, xv, xon, xa, xn, xc, xl⟩ with
      | false =>
        have hbb : BB = false := HSN.out (by rw [hok2, hG]; rfl)
        have HBF := hid hbb
        have hse := g9.symm.trans hG
        clear g9
        clear hbb hG hok2 HSY HSN
        go_upto_region 13 with fail
        try simp only [Act.put]
        obtain ⟨v0, hv0⟩ : ∃ W, W = wr.drew := ⟨_, rfl⟩
        have HB0 := hid (show Below w.heap.size w v0 by rw [hv0]; exact HBL.out.drew)
        have HX0' := hid (show RX v0 68 (fun b => b = p) p r by rw [hv0]; exact HX.out.later (Below.refl _ _).drew)
        refine wp_region_held_drew (S := fun W => Below w.heap.size w W) (by kernel_rfl) (by exact HBL.out.drew) (fun hS => ?_)
        rw [← hv0] at hS ⊢
        clear hv0 t0
        refine nany_take 0 60 (.pointer (some ⟨p, 0, none⟩)) rfl rfl (by kernel_rfl) (by kernel_rfl) (by kernel_rfl) (fun _ _ _ h => h) (Or.inl ⟨by rfl, ?_⟩) hS ?_
        · rintro w' hS'
          go_simp
        simp only [List.setIfInBounds_toArray, List.set_cons_zero, List.set_cons_succ]
        refine nany_take 2 62 (.slice (some ⟨b5, off, none⟩) m cap) rfl rfl (by kernel_rfl) (by kernel_rfl) (by kernel_rfl) (fun _ _ _ h => h) (Or.inl ⟨by rfl, ?_⟩) hS ?_
        · rintro w' hS'
          go_simp
        simp only [List.setIfInBounds_toArray, List.set_cons_zero, List.set_cons_succ]
        refine nany_take 3 63 (.int .i64 k) rfl rfl (by kernel_rfl) (by kernel_rfl) (by kernel_rfl) (fun _ _ _ h => h) (Or.inl ⟨by rfl, ?_⟩) hS ?_
        · rintro w' hS'
          go_simp
        simp only [List.setIfInBounds_toArray, List.set_cons_zero, List.set_cons_succ]
        refine nany_take 4 64 (.pointer (some ⟨b5, off + k * 5, none⟩)) rfl rfl (by kernel_rfl) (by kernel_rfl) (by kernel_rfl) (fun _ _ _ h => h) (Or.inl ⟨by rfl, ?_⟩) hS ?_
        · rintro w' hS'
          go_simp
        simp only [List.setIfInBounds_toArray, List.set_cons_zero, List.set_cons_succ]
        refine nany_take 5 65 (.pointer (some ⟨b5, off + k * 5 + 3, none⟩)) rfl rfl (by kernel_rfl) (by kernel_rfl) (by kernel_rfl) (fun _ _ _ h => h) (Or.inl ⟨by rfl, ?_⟩) hS ?_
        · rintro w' hS'
          go_simp
        simp only [List.setIfInBounds_toArray, List.set_cons_zero, List.set_cons_succ]
        refine nany_take 6 66 (.bool xon) rfl rfl (by kernel_rfl) (by kernel_rfl) (by kernel_rfl) (fun _ _ _ h => h) (Or.inl ⟨by rfl, ?_⟩) hS ?_
        · rintro w' hS'
          have hc9 := cell_later hS' q3
          go_simp
        simp only [List.setIfInBounds_toArray, List.set_cons_zero, List.set_cons_succ]
        refine nany_one 1 (by kernel_rfl) ?_
        refine nop_callE 61 (f := 35) (args := #[.pointer (some ⟨p, 0, none⟩)]) (R := fun v w' => v = .bool V ∧ RX w' 68 (fun b => b = p) p R2 ∧ Mods (fun b => b = p) v0 w') rfl (by rfl) rfl (by go_simp) ((HC.out v0 HX0'.out).mono (fun e w' h => ⟨_, h.1, rfl, h.2⟩)) ?_
        rintro v v5 ⟨rfl, hx5, hm5⟩
        have hS5 := hm5.to_below hS hS.size (fun b hb => by have h9 : b = p := hb; rw [h9]; exact HP.out)
        clear hS
        have hS := hS5
        refine ⟨hS, ?_⟩
        simp only [List.setIfInBounds_toArray, List.set_cons_zero, List.set_cons_succ]
        have HX5 := hid hx5
        clear hx5 hm5
        refine nany_take 7 67 (.bool false) rfl rfl (by kernel_rfl) (by kernel_rfl) (by kernel_rfl) (fun _ _ _ h => h) (Or.inl ⟨by rfl, ?_⟩) hS ?_
        · rintro w' hS'
          go_simp
        simp only [List.setIfInBounds_toArray, List.set_cons_zero, List.set_cons_succ]
        refine nany_take 8 7 (.bool false) rfl rfl (by kernel_rfl) (by kernel_rfl) (by kernel_rfl) (fun _ _ _ h => h) (Or.inl ⟨by rfl, ?_⟩) hS ?_
        · rintro w' hS'
          go_simp
        simp only [List.setIfInBounds_toArray, List.set_cons_zero, List.set_cons_succ]
        refine wpAnyH_done (by kernel_rfl) ?_ _
        have HB5 := hid hS
        clear hS hS5
        go_wp2
        go_ret
        exact ⟨ret_bool HBF.out.symm, HB5.out⟩
      | true =>
        by_cases he : R2.e = 0
        · have hrr : runB ⟨l, 0, 0⟩ (L.take (k + 1)) = some R2 := by rw [HSY.out (by rw [hok2, hG, hR2, he]; rfl), hR2]
          have HRR := hid hrr
          have HE := hid he
          have hse := g9.symm.trans hG
          clear g9
          clear hrr he hG hok2 HSY HSN hR2
          go_upto_region 13 with fail
          try simp only [Act.put]
          obtain ⟨v0, hv0⟩ : ∃ W, W = wr.drew := ⟨_, rfl⟩
          have HB0 := hid (show Below w.heap.size w v0 by rw [hv0]; exact HBL.out.drew)
          have HX0' := hid (show RX v0 68 (fun b => b = p) p r by rw [hv0]; exact HX.out.later (Below.refl _ _).drew)
          refine wp_region_held_drew (S := fun W => Below w.heap.size w W) (by kernel_rfl) (by exact HBL.out.drew) (fun hS => ?_)
          rw [← hv0] at hS ⊢
          clear hv0 t0
          refine nany_take 0 60 (.pointer (some ⟨p, 0, none⟩)) rfl rfl (by kernel_rfl) (by kernel_rfl) (by kernel_rfl) (fun _ _ _ h => h) (Or.inl ⟨by rfl, ?_⟩) hS ?_
          · rintro w' hS'
            go_simp
          simp only [List.setIfInBounds_toArray, List.set_cons_zero, List.set_cons_succ]
          refine nany_take 2 62 (.slice (some ⟨b5, off, none⟩) m cap) rfl rfl (by kernel_rfl) (by kernel_rfl) (by kernel_rfl) (fun _ _ _ h => h) (Or.inl ⟨by rfl, ?_⟩) hS ?_
          · rintro w' hS'
            go_simp
          simp only [List.setIfInBounds_toArray, List.set_cons_zero, List.set_cons_succ]
          refine nany_take 3 63 (.int .i64 k) rfl rfl (by kernel_rfl) (by kernel_rfl) (by kernel_rfl) (fun _ _ _ h => h) (Or.inl ⟨by rfl, ?_⟩) hS ?_
          · rintro w' hS'
            go_simp
          simp only [List.setIfInBounds_toArray, List.set_cons_zero, List.set_cons_succ]
          refine nany_take 4 64 (.pointer (some ⟨b5, off + k * 5, none⟩)) rfl rfl (by kernel_rfl) (by kernel_rfl) (by kernel_rfl) (fun _ _ _ h => h) (Or.inl ⟨by rfl, ?_⟩) hS ?_
          · rintro w' hS'
            go_simp
          simp only [List.setIfInBounds_toArray, List.set_cons_zero, List.set_cons_succ]
          refine nany_take 5 65 (.pointer (some ⟨b5, off + k * 5 + 3, none⟩)) rfl rfl (by kernel_rfl) (by kernel_rfl) (by kernel_rfl) (fun _ _ _ h => h) (Or.inl ⟨by rfl, ?_⟩) hS ?_
          · rintro w' hS'
            go_simp
          simp only [List.setIfInBounds_toArray, List.set_cons_zero, List.set_cons_succ]
          refine nany_take 6 66 (.bool xon) rfl rfl (by kernel_rfl) (by kernel_rfl) (by kernel_rfl) (fun _ _ _ h => h) (Or.inl ⟨by rfl, ?_⟩) hS ?_
          · rintro w' hS'
            have hc9 := cell_later hS' q3
            go_simp
          simp only [List.setIfInBounds_toArray, List.set_cons_zero, List.set_cons_succ]
          refine nany_one 1 (by kernel_rfl) ?_
          refine nop_callE 61 (f := 35) (args := #[.pointer (some ⟨p, 0, none⟩)]) (R := fun v w' => v = .bool V ∧ RX w' 68 (fun b => b = p) p R2 ∧ Mods (fun b => b = p) v0 w') rfl (by rfl) rfl (by go_simp) ((HC.out v0 HX0'.out).mono (fun e w' h => ⟨_, h.1, rfl, h.2⟩)) ?_
          rintro v v5 ⟨rfl, hx5, hm5⟩
          have hS5 := hm5.to_below hS hS.size (fun b hb => by have h9 : b = p := hb; rw [h9]; exact HP.out)
          clear hS
          have hS := hS5
          refine ⟨hS, ?_⟩
          simp only [List.setIfInBounds_toArray, List.set_cons_zero, List.set_cons_succ]
          have HX5 := hid hx5
          clear hx5 hm5
          refine nany_take 7 67 (.bool true) rfl rfl (by kernel_rfl) (by kernel_rfl) (by kernel_rfl) (fun _ _ _ h => h) (Or.inl ⟨by rfl, ?_⟩) hS ?_
          · rintro w' hS'
            go_simp
          simp only [List.setIfInBounds_toArray, List.set_cons_zero, List.set_cons_succ]
          refine nany_take 8 7 (.bool true) rfl rfl (by kernel_rfl) (by kernel_rfl) (by kernel_rfl) (fun _ _ _ h => h) (Or.inl ⟨by rfl, ?_⟩) hS ?_
          · rintro w' hS'
            go_simp
          simp only [List.setIfInBounds_toArray, List.set_cons_zero, List.set_cons_succ]
          refine wpAnyH_done (by kernel_rfl) ?_ _
          have HB5 := hid hS
          clear hS hS5
          have HER := hid (RErr_any HX5.out)
          rw [HE.out] at HER
          have HRK := hid HX5.out.hk
          go_wp2_with (go_at_call 14; refine HER.out.mono ?_; rintro e w8 ⟨rfl, hw8⟩; subst hw8)
          go_roundw
          case rel => exact ⟨k + 1, by omega, by go_num, R2, HRR.out, HRL2.out, by have := HRK.out; rw [HRL2.out] at this; exact this, HX5.out, HB5.out⟩
          case measure => simp [intOf]; omega
        · have hbb : BB = false := HSN.out (by rw [hok2, hR2, decide_eq_false he, Bool.and_false])
          have HBF := hid hbb
          obtain ⟨E, hE⟩ : ∃ E, R2.e = E := ⟨_, rfl⟩
          rw [hE] at he
          have hee : (E != 0) = true := by simpa using he
          have HE := hid hE
          have hse := g9.symm.trans hG
          clear g9
          clear hbb hG hok2 HSY HSN hR2 he hE
          go_upto_region 13 with fail
          try simp only [Act.put]
          obtain ⟨v0, hv0⟩ : ∃ W, W = wr.drew := ⟨_, rfl⟩
          have HB0 := hid (show Below w.heap.size w v0 by rw [hv0]; exact HBL.out.drew)
          have HX0' := hid (show RX v0 68 (fun b => b = p) p r by rw [hv0]; exact HX.out.later (Below.refl _ _).drew)
          refine wp_region_held_drew (S := fun W => Below w.heap.size w W) (by kernel_rfl) (by exact HBL.out.drew) (fun hS => ?_)
          rw [← hv0] at hS ⊢
          clear hv0 t0
          refine nany_take 0 60 (.pointer (some ⟨p, 0, none⟩)) rfl rfl (by kernel_rfl) (by kernel_rfl) (by kernel_rfl) (fun _ _ _ h => h) (Or.inl ⟨by rfl, ?_⟩) hS ?_
          · rintro w' hS'
            go_simp
          simp only [List.setIfInBounds_toArray, List.set_cons_zero, List.set_cons_succ]
          refine nany_take 2 62 (.slice (some ⟨b5, off, none⟩) m cap) rfl rfl (by kernel_rfl) (by kernel_rfl) (by kernel_rfl) (fun _ _ _ h => h) (Or.inl ⟨by rfl, ?_⟩) hS ?_
          · rintro w' hS'
            go_simp
          simp only [List.setIfInBounds_toArray, List.set_cons_zero, List.set_cons_succ]
          refine nany_take 3 63 (.int .i64 k) rfl rfl (by kernel_rfl) (by kernel_rfl) (by kernel_rfl) (fun _ _ _ h => h) (Or.inl ⟨by rfl, ?_⟩) hS ?_
          · rintro w' hS'
            go_simp
          simp only [List.setIfInBounds_toArray, List.set_cons_zero, List.set_cons_succ]
          refine nany_take 4 64 (.pointer (some ⟨b5, off + k * 5, none⟩)) rfl rfl (by kernel_rfl) (by kernel_rfl) (by kernel_rfl) (fun _ _ _ h => h) (Or.inl ⟨by rfl, ?_⟩) hS ?_
          · rintro w' hS'
            go_simp
          simp only [List.setIfInBounds_toArray, List.set_cons_zero, List.set_cons_succ]
          refine nany_take 5 65 (.pointer (some ⟨b5, off + k * 5 + 3, none⟩)) rfl rfl (by kernel_rfl) (by kernel_rfl) (by kernel_rfl) (fun _ _ _ h => h) (Or.inl ⟨by rfl, ?_⟩) hS ?_
          · rintro w' hS'
            go_simp
          simp only [List.setIfInBounds_toArray, List.set_cons_zero, List.set_cons_succ]
          refine nany_take 6 66 (.bool xon) rfl rfl (by kernel_rfl) (by kernel_rfl) (by kernel_rfl) (fun _ _ _ h => h) (Or.inl ⟨by rfl, ?_⟩) hS ?_
          · rintro w' hS'
            have hc9 := cell_later hS' q3
            go_simp
          simp only [List.setIfInBounds_toArray, List.set_cons_zero, List.set_cons_succ]
          refine nany_one 1 (by kernel_rfl) ?_
          refine nop_callE 61 (f := 35) (args := #[.pointer (some ⟨p, 0, none⟩)]) (R := fun v w' => v = .bool V ∧ RX w' 68 (fun b => b = p) p R2 ∧ Mods (fun b => b = p) v0 w') rfl (by rfl) rfl (by go_simp) ((HC.out v0 HX0'.out).mono (fun e w' h => ⟨_, h.1, rfl, h.2⟩)) ?_
          rintro v v5 ⟨rfl, hx5, hm5⟩
          have hS5 := hm5.to_below hS hS.size (fun b hb => by have h9 : b = p := hb; rw [h9]; exact HP.out)
          clear hS
          have hS := hS5
          refine ⟨hS, ?_⟩
          simp only [List.setIfInBounds_toArray, List.set_cons_zero, List.set_cons_succ]
          have HX5 := hid hx5
          clear hx5 hm5
          refine nany_take 7 67 (.bool true) rfl rfl (by kernel_rfl) (by kernel_rfl) (by kernel_rfl) (fun _ _ _ h => h) (Or.inl ⟨by rfl, ?_⟩) hS ?_
          · rintro w' hS'
            go_simp
          simp only [List.setIfInBounds_toArray, List.set_cons_zero, List.set_cons_succ]
          refine nany_take 8 7 (.bool true) rfl rfl (by kernel_rfl) (by kernel_rfl) (by kernel_rfl) (fun _ _ _ h => h) (Or.inl ⟨by rfl, ?_⟩) hS ?_
          · rintro w' hS'
            go_simp
          simp only [List.setIfInBounds_toArray, List.set_cons_zero, List.set_cons_succ]
          refine wpAnyH_done (by kernel_rfl) ?_ _
          have HB5 := hid hS
          clear hS hS5
          have HER := hid (RErr_any HX5.out)
          rw [HE.out] at HER
          go_wp2_with (go_at_call 14; refine HER.out.mono ?_; rintro e w8 ⟨rfl, hw8⟩; subst hw8)
          go_ret
          exact ⟨ret_bool HBF.out.symm, HB5.out⟩
    have f3 : (xkd == 3) = false := by simp [e3]
    by_cases e4 : xkd = 4
    · subst e4
      obtain ⟨R2, hR2⟩ : ∃ y, bkR r ⟨4, xnn, xv, xon, xa, xn, xc, xl⟩ = y := ⟨_, rfl⟩
      rw [hR2] at HRL2
      have e9 : bkR r ⟨4, xnn, xv, xon, xa, xn, xc, xl⟩ = ansR r (cntP r.l r.k xn) := by simp [bkR]
      have g9 : bkG r ⟨4, xnn, xv, xon, xa, xn, xc, xl⟩ = decide (ansV r [] (cntP r.l r.k xn) = xl) := by simp [bkG]
      have HC : Hid (∀ W, RX W 68 (fun b => b = p) p r → Calls Try.prog 29 #[.pointer (some ⟨p, 0, none⟩), .int .i64 xn] W fun e w' => (∃ a2 c2, e = .returned (.slice a2 (ansV r [] (cntP r.l r.k xn)).length c2) ∧ By w' (New W) a2 (ansV r [] (cntP r.l r.k xn)) ∧ (ansV r [] (cntP r.l r.k xn)).length ≤ c2) ∧ RX w' 68 (fun b => b = p) p R2 ∧ Mods (fun b => b = p) W w') := hid (fun W hW => by have := RBytes_any hW xn (by unfold II16; omega); rwa [← e9, hR2] at this)
      have hVI : ∀ z ∈ ansV r [] (cntP r.l r.k xn), IsB z := ansV_isB4 _ _ _ HX.out.isB'
      obtain ⟨V, hV⟩ : ∃ V, ansV r [] (cntP r.l r.k xn) = V := ⟨_, rfl⟩
      rw [hV] at HC g9 hVI
      rw [← str_eq hVI HXI.out] at g9
      obtain ⟨vm, hvm⟩ : ∃ m, V.length = m := ⟨_, rfl⟩
      rw [hvm] at HC
      have HVM := hid hvm
      clear hV e9 hVI hvm
      cases hG : bkG r ⟨4, xnn, xv, xon, xa, xn, xc, xl⟩ with
      | false =>
        have hbb : BB = false := HSN.out (by rw [hok2, hG]; rfl)
        have HBF := hid hbb
        have hse := g9.symm.trans hG
        clear g9
        clear hbb hG hok2 HSY HSN
        go_upto_region 15 with fail
        try simp only [Act.put]
        obtain ⟨v0, hv0⟩ : ∃ W, W = wr.drew := ⟨_, rfl⟩
        have HB0 := hid (show Below w.heap.size w v0 by rw [hv0]; exact HBL.out.drew)
        have HX0' := hid (show RX v0 68 (fun b => b = p) p r by rw [hv0]; exact HX.out.later (Below.refl _ _).drew)
        refine wp_region_held_drew (S := fun W => Below w.heap.size w W) (by kernel_rfl) (by exact HBL.out.drew) (fun hS => ?_)
        rw [← hv0] at hS ⊢
        clear hv0 t0
        refine nany_take 0 70 (.pointer (some ⟨p, 0, none⟩)) rfl rfl (by kernel_rfl) (by kernel_rfl) (by kernel_rfl) (fun _ _ _ h => h) (Or.inl ⟨by rfl, ?_⟩) hS ?_
        · rintro w' hS'
          go_simp
        simp only [List.setIfInBounds_toArray, List.set_cons_zero, List.set_cons_succ]
        refine nany_take 1 71 (.slice (some ⟨b5, off, none⟩) m cap) rfl rfl (by kernel_rfl) (by kernel_rfl) (by kernel_rfl) (fun _ _ _ h => h) (Or.inl ⟨by rfl, ?_⟩) hS ?_
        · rintro w' hS'
          go_simp
        simp only [List.setIfInBounds_toArray, List.set_cons_zero, List.set_cons_succ]
        refine nany_take 2 72 (.int .i64 k) rfl rfl (by kernel_rfl) (by kernel_rfl) (by kernel_rfl) (fun _ _ _ h => h) (Or.inl ⟨by rfl, ?_⟩) hS ?_
        · rintro w' hS'
          go_simp
        simp only [List.setIfInBounds_toArray, List.set_cons_zero, List.set_cons_succ]
        refine nany_take 3 73 (.pointer (some ⟨b5, off + k * 5, none⟩)) rfl rfl (by kernel_rfl) (by kernel_rfl) (by kernel_rfl) (fun _ _ _ h => h) (Or.inl ⟨by rfl, ?_⟩) hS ?_
        · rintro w' hS'
          go_simp
        simp only [List.setIfInBounds_toArray, List.set_cons_zero, List.set_cons_succ]
        refine nany_take 4 74 (.pointer (some ⟨b5, off + k * 5 + 4, none⟩)) rfl rfl (by kernel_rfl) (by kernel_rfl) (by kernel_rfl) (fun _ _ _ h => h) (Or.inl ⟨by rfl, ?_⟩) hS ?_
        · rintro w' hS'
          go_simp
        simp only [List.setIfInBounds_toArray, List.set_cons_zero, List.set_cons_succ]
        refine nany_take 5 75 (.slice xa xn xc) rfl rfl (by kernel_rfl) (by kernel_rfl) (by kernel_rfl) (fun _ _ _ h => h) (Or.inl ⟨by rfl, ?_⟩) hS ?_
        · rintro w' hS'
          have hc9 := cell_later hS' q4
          go_simp
        simp only [List.setIfInBounds_toArray, List.set_cons_zero, List.set_cons_succ]
        refine nany_take 6 76 (.int .i64 xn) rfl rfl (by kernel_rfl) (by kernel_rfl) (by kernel_rfl) (fun _ _ _ h => h) (Or.inl ⟨by rfl, ?_⟩) hS ?_
        · rintro w' hS'
          go_simp
        simp only [List.setIfInBounds_toArray, List.set_cons_zero, List.set_cons_succ]
        refine nany_take 9 79 (.slice (some ⟨b5, off, none⟩) m cap) rfl rfl (by kernel_rfl) (by kernel_rfl) (by kernel_rfl) (fun _ _ _ h => h) (Or.inl ⟨by rfl, ?_⟩) hS ?_
        · rintro w' hS'
          go_simp
        simp only [List.setIfInBounds_toArray, List.set_cons_zero, List.set_cons_succ]
        refine nany_take 10 80 (.int .i64 k) rfl rfl (by kernel_rfl) (by kernel_rfl) (by kernel_rfl) (fun _ _ _ h => h) (Or.inl ⟨by rfl, ?_⟩) hS ?_
        · rintro w' hS'
          go_simp
        simp only [List.setIfInBounds_toArray, List.set_cons_zero, List.set_cons_succ]
        refine nany_take 11 81 (.pointer (some ⟨b5, off + k * 5, none⟩)) rfl rfl (by kernel_rfl) (by kernel_rfl) (by kernel_rfl) (fun _ _ _ h => h) (Or.inl ⟨by rfl, ?_⟩) hS ?_
        · rintro w' hS'
          go_simp
        simp only [List.setIfInBounds_toArray, List.set_cons_zero, List.set_cons_succ]
        refine nany_take 12 82 (.pointer (some ⟨b5, off + k * 5 + 4, none⟩)) rfl rfl (by kernel_rfl) (by kernel_rfl) (by kernel_rfl) (fun _ _ _ h => h) (Or.inl ⟨by rfl, ?_⟩) hS ?_
        · rintro w' hS'
          go_simp
        simp only [List.setIfInBounds_toArray, List.set_cons_zero, List.set_cons_succ]
        refine nany_take 13 83 (.slice xa xn xc) rfl rfl (by kernel_rfl) (by kernel_rfl) (by kernel_rfl) (fun _ _ _ h => h) (Or.inl ⟨by rfl, ?_⟩) hS ?_
        · rintro w' hS'
          have hc9 := cell_later hS' q4
          go_simp
        simp only [List.setIfInBounds_toArray, List.set_cons_zero, List.set_cons_succ]
        refine nany_take 14 84 (.string (strOfNums xl)) rfl rfl (by kernel_rfl) (by kernel_rfl) (by kernel_rfl) (fun _ _ _ h => h) (Or.inl ⟨by rfl, ?_⟩) hS ?_
        · rintro w' hS'
          have hc9 := conv0 (HXB.out.later hS') (cap := xc) HXN.out
          go_simp
        simp only [List.setIfInBounds_toArray, List.set_cons_zero, List.set_cons_succ]
        refine nany_one 7 (by kernel_rfl) ?_
        refine nop_callE 77 (f := 29) (args := #[.pointer (some ⟨p, 0, none⟩), .int .i64 xn]) (R := fun v w' => (∃ a2 c2, v = .slice a2 vm c2 ∧ Bytes w' a2 V) ∧ RX w' 68 (fun b => b = p) p R2 ∧ Mods (fun b => b = p) v0 w') rfl (by rfl) rfl (by go_simp) ((HC.out v0 HX0'.out).mono (fun e w' h => by obtain ⟨⟨a2, c2, g1, g2, _⟩, g4, g5⟩ := h; exact ⟨_, g1, ⟨a2, c2, rfl, g2.bytes⟩, g4, g5⟩)) ?_
        rintro v v5 ⟨⟨a2, c2, rfl, hy5⟩, hx5, hm5⟩
        have hS5 := hm5.to_below hS hS.size (fun b hb => by have h9 : b = p := hb; rw [h9]; exact HP.out)
        clear hS
        have hS := hS5
        refine ⟨hS, ?_⟩
        simp only [List.setIfInBounds_toArray, List.set_cons_zero, List.set_cons_succ]
        have HX5 := hid hx5
        have hcv := conv0 hy5 (cap := c2) HVM.out
        clear hx5 hm5 hy5
        refine nany_one 8 (by kernel_rfl) ?_
        refine nop_value' 78 (v := .string (strOfNums V)) (w' := v5) rfl (by rfl) rfl (by go_simp) ?_
        refine ⟨hS, ?_⟩
        simp only [List.setIfInBounds_toArray, List.set_cons_zero, List.set_cons_succ]
        clear hcv
        refine nany_take 15 85 (.bool false) rfl rfl (by kernel_rfl) (by kernel_rfl) (by kernel_rfl) (fun _ _ _ h => h) (Or.inl ⟨by rfl, ?_⟩) hS ?_
        · rintro w' hS'
          go_simp
        simp only [List.setIfInBounds_toArray, List.set_cons_zero, List.set_cons_succ]
        refine nany_take 16 7 (.bool false) rfl rfl (by kernel_rfl) (by kernel_rfl) (by kernel_rfl) (fun _ _ _ h => h) (Or.inl ⟨by rfl, ?_⟩) hS ?_
        · rintro w' hS'
          go_simp
        simp only [List.setIfInBounds_toArray, List.set_cons_zero, List.set_cons_succ]
        refine wpAnyH_done (by kernel_rfl) ?_ _
        have HB5 := hid hS
        clear hS hS5
        go_wp2
        go_ret
        exact ⟨ret_bool HBF.out.symm, HB5.out⟩
      | true =>
        by_cases he : R2.e = 0
        · have hrr : runB ⟨l, 0, 0⟩ (L.take (k + 1)) = some R2 := by rw [HSY.out (by rw [hok2, hG, hR2, he]; rfl), hR2]
          have HRR := hid hrr
          have HE := hid he
          have hse := g9.symm.trans hG
          clear g9
          clear hrr he hG hok2 HSY HSN hR2
          go_upto_region 15 with fail
          try simp only [Act.put]
          obtain ⟨v0, hv0⟩ : ∃ W, W = wr.drew := ⟨_, rfl⟩
          have HB0 := hid (show Below w.heap.size w v0 by rw [hv0]; exact HBL.out.drew)
          have HX0' := hid (show RX v0 68 (fun b => b = p) p r by rw [hv0]; exact HX.out.later (Below.refl _ _).drew)
          refine wp_region_held_drew (S := fun W => Below w.heap.size w W) (by kernel_rfl) (by exact HBL.out.drew) (fun hS => ?_)
          rw [← hv0] at hS ⊢
          clear hv0 t0
          refine nany_take 0 70 (.pointer (some ⟨p, 0, none⟩)) rfl rfl (by kernel_rfl) (by kernel_rfl) (by kernel_rfl) (fun _ _ _ h => h) (Or.inl ⟨by rfl, ?_⟩) hS ?_
          · rintro w' hS'
            go_simp
          simp only [List.setIfInBounds_toArray, List.set_cons_zero, List.set_cons_succ]
          refine nany_take 1 71 (.slice (some ⟨b5, off, none⟩) m cap) rfl rfl (by kernel_rfl) (by kernel_rfl) (by kernel_rfl) (fun _ _ _ h => h) (Or.inl ⟨by rfl, ?_⟩) hS ?_
          · rintro w' hS'
            go_simp
          simp only [List.setIfInBounds_toArray, List.set_cons_zero, List.set_cons_succ]
          refine nany_take 2 72 (.int .i64 k) rfl rfl (by kernel_rfl) (by kernel_rfl) (by kernel_rfl) (fun _ _ _ h => h) (Or.inl ⟨by rfl, ?_⟩) hS ?_
          · rintro w' hS'
            go_simp
          simp only [List.setIfInBounds_toArray, List.set_cons_zero, List.set_cons_succ]
          refine nany_take 3 73 (.pointer (some ⟨b5, off + k * 5, none⟩)) rfl rfl (by kernel_rfl) (by kernel_rfl) (by kernel_rfl) (fun _ _ _ h => h) (Or.inl ⟨by rfl, ?_⟩) hS ?_
          · rintro w' hS'
            go_simp
          simp only [List.setIfInBounds_toArray, List.set_cons_zero, List.set_cons_succ]
          refine nany_take 4 74 (.pointer (some ⟨b5, off + k * 5 + 4, none⟩)) rfl rfl (by kernel_rfl) (by kernel_rfl) (by kernel_rfl) (fun _ _ _ h => h) (Or.inl ⟨by rfl, ?_⟩) hS ?_
          · rintro w' hS'
            go_simp
          simp only [List.setIfInBounds_toArray, List.set_cons_zero, List.set_cons_succ]
          refine nany_take 5 75 (.slice xa xn xc) rfl rfl (by kernel_rfl) (by kernel_rfl) (by kernel_rfl) (fun _ _ _ h => h) (Or.inl ⟨by rfl, ?_⟩) hS ?_
          · rintro w' hS'
            have hc9 := cell_later hS' q4
            go_simp
          simp only [List.setIfInBounds_toArray, List.set_cons_zero, List.set_cons_succ]
          refine nany_take 6 76 (.int .i64 xn) rfl rfl (by kernel_rfl) (by kernel_rfl) (by kernel_rfl) (fun _ _ _ h => h) (Or.inl ⟨by rfl, ?_⟩) hS ?_
          · rintro w' hS'
            go_simp
          simp only [List.setIfInBounds_toArray, List.set_cons_zero, List.set_cons_succ]
          refine nany_take 9 79 (.slice (some ⟨b5, off, none⟩) m cap) rfl rfl (by kernel_rfl) (by kernel_rfl) (by kernel_rfl) (fun _ _ _ h => h) (Or.inl ⟨by rfl, ?_⟩) hS ?_
          · rintro w' hS'
            go_simp
          simp only [List.setIfInBounds_toArray, List.set_cons_zero, List.set_cons_succ]
          refine nany_take 10 80 (.int .i64 k) rfl rfl (by kernel_rfl) (by kernel_rfl) (by kernel_rfl) (fun _ _ _ h => h) (Or.inl ⟨by rfl, ?_⟩) hS ?_
          · rintro w' hS'
            go_simp
          simp only [List.setIfInBounds_toArray, List.set_cons_zero, List.set_cons_succ]
          refine nany_take 11 81 (.pointer (some ⟨b5, off + k * 5, none⟩)) rfl rfl (by kernel_rfl) (by kernel_rfl) (by kernel_rfl) (fun _ _ _ h => h) (Or.inl ⟨by rfl, ?_⟩) hS ?_
          · rintro w' hS'
            go_simp
          simp only [List.setIfInBounds_toArray, List.set_cons_zero, List.set_cons_succ]
          refine nany_take 12 82 (.pointer (some ⟨b5, off + k * 5 + 4, none⟩)) rfl rfl (by kernel_rfl) (by kernel_rfl) (by kernel_rfl) (fun _ _ _ h => h) (Or.inl ⟨by rfl, ?_⟩) hS ?_
          · rintro w' hS'
            go_simp
          simp only [List.setIfInBounds_toArray, List.set_cons_zero, List.set_cons_succ]
          refine nany_take 13 83 (.slice xa xn xc) rfl rfl (by kernel_rfl) (by kernel_rfl) (by kernel_rfl) (fun _ _ _ h => h) (Or.inl ⟨by rfl, ?_⟩) hS ?_
          · rintro w' hS'
            have hc9 := cell_later hS' q4
            go_simp
          simp only [List.setIfInBounds_toArray, List.set_cons_zero, List.set_cons_succ]
          refine nany_take 14 84 (.string (strOfNums xl)) rfl rfl (by kernel_rfl) (by kernel_rfl) (by kernel_rfl) (fun _ _ _ h => h) (Or.inl ⟨by rfl, ?_⟩) hS ?_
          · rintro w' hS'
            have hc9 := conv0 (HXB.out.later hS') (cap := xc) HXN.out
            go_simp
          simp only [List.setIfInBounds_toArray, List.set_cons_zero, List.set_cons_succ]
          refine nany_one 7 (by kernel_rfl) ?_
          refine nop_callE 77 (f := 29) (args := #[.pointer (some ⟨p, 0, none⟩), .int .i64 xn]) (R := fun v w' => (∃ a2 c2, v = .slice a2 vm c2 ∧ Bytes w' a2 V) ∧ RX w' 68 (fun b => b = p) p R2 ∧ Mods (fun b => b = p) v0 w') rfl (by rfl) rfl (by go_simp) ((HC.out v0 HX0'.out).mono (fun e w' h => by obtain ⟨⟨a2, c2, g1, g2, _⟩, g4, g5⟩ := h; exact ⟨_, g1, ⟨a2, c2, rfl, g2.bytes⟩, g4, g5⟩)) ?_
          rintro v v5 ⟨⟨a2, c2, rfl, hy5⟩, hx5, hm5⟩
          have hS5 := hm5.to_below hS hS.size (fun b hb => by have h9 : b = p := hb; rw [h9]; exact HP.out)
          clear hS
          have hS := hS5
          refine ⟨hS, ?_⟩
          simp only [List.setIfInBounds_toArray, List.set_cons_zero, List.set_cons_succ]
          have HX5 := hid hx5
          have hcv := conv0 hy5 (cap := c2) HVM.out
          clear hx5 hm5 hy5
          refine nany_one 8 (by kernel_rfl) ?_
          refine nop_value' 78 (v := .string (strOfNums V)) (w' := v5) rfl (by rfl) rfl (by go_simp) ?_
          refine ⟨hS, ?_⟩
          simp only [List.setIfInBounds_toArray, List.set_cons_zero, List.set_cons_succ]
          clear hcv
          refine nany_take 15 85 (.bool true) rfl rfl (by kernel_rfl) (by kernel_rfl) (by kernel_rfl) (fun _ _ _ h => h) (Or.inl ⟨by rfl, ?_⟩) hS ?_
          · rintro w' hS'
            go_simp
          simp only [List.setIfInBounds_toArray, List.set_cons_zero, List.set_cons_succ]
          refine nany_take 16 7 (.bool true) rfl rfl (by kernel_rfl) (by kernel_rfl) (by kernel_rfl) (fun _ _ _ h => h) (Or.inl ⟨by rfl, ?_⟩) hS ?_
          · rintro w' hS'
            go_simp
          simp only [List.setIfInBounds_toArray, List.set_cons_zero, List.set_cons_succ]
          refine wpAnyH_done (by kernel_rfl) ?_ _
          have HB5 := hid hS
          clear hS hS5
          have HER := hid (RErr_any HX5.out)
          rw [HE.out] at HER
          have HRK := hid HX5.out.hk
          go_wp2_with (go_at_call 14; refine HER.out.mono ?_; rintro e w8 ⟨rfl, hw8⟩; subst hw8)
          go_roundw
          case rel => exact ⟨k + 1, by omega, by go_num, R2, HRR.out, HRL2.out, by have := HRK.out; rw [HRL2.out] at this; exact this, HX5.out, HB5.out⟩
          case measure => simp [intOf]; omega
        · have hbb : BB = false := HSN.out (by rw [hok2, hR2, decide_eq_false he, Bool.and_false])
          have HBF := hid hbb
          obtain ⟨E, hE⟩ : ∃ E, R2.e = E := ⟨_, rfl⟩
          rw [hE] at he
          have hee : (E != 0) = true := by simpa using he
          have HE := hid hE
          have hse := g9.symm.trans hG
          clear g9
          clear hbb hG hok2 HSY HSN hR2 he hE
          go_upto_region 15 with fail
          try simp only [Act.put]
          obtain ⟨v0, hv0⟩ : ∃ W, W = wr.drew := ⟨_, rfl⟩
          have HB0 := hid (show Below w.heap.size w v0 by rw [hv0]; exact HBL.out.drew)
          have HX0' := hid (show RX v0 68 (fun b => b = p) p r by rw [hv0]; exact HX.out.later (Below.refl _ _).drew)
          refine wp_region_held_drew (S := fun W => Below w.heap.size w W) (by kernel_rfl) (by exact HBL.out.drew) (fun hS => ?_)
          rw [← hv0] at hS ⊢
          clear hv0 t0
          refine nany_take 0 70 (.pointer (some ⟨p, 0, none⟩)) rfl rfl (by kernel_rfl) (by kernel_rfl) (by kernel_rfl) (fun _ _ _ h => h) (Or.inl ⟨by rfl, ?_⟩) hS ?_
          · rintro w' hS'
            go_simp
          simp only [List.setIfInBounds_toArray, List.set_cons_zero, List.set_cons_succ]
          refine nany_take 1 71 (.slice (some ⟨b5, off, none⟩) m cap) rfl rfl (by kernel_rfl) (by kernel_rfl) (by kernel_rfl) (fun _ _ _ h => h) (Or.inl ⟨by rfl, ?_⟩) hS ?_
          · rintro w' hS'
            go_simp
          simp only [List.setIfInBounds_toArray, List.set_cons_zero, List.set_cons_succ]
          refine nany_take 2 72 (.int .i64 k) rfl rfl (by kernel_rfl) (by kernel_rfl) (by kernel_rfl) (fun _ _ _ h => h) (Or.inl ⟨by rfl, ?_⟩) hS ?_
          · rintro w' hS'
            go_simp
          simp only [List.setIfInBounds_toArray, List.set_cons_zero, List.set_cons_succ]
          refine nany_take 3 73 (.pointer (some ⟨b5, off + k * 5, none⟩)) rfl rfl (by kernel_rfl) (by kernel_rfl) (by kernel_rfl) (fun _ _ _ h => h) (Or.inl ⟨by rfl, ?_⟩) hS ?_
          · rintro w' hS'
            go_simp
          simp only [List.setIfInBounds_toArray, List.set_cons_zero, List.set_cons_succ]
          refine nany_take 4 74 (.pointer (some ⟨b5, off + k * 5 + 4, none⟩)) rfl rfl (by kernel_rfl) (by kernel_rfl) (by kernel_rfl) (fun _ _ _ h => h) (Or.inl ⟨by rfl, ?_⟩) hS ?_
          · rintro w' hS'
            go_simp
          simp only [List.setIfInBounds_toArray, List.set_cons_zero, List.set_cons_succ]
          refine nany_take 5 75 (.slice xa xn xc) rfl rfl (by kernel_rfl) (by kernel_rfl) (by kernel_rfl) (fun _ _ _ h => h) (Or.inl ⟨by rfl, ?_⟩) hS ?_
          · rintro w' hS'
            have hc9 := cell_later hS' q4
            go_simp
          simp only [List.setIfInBounds_toArray, List.set_cons_zero, List.set_cons_succ]
          refine nany_take 6 76 (.int .i64 xn) rfl rfl (by kernel_rfl) (by kernel_rfl) (by kernel_rfl) (fun _ _ _ h => h) (Or.inl ⟨by rfl, ?_⟩) hS ?_
          · rintro w' hS'
            go_simp
          simp only [List.setIfInBounds_toArray, List.set_cons_zero, List.set_cons_succ]
          refine nany_take 9 79 (.slice (some ⟨b5, off, none⟩) m cap) rfl rfl (by kernel_rfl) (by kernel_rfl) (by kernel_rfl) (fun _ _ _ h => h) (Or.inl ⟨by rfl, ?_⟩) hS ?_
          · rintro w' hS'
            go_simp
          simp only [List.setIfInBounds_toArray, List.set_cons_zero, List.set_cons_succ]
          refine nany_take 10 80 (.int .i64 k) rfl rfl (by kernel_rfl) (by kernel_rfl) (by kernel_rfl) (fun _ _ _ h => h) (Or.inl ⟨by rfl, ?_⟩) hS ?_
          · rintro w' hS'
            go_simp
          simp only [List.setIfInBounds_toArray, List.set_cons_zero, List.set_cons_succ]
          refine nany_take 11 81 (.pointer (some ⟨b5, off + k * 5, none⟩)) rfl rfl (by kernel_rfl) (by kernel_rfl) (by kernel_rfl) (fun _ _ _ h => h) (Or.inl ⟨by rfl, ?_⟩) hS ?_
          · rintro w' hS'
            go_simp
          simp only [List.setIfInBounds_toArray, List.set_cons_zero, List.set_cons_succ]
          refine nany_take 12 82 (.pointer (some ⟨b5, off + k * 5 + 4, none⟩)) rfl rfl (by kernel_rfl) (by kernel_rfl) (by kernel_rfl) (fun _ _ _ h => h) (Or.inl ⟨by rfl, ?_⟩) hS ?_
          · rintro w' hS'
            go_simp
          simp only [List.setIfInBounds_toArray, List.set_cons_zero, List.set_cons_succ]
          refine nany_take 13 83 (.slice xa xn xc) rfl rfl (by kernel_rfl) (by kernel_rfl) (by kernel_rfl) (fun _ _ _ h => h) (Or.inl ⟨by rfl, ?_⟩) hS ?_
          · rintro w' hS'
            have hc9 := cell_later hS' q4
            go_simp
          simp only [List.setIfInBounds_toArray, List.set_cons_zero, List.set_cons_succ]
          refine nany_take 14 84 (.string (strOfNums xl)) rfl rfl (by kernel_rfl) (by kernel_rfl) (by kernel_rfl) (fun _ _ _ h => h) (Or.inl ⟨by rfl, ?_⟩) hS ?_
          · rintro w' hS'
            have hc9 := conv0 (HXB.out.later hS') (cap := xc) HXN.out
            go_simp
          simp only [List.setIfInBounds_toArray, List.set_cons_zero, List.set_cons_succ]
          refine nany_one 7 (by kernel_rfl) ?_
          refine nop_callE 77 (f := 29) (args := #[.pointer (some ⟨p, 0, none⟩), .int .i64 xn]) (R := fun v w' => (∃ a2 c2, v = .slice a2 vm c2 ∧ Bytes w' a2 V) ∧ RX w' 68 (fun b => b = p) p R2 ∧ Mods (fun b => b = p) v0 w') rfl (by rfl) rfl (by go_simp) ((HC.out v0 HX0'.out).mono (fun e w' h => by obtain ⟨⟨a2, c2, g1, g2, _⟩, g4, g5⟩ := h; exact ⟨_, g1, ⟨a2, c2, rfl, g2.bytes⟩, g4, g5⟩)) ?_
          rintro v v5 ⟨⟨a2, c2, rfl, hy5⟩, hx5, hm5⟩
          have hS5 := hm5.to_below hS hS.size (fun b hb => by have h9 : b = p := hb; rw [h9]; exact HP.out)
          clear hS
          have hS := hS5
          refine ⟨hS, ?_⟩
          simp only [List.setIfInBounds_toArray, List.set_cons_zero, List.set_cons_succ]
          have HX5 := hid hx5
          have hcv := conv0 hy5 (cap := c2) HVM.out
          clear hx5 hm5 hy5
          refine nany_one 8 (by kernel_rfl) ?_
          refine nop_value' 78 (v := .string (strOfNums V)) (w' := v5) rfl (by rfl) rfl (by go_simp) ?_
          refine ⟨hS, ?_⟩
          simp only [List.setIfInBounds_toArray, List.set_cons_zero, List.set_cons_succ]
          clear hcv
          refine nany_take 15 85 (.bool true) rfl rfl (by kernel_rfl) (by kernel_rfl) (by kernel_rfl) (fun _ _ _ h => h) (Or.inl ⟨by rfl, ?_⟩) hS ?_
          · rintro w' hS'
            go_simp
          simp only [List.setIfInBounds_toArray, List.set_cons_zero, List.set_cons_succ]
          refine nany_take 16 7 (.bool true) rfl rfl (by kernel_rfl) (by kernel_rfl) (by kernel_rfl) (fun _ _ _ h => h) (Or.inl ⟨by rfl, ?_⟩) hS ?_
          · rintro w' hS'
            go_simp
          simp only [List.setIfInBounds_toArray, List.set_cons_zero, List.set_cons_succ]
          refine wpAnyH_done (by kernel_rfl) ?_ _
          have HB5 := hid hS
          clear hS hS5
          have HER := hid (RErr_any HX5.out)
          rw [HE.out] at HER
          go_wp2_with (go_at_call 14; refine HER.out.mono ?_; rintro e w8 ⟨rfl, hw8⟩; subst hw8)
          go_ret
          exact ⟨ret_bool HBF.out.symm, HB5.out⟩
    have f4 : (xkd == 4) = false := by simp [e4]
    obtain ⟨R2, hR2⟩ : ∃ y, bkR r ⟨xkd, xnn, xv, xon, xa, xn, xc, xl⟩ = y := ⟨_, rfl⟩
    rw [hR2] at HRL2
    have e9 : bkR r ⟨xkd, xnn, xv, xon, xa, xn, xc, xl⟩ = ansR r (fixP r.l r.k xn) := by simp [bkR, e1, e2, e3, e4]
    have g9 : bkG r ⟨xkd, xnn, xv, xon, xa, xn, xc, xl⟩ = decide (ansV r [] (fixP r.l r.k xn) = xl) := by simp [bkG, e1, e2, e3, e4]
    have HC : Hid (∀ W, RX W 68 (fun b => b = p) p r → Calls Try.prog 38 #[.pointer (some ⟨p, 0, none⟩), .int .i64 xn] W fun e w' => (∃ a2 c2, e = .returned (.slice a2 (ansV r [] (fixP r.l r.k xn)).length c2) ∧ By w' (New W) a2 (ansV r [] (fixP r.l r.k xn)) ∧ (ansV r [] (fixP r.l r.k xn)).length ≤ c2) ∧ RX w' 68 (fun b => b = p) p R2 ∧ Mods (fun b => b = p) W w') := hid (fun W hW => by have := RFixed_any hW xn (by unfold II16; omega); rwa [← e9, hR2] at this)
    have hVI : ∀ z ∈ ansV r [] (fixP r.l r.k xn), IsB z := ansV_isB5 _ _ _ HX.out.isB'
    obtain ⟨V, hV⟩ : ∃ V, ansV r [] (fixP r.l r.k xn) = V := ⟨_, rfl⟩
    rw [hV] at HC g9 hVI
    rw [← str_eq hVI HXI.out] at g9
    obtain ⟨vm, hvm⟩ : ∃ m, V.length = m := ⟨_, rfl⟩
    rw [hvm] at HC
    have HVM := hid hvm
    clear hV e9 hVI hvm
    cases hG : bkG r ⟨xkd, xnn, xv, xon, xa, xn, xc, xl⟩ with
    | false =>
      have hbb : BB = false := HSN.out (by rw [hok2, hG]; rfl)
      have HBF := hid hbb
      have hse := g9.symm.trans hG
      clear g9
      clear hbb hG hok2 HSY HSN
      go_upto_region 7 with fail
      try simp only [Act.put]
      obtain ⟨v0, hv0⟩ : ∃ W, W = wr.drew := ⟨_, rfl⟩
      have HB0 := hid (show Below w.heap.size w v0 by rw [hv0]; exact HBL.out.drew)
      have HX0' := hid (show RX v0 68 (fun b => b = p) p r by rw [hv0]; exact HX.out.later (Below.refl _ _).drew)
      refine wp_region_held_drew (S := fun W => Below w.heap.size w W) (by kernel_rfl) (by exact HBL.out.drew) (fun hS => ?_)
      rw [← hv0] at hS ⊢
      clear hv0 t0
      refine nany_take 0 21 (.pointer (some ⟨p, 0, none⟩)) rfl rfl (by kernel_rfl) (by kernel_rfl) (by kernel_rfl) (fun _ _ _ h => h) (Or.inl ⟨by rfl, ?_⟩) hS ?_
      · rintro w' hS'
        go_simp
      simp only [List.setIfInBounds_toArray, List.set_cons_zero, List.set_cons_succ]
      refine nany_take 1 22 (.slice (some ⟨b5, off, none⟩) m cap) rfl rfl (by kernel_rfl) (by kernel_rfl) (by kernel_rfl) (fun _ _ _ h => h) (Or.inl ⟨by rfl, ?_⟩) hS ?_
      · rintro w' hS'
        go_simp
      simp only [List.setIfInBounds_toArray, List.set_cons_zero, List.set_cons_succ]
      refine nany_take 2 23 (.int .i64 k) rfl rfl (by kernel_rfl) (by kernel_rfl) (by kernel_rfl) (fun _ _ _ h => h) (Or.inl ⟨by rfl, ?_⟩) hS ?_
      · rintro w' hS'
        go_simp
      simp only [List.setIfInBounds_toArray, List.set_cons_zero, List.set_cons_succ]
      refine nany_take 3 24 (.pointer (some ⟨b5, off + k * 5, none⟩)) rfl rfl (by kernel_rfl) (by kernel_rfl) (by kernel_rfl) (fun _ _ _ h => h) (Or.inl ⟨by rfl, ?_⟩) hS ?_
      · rintro w' hS'
        go_simp
      simp only [List.setIfInBounds_toArray, List.set_cons_zero, List.set_cons_succ]
      refine nany_take 4 25 (.pointer (some ⟨b5, off + k * 5 + 4, none⟩)) rfl rfl (by kernel_rfl) (by kernel_rfl) (by kernel_rfl) (fun _ _ _ h => h) (Or.inl ⟨by rfl, ?_⟩) hS ?_
      · rintro w' hS'
        go_simp
      simp only [List.setIfInBounds_toArray, List.set_cons_zero, List.set_cons_succ]
      refine nany_take 5 26 (.slice xa xn xc) rfl rfl (by kernel_rfl) (by kernel_rfl) (by kernel_rfl) (fun _ _ _ h => h) (Or.inl ⟨by rfl, ?_⟩) hS ?_
      · rintro w' hS'
        have hc9 := cell_later hS' q4
        go_simp
      simp only [List.setIfInBounds_toArray, List.set_cons_zero, List.set_cons_succ]
      refine nany_take 6 27 (.int .i64 xn) rfl rfl (by kernel_rfl) (by kernel_rfl) (by kernel_rfl) (fun _ _ _ h => h) (Or.inl ⟨by rfl, ?_⟩) hS ?_
      · rintro w' hS'
        go_simp
      simp only [List.setIfInBounds_toArray, List.set_cons_zero, List.set_cons_succ]
      refine nany_take 9 30 (.slice (some ⟨b5, off, none⟩) m cap) rfl rfl (by kernel_rfl) (by kernel_rfl) (by kernel_rfl) (fun _ _ _ h => h) (Or.inl ⟨by rfl, ?_⟩) hS ?_
      · rintro w' hS'
        go_simp
      simp only [List.setIfInBounds_toArray, List.set_cons_zero, List.set_cons_succ]
      refine nany_take 10 31 (.int .i64 k) rfl rfl (by kernel_rfl) (by kernel_rfl) (by kernel_rfl) (fun _ _ _ h => h) (Or.inl ⟨by rfl, ?_⟩) hS ?_
      · rintro w' hS'
        go_simp
      simp only [List.setIfInBounds_toArray, List.set_cons_zero, List.set_cons_succ]
      refine nany_take 11 32 (.pointer (some ⟨b5, off + k * 5, none⟩)) rfl rfl (by kernel_rfl) (by kernel_rfl) (by kernel_rfl) (fun _ _ _ h => h) (Or.inl ⟨by rfl, ?_⟩) hS ?_
      · rintro w' hS'
        go_simp
      simp only [List.setIfInBounds_toArray, List.set_cons_zero, List.set_cons_succ]
      refine nany_take 12 33 (.pointer (some ⟨b5, off + k * 5 + 4, none⟩)) rfl rfl (by kernel_rfl) (by kernel_rfl) (by kernel_rfl) (fun _ _ _ h => h) (Or.inl ⟨by rfl, ?_⟩) hS ?_
      · rintro w' hS'
        go_simp
      simp only [List.setIfInBounds_toArray, List.set_cons_zero, List.set_cons_succ]
      refine nany_take 13 34 (.slice xa xn xc) rfl rfl (by kernel_rfl) (by kernel_rfl) (by kernel_rfl) (fun _ _ _ h => h) (Or.inl ⟨by rfl, ?_⟩) hS ?_
      · rintro w' hS'
        have hc9 := cell_later hS' q4
        go_simp
      simp only [List.setIfInBounds_toArray, List.set_cons_zero, List.set_cons_succ]
      refine nany_take 14 35 (.string (strOfNums xl)) rfl rfl (by kernel_rfl) (by kernel_rfl) (by kernel_rfl) (fun _ _ _ h => h) (Or.inl ⟨by rfl, ?_⟩) hS ?_
      · rintro w' hS'
        have hc9 := conv0 (HXB.out.later hS') (cap := xc) HXN.out
        go_simp
      simp only [List.setIfInBounds_toArray, List.set_cons_zero, List.set_cons_succ]
      refine nany_one 7 (by kernel_rfl) ?_
      refine nop_callE 28 (f := 38) (args := #[.pointer (some ⟨p, 0, none⟩), .int .i64 xn]) (R := fun v w' => (∃ a2 c2, v = .slice a2 vm c2 ∧ Bytes w' a2 V) ∧ RX w' 68 (fun b => b = p) p R2 ∧ Mods (fun b => b = p) v0 w') rfl (by rfl) rfl (by go_simp) ((HC.out v0 HX0'.out).mono (fun e w' h => by obtain ⟨⟨a2, c2, g1, g2, _⟩, g4, g5⟩ := h; exact ⟨_, g1, ⟨a2, c2, rfl, g2.bytes⟩, g4, g5⟩)) ?_
      rintro v v5 ⟨⟨a2, c2, rfl, hy5⟩, hx5, hm5⟩
      have hS5 := hm5.to_below hS hS.size (fun b hb => by have h9 : b = p := hb; rw [h9]; exact HP.out)
      clear hS
      have hS := hS5
      refine ⟨hS, ?_⟩
      simp only [List.setIfInBounds_toArray, List.set_cons_zero, List.set_cons_succ]
      have HX5 := hid hx5
      have hcv := conv0 hy5 (cap := c2) HVM.out
      clear hx5 hm5 hy5
      refine nany_one 8 (by kernel_rfl) ?_
      refine nop_value' 29 (v := .string (strOfNums V)) (w' := v5) rfl (by rfl) rfl (by go_simp) ?_
      refine ⟨hS, ?_⟩
      simp only [List.setIfInBounds_toArray, List.set_cons_zero, List.set_cons_succ]
      clear hcv
      refine nany_take 15 36 (.bool false) rfl rfl (by kernel_rfl) (by kernel_rfl) (by kernel_rfl) (fun _ _ _ h => h) (Or.inl ⟨by rfl, ?_⟩) hS ?_
      · rintro w' hS'
        go_simp
      simp only [List.setIfInBounds_toArray, List.set_cons_zero, List.set_cons_succ]
      refine nany_take 16 7 (.bool false) rfl rfl (by kernel_rfl) (by kernel_rfl) (by kernel_rfl) (fun _ _ _ h => h) (Or.inl ⟨by rfl, ?_⟩) hS ?_
      · rintro w' hS'
        go_simp
      simp only [List.setIfInBounds_toArray, List.set_cons_zero, List.set_cons_succ]
      refine wpAnyH_done (by kernel_rfl) ?_ _
      have HB5 := hid hS
      clear hS hS5
      go_wp2
      go_ret
      exact ⟨ret_bool HBF.out.symm, HB5.out⟩
    | true =>
      by_cases he : R2.e = 0
      · have hrr : runB ⟨l, 0, 0⟩ (L.take (k + 1)) = some R2 := by rw [HSY.out (by rw [hok2, hG, hR2, he]; rfl), hR2]
        have HRR := hid hrr
        have HE := hid he
        have hse := g9.symm.trans hG
        clear g9
        clear hrr he hG hok2 HSY HSN hR2
        go_upto_region 7 with fail
        try simp only [Act.put]
        obtain ⟨v0, hv0⟩ : ∃ W, W = wr.drew := ⟨_, rfl⟩
        have HB0 := hid (show Below w.heap.size w v0 by rw [hv0]; exact HBL.out.drew)
        have HX0' := hid (show RX v0 68 (fun b => b = p) p r by rw [hv0]; exact HX.out.later (Below.refl _ _).drew)
        refine wp_region_held_drew (S := fun W => Below w.heap.size w W) (by kernel_rfl) (by exact HBL.out.drew) (fun hS => ?_)
        rw [← hv0] at hS ⊢
        clear hv0 t0
        refine nany_take 0 21 (.pointer (some ⟨p, 0, none⟩)) rfl rfl (by kernel_rfl) (by kernel_rfl) (by kernel_rfl) (fun _ _ _ h => h) (Or.inl ⟨by rfl, ?_⟩) hS ?_
        · rintro w' hS'
          go_simp
        simp only [List.setIfInBounds_toArray, List.set_cons_zero, List.set_cons_succ]
        refine nany_take 1 22 (.slice (some ⟨b5, off, none⟩) m cap) rfl rfl (by kernel_rfl) (by kernel_rfl) (by kernel_rfl) (fun _ _ _ h => h) (Or.inl ⟨by rfl, ?_⟩) hS ?_
        · rintro w' hS'
          go_simp
        simp only [List.setIfInBounds_toArray, List.set_cons_zero, List.set_cons_succ]
        refine nany_take 2 23 (.int .i64 k) rfl rfl (by kernel_rfl) (by kernel_rfl) (by kernel_rfl) (fun _ _ _ h => h) (Or.inl ⟨by rfl, ?_⟩) hS ?_
        · rintro w' hS'
          go_simp
        simp only [List.setIfInBounds_toArray, List.set_cons_zero, List.set_cons_succ]
        refine nany_take 3 24 (.pointer (some ⟨b5, off + k * 5, none⟩)) rfl rfl (by kernel_rfl) (by kernel_rfl) (by kernel_rfl) (fun _ _ _ h => h) (Or.inl ⟨by rfl, ?_⟩) hS ?_
        · rintro w' hS'
          go_simp
        simp only [List.setIfInBounds_toArray, List.set_cons_zero, List.set_cons_succ]
        refine nany_take 4 25 (.pointer (some ⟨b5, off + k * 5 + 4, none⟩)) rfl rfl (by kernel_rfl) (by kernel_rfl) (by kernel_rfl) (fun _ _ _ h => h) (Or.inl ⟨by rfl, ?_⟩) hS ?_
        · rintro w' hS'
          go_simp
        simp only [List.setIfInBounds_toArray, List.set_cons_zero, List.set_cons_succ]
        refine nany_take 5 26 (.slice xa xn xc) rfl rfl (by kernel_rfl) (by kernel_rfl) (by kernel_rfl) (fun _ _ _ h => h) (Or.inl ⟨by rfl, ?_⟩) hS ?_
        · rintro w' hS'
          have hc9 := cell_later hS' q4
          go_simp
        simp only [List.setIfInBounds_toArray, List.set_cons_zero, List.set_cons_succ]
        refine nany_take 6 27 (.int .i64 xn) rfl rfl (by kernel_rfl) (by kernel_rfl) (by kernel_rfl) (fun _ _ _ h => h) (Or.inl ⟨by rfl, ?_⟩) hS ?_
        · rintro w' hS'
          go_simp
        simp only [List.setIfInBounds_toArray, List.set_cons_zero, List.set_cons_succ]
        refine nany_take 9 30 (.slice (some ⟨b5, off, none⟩) m cap) rfl rfl (by kernel_rfl) (by kernel_rfl) (by kernel_rfl) (fun _ _ _ h => h) (Or.inl ⟨by rfl, ?_⟩) hS ?_
        · rintro w' hS'
          go_simp
        simp only [List.setIfInBounds_toArray, List.set_cons_zero, List.set_cons_succ]
        refine nany_take 10 31 (.int .i64 k) rfl rfl (by kernel_rfl) (by kernel_rfl) (by kernel_rfl) (fun _ _ _ h => h) (Or.inl ⟨by rfl, ?_⟩) hS ?_
        · rintro w' hS'
          go_simp
        simp only [List.setIfInBounds_toArray, List.set_cons_zero, List.set_cons_succ]
        refine nany_take 11 32 (.pointer (some ⟨b5, off + k * 5, none⟩)) rfl rfl (by kernel_rfl) (by kernel_rfl) (by kernel_rfl) (fun _ _ _ h => h) (Or.inl ⟨by rfl, ?_⟩) hS ?_
        · rintro w' hS'
          go_simp
        simp only [List.setIfInBounds_toArray, List.set_cons_zero, List.set_cons_succ]
        refine nany_take 12 33 (.pointer (some ⟨b5, off + k * 5 + 4, none⟩)) rfl rfl (by kernel_rfl) (by kernel_rfl) (by kernel_rfl) (fun _ _ _ h => h) (Or.inl ⟨by rfl, ?_⟩) hS ?_
        · rintro w' hS'
          go_simp
        simp only [List.setIfInBounds_toArray, List.set_cons_zero, List.set_cons_succ]
        refine nany_take 13 34 (.slice xa xn xc) rfl rfl (by kernel_rfl) (by kernel_rfl) (by kernel_rfl) (fun _ _ _ h => h) (Or.inl ⟨by rfl, ?_⟩) hS ?_
        · rintro w' hS'
          have hc9 := cell_later hS' q4
          go_simp
        simp only [List.setIfInBounds_toArray, List.set_cons_zero, List.set_cons_succ]
        refine nany_take 14 35 (.string (strOfNums xl)) rfl rfl (by kernel_rfl) (by kernel_rfl) (by kernel_rfl) (fun _ _ _ h => h) (Or.inl ⟨by rfl, ?_⟩) hS ?_
        · rintro w' hS'
          have hc9 := conv0 (HXB.out.later hS') (cap := xc) HXN.out
          go_simp
        simp only [List.setIfInBounds_toArray, List.set_cons_zero, List.set_cons_succ]
        refine nany_one 7 (by kernel_rfl) ?_
        refine nop_callE 28 (f := 38) (args := #[.pointer (some ⟨p, 0, none⟩), .int .i64 xn]) (R := fun v w' => (∃ a2 c2, v = .slice a2 vm c2 ∧ Bytes w' a2 V) ∧ RX w' 68 (fun b => b = p) p R2 ∧ Mods (fun b => b = p) v0 w') rfl (by rfl) rfl (by go_simp) ((HC.out v0 HX0'.out).mono (fun e w' h => by obtain ⟨⟨a2, c2, g1, g2, _⟩, g4, g5⟩ := h; exact ⟨_, g1, ⟨a2, c2, rfl, g2.bytes⟩, g4, g5⟩)) ?_
        rintro v v5 ⟨⟨a2, c2, rfl, hy5⟩, hx5, hm5⟩
        have hS5 := hm5.to_below hS hS.size (fun b hb => by have h9 : b = p := hb; rw [h9]; exact HP.out)
        clear hS
        have hS := hS5
        refine ⟨hS, ?_⟩
        simp only [List.setIfInBounds_toArray, List.set_cons_zero, List.set_cons_succ]
        have HX5 := hid hx5
        have hcv := conv0 hy5 (cap := c2) HVM.out
        clear hx5 hm5 hy5
        refine nany_one 8 (by kernel_rfl) ?_
        refine nop_value' 29 (v := .string (strOfNums V)) (w' := v5) rfl (by rfl) rfl (by go_simp) ?_
        refine ⟨hS, ?_⟩
        simp only [List.setIfInBounds_toArray, List.set_cons_zero, List.set_cons_succ]
        clear hcv
        refine nany_take 15 36 (.bool true) rfl rfl (by kernel_rfl) (by kernel_rfl) (by kernel_rfl) (fun _ _ _ h => h) (Or.inl ⟨by rfl, ?_⟩) hS ?_
        · rintro w' hS'
          go_simp
        simp only [List.setIfInBounds_toArray, List.set_cons_zero, List.set_cons_succ]
        refine nany_take 16 7 (.bool true) rfl rfl (by kernel_rfl) (by kernel_rfl) (by kernel_rfl) (fun _ _ _ h => h) (Or.inl ⟨by rfl, ?_⟩) hS ?_
        · rintro w' hS'
          go_simp
        simp only [List.setIfInBounds_toArray, List.set_cons_zero, List.set_cons_succ]
        refine wpAnyH_done (by kernel_rfl) ?_ _
        have HB5 := hid hS
        clear hS hS5
        have HER := hid (RErr_any HX5.out)
        rw [HE.out] at HER
        have HRK := hid HX5.out.hk
        go_wp2_with (go_at_call 14; refine HER.out.mono ?_; rintro e w8 ⟨rfl, hw8⟩; subst hw8)
        go_roundw
        case rel => exact ⟨k + 1, by omega, by go_num, R2, HRR.out, HRL2.out, by have := HRK.out; rw [HRL2.out] at this; exact this, HX5.out, HB5.out⟩
        case measure => simp [intOf]; omega
      · have hbb : BB = false := HSN.out (by rw [hok2, hR2, decide_eq_false he, Bool.and_false])
        have HBF := hid hbb
        obtain ⟨E, hE⟩ : ∃ E, R2.e = E := ⟨_, rfl⟩
        rw [hE] at he
        have hee : (E != 0) = true := by simpa using he
        have HE := hid hE
        have hse := g9.symm.trans hG
        clear g9
        clear hbb hG hok2 HSY HSN hR2 he hE
        go_upto_region 7 with fail
        try simp only [Act.put]
        obtain ⟨v0, hv0⟩ : ∃ W, W = wr.drew := ⟨_, rfl⟩
        have HB0 := hid (show Below w.heap.size w v0 by rw [hv0]; exact HBL.out.drew)
        have HX0' := hid (show RX v0 68 (fun b => b = p) p r by rw [hv0]; exact HX.out.later (Below.refl _ _).drew)
        refine wp_region_held_drew (S := fun W => Below w.heap.size w W) (by kernel_rfl) (by exact HBL.out.drew) (fun hS => ?_)
        rw [← hv0] at hS ⊢
        clear hv0 t0
        refine nany_take 0 21 (.pointer (some ⟨p, 0, none⟩)) rfl rfl (by kernel_rfl) (by kernel_rfl) (by kernel_rfl) (fun _ _ _ h => h) (Or.inl ⟨by rfl, ?_⟩) hS ?_
        · rintro w' hS'
          go_simp
        simp only [List.setIfInBounds_toArray, List.set_cons_zero, List.set_cons_succ]
        refine nany_take 1 22 (.slice (some ⟨b5, off, none⟩) m cap) rfl rfl (by kernel_rfl) (by kernel_rfl) (by kernel_rfl) (fun _ _ _ h => h) (Or.inl ⟨by rfl, ?_⟩) hS ?_
        · rintro w' hS'
          go_simp
        simp only [List.setIfInBounds_toArray, List.set_cons_zero, List.set_cons_succ]
        refine nany_take 2 23 (.int .i64 k) rfl rfl (by kernel_rfl) (by kernel_rfl) (by kernel_rfl) (fun _ _ _ h => h) (Or.inl ⟨by rfl, ?_⟩) hS ?_
        · rintro w' hS'
          go_simp
        simp only [List.setIfInBounds_toArray, List.set_cons_zero, List.set_cons_succ]
        refine nany_take 3 24 (.pointer (some ⟨b5, off + k * 5, none⟩)) rfl rfl (by kernel_rfl) (by kernel_rfl) (by kernel_rfl) (fun _ _ _ h => h) (Or.inl ⟨by rfl, ?_⟩) hS ?_
        · rintro w' hS'
          go_simp
        simp only [List.setIfInBounds_toArray, List.set_cons_zero, List.set_cons_succ]
        refine nany_take 4 25 (.pointer (some ⟨b5, off + k * 5 + 4, none⟩)) rfl rfl (by kernel_rfl) (by kernel_rfl) (by kernel_rfl) (fun _ _ _ h => h) (Or.inl ⟨by rfl, ?_⟩) hS ?_
        · rintro w' hS'
          go_simp
        simp only [List.setIfInBounds_toArray, List.set_cons_zero, List.set_cons_succ]
        refine nany_take 5 26 (.slice xa xn xc) rfl rfl (by kernel_rfl) (by kernel_rfl) (by kernel_rfl) (fun _ _ _ h => h) (Or.inl ⟨by rfl, ?_⟩) hS ?_
        · rintro w' hS'
          have hc9 := cell_later hS' q4
          go_simp
        simp only [List.setIfInBounds_toArray, List.set_cons_zero, List.set_cons_succ]
        refine nany_take 6 27 (.int .i64 xn) rfl rfl (by kernel_rfl) (by kernel_rfl) (by kernel_rfl) (fun _ _ _ h => h) (Or.inl ⟨by rfl, ?_⟩) hS ?_
        · rintro w' hS'
          go_simp
        simp only [List.setIfInBounds_toArray, List.set_cons_zero, List.set_cons_succ]
        refine nany_take 9 30 (.slice (some ⟨b5, off, none⟩) m cap) rfl rfl (by kernel_rfl) (by kernel_rfl) (by kernel_rfl) (fun _ _ _ h => h) (Or.inl ⟨by rfl, ?_⟩) hS ?_
        · rintro w' hS'
          go_simp
        simp only [List.setIfInBounds_toArray, List.set_cons_zero, List.set_cons_succ]
        refine nany_take 10 31 (.int .i64 k) rfl rfl (by kernel_rfl) (by kernel_rfl) (by kernel_rfl) (fun _ _ _ h => h) (Or.inl ⟨by rfl, ?_⟩) hS ?_
        · rintro w' hS'
          go_simp
        simp only [List.setIfInBounds_toArray, List.set_cons_zero, List.set_cons_succ]
        refine nany_take 11 32 (.pointer (some ⟨b5, off + k * 5, none⟩)) rfl rfl (by kernel_rfl) (by kernel_rfl) (by kernel_rfl) (fun _ _ _ h => h) (Or.inl ⟨by rfl, ?_⟩) hS ?_
        · rintro w' hS'
          go_simp
        simp only [List.setIfInBounds_toArray, List.set_cons_zero, List.set_cons_succ]
        refine nany_take 12 33 (.pointer (some ⟨b5, off + k * 5 + 4, none⟩)) rfl rfl (by kernel_rfl) (by kernel_rfl) (by kernel_rfl) (fun _ _ _ h => h) (Or.inl ⟨by rfl, ?_⟩) hS ?_
        · rintro w' hS'
          go_simp
        simp only [List.setIfInBounds_toArray, List.set_cons_zero, List.set_cons_succ]
        refine nany_take 13 34 (.slice xa xn xc) rfl rfl (by kernel_rfl) (by kernel_rfl) (by kernel_rfl) (fun _ _ _ h => h) (Or.inl ⟨by rfl, ?_⟩) hS ?_
        · rintro w' hS'
          have hc9 := cell_later hS' q4
          go_simp
        simp only [List.setIfInBounds_toArray, List.set_cons_zero, List.set_cons_succ]
        refine nany_take 14 35 (.string (strOfNums xl)) rfl rfl (by kernel_rfl) (by kernel_rfl) (by kernel_rfl) (fun _ _ _ h => h) (Or.inl ⟨by rfl, ?_⟩) hS ?_
        · rintro w' hS'
          have hc9 := conv0 (HXB.out.later hS') (cap := xc) HXN.out
          go_simp
        simp only [List.setIfInBounds_toArray, List.set_cons_zero, List.set_cons_succ]
        refine nany_one 7 (by kernel_rfl) ?_
        refine nop_callE 28 (f := 38) (args := #[.pointer (some ⟨p, 0, none⟩), .int .i64 xn]) (R := fun v w' => (∃ a2 c2, v = .slice a2 vm c2 ∧ Bytes w' a2 V) ∧ RX w' 68 (fun b => b = p) p R2 ∧ Mods (fun b => b = p) v0 w') rfl (by rfl) rfl (by go_simp) ((HC.out v0 HX0'.out).mono (fun e w' h => by obtain ⟨⟨a2, c2, g1, g2, _⟩, g4, g5⟩ := h; exact ⟨_, g1, ⟨a2, c2, rfl, g2.bytes⟩, g4, g5⟩)) ?_
        rintro v v5 ⟨⟨a2, c2, rfl, hy5⟩, hx5, hm5⟩
        have hS5 := hm5.to_below hS hS.size (fun b hb => by have h9 : b = p := hb; rw [h9]; exact HP.out)
        clear hS
        have hS := hS5
        refine ⟨hS, ?_⟩
        simp only [List.setIfInBounds_toArray, List.set_cons_zero, List.set_cons_succ]
        have HX5 := hid hx5
        have hcv := conv0 hy5 (cap := c2) HVM.out
        clear hx5 hm5 hy5
        refine nany_one 8 (by kernel_rfl) ?_
        refine nop_value' 29 (v := .string (strOfNums V)) (w' := v5) rfl (by rfl) rfl (by go_simp) ?_
        refine ⟨hS, ?_⟩
        simp only [List.setIfInBounds_toArray, List.set_cons_zero, List.set_cons_succ]
        clear hcv
        refine nany_take 15 36 (.bool true) rfl rfl (by kernel_rfl) (by kernel_rfl) (by kernel_rfl) (fun _ _ _ h => h) (Or.inl ⟨by rfl, ?_⟩) hS ?_
        · rintro w' hS'
          go_simp
        simp only [List.setIfInBounds_toArray, List.set_cons_zero, List.set_cons_succ]
        refine nany_take 16 7 (.bool true) rfl rfl (by kernel_rfl) (by kernel_rfl) (by kernel_rfl) (fun _ _ _ h => h) (Or.inl ⟨by rfl, ?_⟩) hS ?_
        · rintro w' hS'
          go_simp
        simp only [List.setIfInBounds_toArray, List.set_cons_zero, List.set_cons_succ]
        refine wpAnyH_done (by kernel_rfl) ?_ _
        have HB5 := hid hS
        clear hS hS5
        have HER := hid (RErr_any HX5.out)
        rw [HE.out] at HER
        go_wp2_with (go_at_call 14; refine HER.out.mono ?_; rintro e w8 ⟨rfl, hw8⟩; subst hw8)
        go_ret
        exact ⟨ret_bool HBF.out.symm, HB5.out⟩
end Go.Proofs.Yteeakkpbpffohaa
