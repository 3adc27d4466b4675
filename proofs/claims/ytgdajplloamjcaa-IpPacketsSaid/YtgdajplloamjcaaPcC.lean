/- The document's Cut. -/
import Derived.Test.YtgdajplloamjcaaPcB
namespace Go.Proofs.Ytgdajplloamjcaa
open Go.RowKit Go.Maps
set_option linter.unusedVariables false
theorem ex_append {P : Program} {o : Oper} {ev : Operand → Value} {w w' : World} (s x : Operand) (t : TypeId) (ho : o.op = .call { callee := .builtin .append, args := #[s, x], argTypes := #[t, t] }) (ty : TypeId) (hty : o.type = ty) {v y v' : Value} (hs : ev s = v) (hx : ev x = y)
    (hrun : (Builtin.append_ #[t, t] ty #[v, y]).run P w = .ok v' w') : (execOp ev o).run P w = .ok (.value v') w' := by
  subst hty
  unfold execOp
  simp only [ho, resolve, invoke, builtin, Sem.run_bind, Sem.run_pure, Result.andThen_ok, List.map_toArray, List.map_cons, List.map_nil, hs, hx, hrun]
set_option maxRecDepth 100000 in
set_option maxHeartbeats 4000000 in
theorem rCut_any (w : World) (s d pr i o : Int) (m q : Bool) (t : Int) (a : Option Addr) (n c : Nat) (l : List Int) (mtu : Int) (hmt : II mtu) (hn : l.length = n) (hl : n ≤ 16384) (hc : n ≤ c) (hb : Bytes w a l) :
    Calls Try.prog 16 #[.agg (pkC s d pr i o m q t (.slice a n c)), .int .i64 mtu] w fun e w' => ∃ v, e = .returned (.tuple #[v, .int .i64 (cutE ⟨s, d, pr, i, o, m, q, t, l⟩ mtu)]) ∧ ∃ L, PL w' 30 w.heap.size v L ∧ L.map Px.p = cutP ⟨s, d, pr, i, o, m, q, t, l⟩ mtu ∧ Below w.heap.size w w' := by
  unfold II at hmt
  unfold cutE cutP
  dsimp only
  obtain ⟨W1, hW1, h1, b1⟩ := boxP w (pkC s d pr i o m q t (.slice a n c)) 30
  obtain ⟨g, hg⟩ : ∃ g, w.heap.size = g := ⟨_, rfl⟩
  rw [hg] at h1
  have c8 := cell_of h1 (i := 8) (v := .slice a n c) rfl
  have c4 := cell_of h1 (i := 4) (v := .int .i64 o) rfl
  have c5 := cell_of h1 (i := 5) (v := .bool m) rfl
  have H1 := hid h1
  have HB1 := hid b1
  have HG := hid hg
  have HN := hid hn
  have HBY := hid hb
  have HW := hW1.symm
  clear h1 b1 hW1 hn hb
  by_cases hm1 : mtu < 28
  · rw [if_pos hm1, if_pos hm1]
    clear hg
    go_enter Try.func16, Try.ntmps16
    go_wp2
    go_ret2
    exact ⟨_, rfl, [], PL.nil _ _ _, rfl, HB1.out⟩
  · rw [if_neg hm1, if_neg hm1]
    cases hwh : (decide (o = 0) && !m)
    · rw [if_pos rfl, if_pos rfl]
      cases m with
      | true =>
        go_enter Try.func16, Try.ntmps16
        go_wp2
        go_ret2
        have h2 := HB1.out
        first | exact ⟨_, rfl, [], PL.nil _ _ _, rfl, h2⟩ | (rw [HG.out] at h2; exact ⟨_, rfl, [], PL.nil _ _ _, rfl, h2⟩)
      | false =>
        have ho : ¬ o = 0 := by simpa using hwh
        have hd : (o != 0) = true := by simp [ho]
        go_enter Try.func16, Try.ntmps16
        go_wp2
        go_ret2
        have h2 := HB1.out
        first | exact ⟨_, rfl, [], PL.nil _ _ _, rfl, h2⟩ | (rw [HG.out] at h2; exact ⟨_, rfl, [], PL.nil _ _ _, rfl, h2⟩)
    · rw [if_neg (by simp), if_neg (by simp)]
      obtain ⟨rfl, rfl⟩ : o = 0 ∧ m = false := by simpa using hwh
      have hw1 : IntKind.i64.wrap (mtu - 20) = mtu - 20 := IntWalk.i64_in _ (by omega)
      by_cases hfit : 20 + (n : Int) ≤ mtu
      · rw [HN.out, if_pos hfit]
        have hfit2 : (n : Int) ≤ mtu - 20 := by omega
        go_enter Try.func16, Try.ntmps16
        go_wp2_with (first
          | (refine wpList_load_row rfl 30 _ rfl g rfl 30 _ (0, 0) _ H1.out Try.underlying30 rfl sizeDk ?_)
          | (go_at_call 33; refine (rtwin_any _ s d pr i 0 false q t _ 0 false a n c l rfl HN.out (by omega) (HBY.out.later HB1.out)).mono ?_; rintro e w3 ⟨a3, c3, rfl, hy3, hc3, hb3⟩; obtain ⟨W4, hW4⟩ : ∃ W, W = w3.alloc (.cells #[.int .u32 s, .int .u32 d, .int .i64 pr, .int .i64 i, .int .i64 0, .bool false, .bool true, .int .i64 t, .slice a3 n c3] 30) := ⟨_, rfl⟩; have HY3 := hid hy3; have HC3 := hid hc3; have HB3 := hid (HB1.out.trans (hb3.mono HB1.out.size)); clear hy3 hc3 hb3; have HW4 := hid hW4; have hW4' := hW4.symm; clear hW4))
        go_ret2
        have e1 : W4 = w3.alloc (.cells (pxV ⟨⟨s, d, pr, i, 0, false, true, t, l⟩, a3, c3⟩).toArray 30) := by rw [HW4.out, ← HN.out]; rfl
        have hp := PL.one w3 30 w.heap.size W4 ⟨⟨s, d, pr, i, 0, false, true, t, l⟩, a3, c3⟩ (HY3.out.weak (fun b hb _ => Nat.le_trans HB1.out.size hb)) HB3.out.size (by show l.length ≤ c3; rw [HN.out]; exact HC3.out) e1
        have b4 : Below w.heap.size w W4 := by rw [e1]; exact HB3.out.alloc HB3.out.size _
        exact ⟨_, rfl, _, hp, rfl, b4⟩
      · rw [HN.out, if_neg hfit]
        have hfit2 : ¬ ((n : Int) ≤ mtu - 20) := by omega
        obtain ⟨z, hz⟩ : ∃ z : Nat, ((mtu - 20) / 8 * 8).toNat = z := ⟨_, rfl⟩
        have hz1 : ((z : Nat) : Int) = (mtu - 20) / 8 * 8 := by rw [← hz]; omega
        rw [hz]
        have hdiv : (mtu - 20).tdiv 8 = (mtu - 20) / 8 := Int.tdiv_eq_ediv_of_nonneg (by omega)
        have hw2 : IntKind.i64.wrap ((mtu - 20) / 8 * 8) = (mtu - 20) / 8 * 8 := IntWalk.i64_in _ (by omega)
        have hw3 : IntKind.i64.wrap ((mtu - 20) / 8) = (mtu - 20) / 8 := IntWalk.i64_in _ (by omega)
        have hzp : 0 < z := by omega
        have hzn : z ≤ n := by omega
        obtain ⟨P, hP⟩ : ∃ P : Pk, P = ⟨s, d, pr, i, 0, false, q, t, l⟩ := ⟨_, rfl⟩
        rw [← hP]
        have HP := hid hP
        have HZ := hid hz1
        have hz1' := hz1.symm
        clear hz hP hz1
        go_enter Try.func16, Try.ntmps16
        go_wp2
        go_loopw [7, 8] (fun v x wr => ∃ (k : Nat) (L : List Px), x = .int .i64 ((k * z : Nat) : Int) ∧ (k = 0 ∨ (k - 1) * z < n) ∧ L.map Px.p = partsL P z k ∧ PL wr 30 (g + 1) v L ∧ wr.heap[g]? = some (.cells (pkC s d pr i 0 false q t (.slice a n c)) 30 (0, 0)) ∧ Below w.heap.size w wr) (fun _ x _ => n - (RowKit.intOf x).toNat)
        case atStart => exact ⟨0, [], by simp, .inl rfl, rfl, PL.nil _ _ _, H1.out, HB1.out⟩
        case round =>
          obtain ⟨k, L, rfl, hk, hL, hpl, hbx, hbl⟩ := hrel
          have hlen : L.length = k := by rw [← List.length_map (f := Px.p), hL, partsL_len]
          have hkn : k * z ≤ n + z := by
            rcases hk with rfl | hk
            · simp
            · by_cases h0 : k = 0
              · subst h0; simp
              · have := step_mul (k - 1) z; rw [show k - 1 + 1 = k by omega] at this; omega
          obtain ⟨av, cv, rfl⟩ := hpl.slice
          rw [hlen]
          have c8 := cell_of hbx (i := 8) (v := .slice a n c) rfl
          have hge := hbl.size
          by_cases hlt : k * z < n
          · have hkk : k ≤ n := Nat.le_trans (le_mul_self k z hzp) (Nat.le_of_lt hlt)
            obtain ⟨at_, hat⟩ : ∃ x : Int, x = ((k * z : Nat) : Int) := ⟨_, rfl⟩
            obtain ⟨ee, hee⟩ : ∃ e : Nat, e = min (k * z + z) n := ⟨_, rfl⟩
            obtain ⟨en, hen⟩ : ∃ x : Int, x = (ee : Int) := ⟨_, rfl⟩
            obtain ⟨mo, hmo⟩ : ∃ b : Bool, b = decide ((k + 1) * z < n) := ⟨_, rfl⟩
            have hatn : at_ < (n : Int) := by omega
            have hwa : IntKind.i64.wrap (at_ + z) = at_ + z := IntWalk.i64_in _ (by omega)
            have hmin : min (n : Int) (at_ + z) = en := by omega
            have hbody : (l.drop (k * z)).take (ee - k * z) = (l.drop (k * z)).take z := by
              have := HN.out
              by_cases hm : k * z + z ≤ n
              · rw [show ee - k * z = z by omega]
              · rw [List.take_of_length_le (by simp; omega), List.take_of_length_le (by simp; omega)]
            have hbl2 : ((l.drop (k * z)).take z).length = ee - k * z := by rw [← hbody]; have := HN.out; simp; omega
            have hlss : (decide (en < (n : Int))) = mo := by rw [hmo, step_mul]; congr 1; apply propext; omega
            have hwq : (decide (at_ = 0) && !mo) = false := by
              rw [hmo]
              by_cases h0 : k = 0
              · subst h0
                have h2 := HZ.out
                have hzn2 : z < n := by omega
                simp [hzn2]
              · have : ¬ at_ = 0 := by have := le_mul_self k z hzp; omega
                simp [this]
            obtain ⟨a2, hcut, hcb⟩ := cut_lh a n c (k * z) ee (by omega) (by omega) hc
            have hcut' : ∀ W : World, (Instr.slice 22 (.slice a n c) (some (.int .i64 at_)) (some (.int .i64 en)) none).run Try.prog W = .ok (.slice a2 (ee - k * z) (c - k * z)) W := fun W => by rw [hat, hen]; exact hcut W
            have hltg := (Array.getElem?_eq_some_iff.1 hbx).1
            have HTW := hid (rtwin_any wr.drew s d pr i 0 false q t (.slice a n c) at_ mo a2 (ee - k * z) (c - k * z) ((l.drop (k * z)).take (ee - k * z)) rfl (by have := HN.out; simp; omega) (by omega) (hcb wr.drew l HN.out (HBY.out.later hbl.drew)))
            have HBX := hid hbx
            have HBL0 := hid hbl
            have HPL := hid hpl
            have HLT := hid hltg
            have HL := hid hL
            have HLEN := hid hlen
            have HEE := hid hee
            have HAT := hid hat
            have HEN := hid hen
            have HMO := hid hmo
            have HD := hid hlt
            have HKK := hid hkk
            have HBODY := hid hbody
            have HBL2 := hid hbl2
            have HWQ := hid hwq
            rw [← hat]
            clear hpl hbl hbx hL hee hen hmo hltg hcb hcut hk hkn hge hlt hkk hat hbody hbl2 hlen hwq
            go_upto_region 15 with fail
            try simp only [Act.put]
            refine wp_region_held_drew (S := fun W => W.heap[g]? = some (.cells (pkC s d pr i 0 false q t (.slice a n c)) 30 (0, 0))) (by kernel_rfl) HBX.out (fun hS => ?_)
            refine nany_take 0 53 (.slice av k cv) rfl rfl (by kernel_rfl) (by kernel_rfl) (by kernel_rfl) (fun _ _ _ h => h) (Or.inl ⟨by rfl, ?_⟩) hS ?_
            · rintro w' hS'
              go_simp
            simp only [List.setIfInBounds_toArray, List.set_cons_zero, List.set_cons_succ]
            refine nany_take 1 54 (.agg (pkC s d pr i 0 false q t (.slice a n c))) rfl rfl (by kernel_rfl) (by kernel_rfl) (by kernel_rfl) (fun _ _ _ h => h) (Or.inl ⟨by rfl, ?_⟩) hS ?_
            · rintro w' hS'
              exact ex_load 30 _ rfl g rfl 30 _ (0, 0) _ hS' Try.underlying30 sizeDk
            simp only [List.setIfInBounds_toArray, List.set_cons_zero, List.set_cons_succ]
            refine nany_take 2 55 (.int .i64 at_) rfl rfl (by kernel_rfl) (by kernel_rfl) (by kernel_rfl) (fun _ _ _ h => h) (Or.inl ⟨by rfl, ?_⟩) hS ?_
            · rintro w' hS'
              go_simp
            simp only [List.setIfInBounds_toArray, List.set_cons_zero, List.set_cons_succ]
            refine nany_take 3 56 (.pointer (some ⟨g, 8, none⟩)) rfl rfl (by kernel_rfl) (by kernel_rfl) (by kernel_rfl) (fun _ _ _ h => h) (Or.inl ⟨by rfl, ?_⟩) hS ?_
            · rintro w' hS'
              go_simp
            simp only [List.setIfInBounds_toArray, List.set_cons_zero, List.set_cons_succ]
            refine nany_take 4 57 (.slice a n c) rfl rfl (by kernel_rfl) (by kernel_rfl) (by kernel_rfl) (fun _ _ _ h => h) (Or.inl ⟨by rfl, ?_⟩) hS ?_
            · rintro w' hS'
              have hc8 := cell_of hS' (i := 8) (v := .slice a n c) rfl; go_simp
            simp only [List.setIfInBounds_toArray, List.set_cons_zero, List.set_cons_succ]
            refine nany_take 5 58 (.int .i64 at_) rfl rfl (by kernel_rfl) (by kernel_rfl) (by kernel_rfl) (fun _ _ _ h => h) (Or.inl ⟨by rfl, ?_⟩) hS ?_
            · rintro w' hS'
              go_simp
            simp only [List.setIfInBounds_toArray, List.set_cons_zero, List.set_cons_succ]
            refine nany_take 6 59 (.int .i64 en) rfl rfl (by kernel_rfl) (by kernel_rfl) (by kernel_rfl) (fun _ _ _ h => h) (Or.inl ⟨by rfl, ?_⟩) hS ?_
            · rintro w' hS'
              go_simp
            simp only [List.setIfInBounds_toArray, List.set_cons_zero, List.set_cons_succ]
            refine nany_take 7 60 (.slice a2 (ee - k * z) (c - k * z)) rfl rfl (by kernel_rfl) (by kernel_rfl) (by kernel_rfl) (fun _ _ _ h => h) (Or.inl ⟨by rfl, ?_⟩) hS ?_
            · rintro w' hS'
              go_simp
            simp only [List.setIfInBounds_toArray, List.set_cons_zero, List.set_cons_succ]
            refine nany_take 8 61 (.int .i64 en) rfl rfl (by kernel_rfl) (by kernel_rfl) (by kernel_rfl) (fun _ _ _ h => h) (Or.inl ⟨by rfl, ?_⟩) hS ?_
            · rintro w' hS'
              go_simp
            simp only [List.setIfInBounds_toArray, List.set_cons_zero, List.set_cons_succ]
            refine nany_take 9 62 (.pointer (some ⟨g, 8, none⟩)) rfl rfl (by kernel_rfl) (by kernel_rfl) (by kernel_rfl) (fun _ _ _ h => h) (Or.inl ⟨by rfl, ?_⟩) hS ?_
            · rintro w' hS'
              go_simp
            simp only [List.setIfInBounds_toArray, List.set_cons_zero, List.set_cons_succ]
            refine nany_take 10 63 (.slice a n c) rfl rfl (by kernel_rfl) (by kernel_rfl) (by kernel_rfl) (fun _ _ _ h => h) (Or.inl ⟨by rfl, ?_⟩) hS ?_
            · rintro w' hS'
              have hc8 := cell_of hS' (i := 8) (v := .slice a n c) rfl; go_simp
            simp only [List.setIfInBounds_toArray, List.set_cons_zero, List.set_cons_succ]
            refine nany_take 11 64 (.int .i64 n) rfl rfl (by kernel_rfl) (by kernel_rfl) (by kernel_rfl) (fun _ _ _ h => h) (Or.inl ⟨by rfl, ?_⟩) hS ?_
            · rintro w' hS'
              go_simp
            simp only [List.setIfInBounds_toArray, List.set_cons_zero, List.set_cons_succ]
            refine nany_take 12 65 (.bool mo) rfl rfl (by kernel_rfl) (by kernel_rfl) (by kernel_rfl) (fun _ _ _ h => h) (Or.inl ⟨by rfl, ?_⟩) hS ?_
            · rintro w' hS'
              go_simp
            simp only [List.setIfInBounds_toArray, List.set_cons_zero, List.set_cons_succ]
            refine nany_one 13 (by kernel_rfl) ?_
            refine nop_callE 66 (f := 33) (args := #[.agg (pkC s d pr i 0 false q t (.slice a n c)), .int .i64 at_, .slice a2 (ee - k * z) (c - k * z), .bool mo]) (R := fun v w' => ∃ a7 c7, v = .agg (pkC s d pr i at_ mo (decide (at_ = 0) && !mo) t (.slice a7 (ee - k * z) c7)) ∧ By w' (New wr) a7 ((l.drop (k * z)).take (ee - k * z)) ∧ ee - k * z ≤ c7 ∧ Below wr.heap.size wr w') rfl (by rfl) rfl (by go_simp) (HTW.out.mono (fun e w' h => by obtain ⟨a7, c7, h1, h2, h3, h4⟩ := h; exact ⟨_, h1, a7, c7, rfl, h2, h3, below_undrew h4⟩)) ?_
            rintro v w7 ⟨a7, c7, rfl, hy7, hc7, hb7⟩
            have hS7 := (hb7.block g HLT.out).trans HBX.out
            refine ⟨hS7, ?_⟩
            simp only [List.setIfInBounds_toArray, List.set_cons_zero, List.set_cons_succ]
            rw [HWQ.out]
            obtain ⟨W9, hW9⟩ : ∃ W, W = w7.alloc (.cells (pkC s d pr i at_ mo false t (.slice a7 (ee - k * z) c7)) 30) := ⟨_, rfl⟩
            have h9 : W9.heap[w7.heap.size]? = some (.cells (pkC s d pr i at_ mo false t (.slice a7 (ee - k * z) c7)) 30 (0, 0)) := by rw [hW9]; exact alloc_new w7 _
            have b9 : Below w7.heap.size w7 W9 := by rw [hW9]; exact below_alloc (Below.refl _ _) (Nat.le_refl _) _
            have hS9 := (b9.block g (Array.getElem?_eq_some_iff.1 hS7).1).trans hS7
            have hpx : pxV ⟨partAt P z k, a7, c7⟩ = (pkC s d pr i at_ mo false t (.slice a7 (ee - k * z) c7)).toList := by rw [HP.out, HAT.out, HMO.out, ← HBL2.out]; simp only [pxV, partAt, HN.out]
            have eb : (partAt P z k).body = (l.drop (k * z)).take z := by rw [HP.out]; rfl
            obtain ⟨a10, c10, w10, hap, hpl10, hm10⟩ := PL.push W9 44 44 30 (g + 1) Try.underlying44 infoDP (by decide) (.slice av L.length cv) L ((HPL.out.later hb7).later b9) ⟨partAt P z k, a7, c7⟩ (by have := hb7.size; have := b9.size; have := HLT.out; omega) (by show By W9 _ a7 (partAt P z k).body; rw [eb, ← HBODY.out]; exact (hy7.weak (fun b hb _ => by have := HLT.out; show g + 1 ≤ b; exact Nat.le_trans (by omega) hb)).later b9) (by show (partAt P z k).body.length ≤ c7; rw [eb, HBL2.out]; exact hc7) (by have := HLEN.out; have := HKK.out; omega) ⟨w7.heap.size, 0, none⟩ 1 (fun j u hj => by rw [hpx] at hj; rw [add_addr, Nat.zero_add]; exact cell_of h9 (by rw [← Array.getElem?_toList]; exact hj))
            rw [HLEN.out] at hap
            have hnb : ¬ (blkV (.slice av L.length cv) = some g) := fun e => by have := HPL.out.2.1 g e; omega
            have hS10 := (hm10.block g (Array.getElem?_eq_some_iff.1 hS9).1 hnb).trans hS9
            refine nany_one 14 (by kernel_rfl) ?_
            refine nop_value' 67 (v := .slice (some ⟨w7.heap.size, 0, none⟩) 1 1) (w' := W9) rfl (by rfl) rfl (by rw [hW9]; go_simp) ?_
            refine ⟨hS9, ?_⟩
            simp only [List.setIfInBounds_toArray, List.set_cons_zero, List.set_cons_succ]
            refine nany_one 15 (by kernel_rfl) ?_
            refine nop_value' 68 (v := .slice a10 (k + 1) c10) (w' := w10) rfl (by rfl) rfl (ex_append (.tmp 53) (.tmp 67) 44 rfl 44 rfl (v := .slice av k cv) (y := .slice (some ⟨w7.heap.size, 0, none⟩) 1 1) rfl rfl hap) ?_
            refine ⟨hS10, ?_⟩
            simp only [List.setIfInBounds_toArray, List.set_cons_zero, List.set_cons_succ]
            refine nany_take 16 7 (.slice a10 (k + 1) c10) rfl rfl (by kernel_rfl) (by kernel_rfl) (by kernel_rfl) (fun _ _ _ h => h) (Or.inl ⟨by rfl, ?_⟩) hS10 ?_
            · rintro w' hS'
              go_simp
            simp only [List.setIfInBounds_toArray, List.set_cons_zero, List.set_cons_succ]
            refine wpAnyH_done (by kernel_rfl) ?_ _
            have b7 := HBL0.out.trans (hb7.mono HBL0.out.size)
            have b90 := b7.trans (b9.mono b7.size)
            have HB10 := hid (hm10.to_below b90 b90.size (fun b hb => by have := HPL.out.2.1 b hb; have := HG.out; omega))
            have HPL10 := hid hpl10
            have HS10 := hid hS10
            clear hpl10 hS10 hm10 hap b7 b90 hW9 h9 b9 hS9 hS7 hpx eb hnb hb7 hy7 hc7 hS
            go_wp2
            go_roundw
            case rel =>
              refine ⟨k + 1, L ++ [⟨partAt P z k, a7, c7⟩], ?_, .inr (by simpa using HD.out), ?_, ?_, HS10.out, HB10.out⟩
              · rw [HAT.out, step_mul]; go_num
              · rw [List.map_append, HL.out, partsL_snoc]; rfl
              · have := HPL10.out; rw [HLEN.out] at this; exact this
            case measure =>
              have := HAT.out
              have := HD.out
              simp [RowKit.intOf]; omega
          · have hnum := numP_eq n z k hzp (by omega) hk
            have hge3 : ¬ (((k * z : Nat) : Int) < (n : Int)) := by omega
            have HNUM := hid hnum
            have HPL := hid hpl
            have HL := hid hL
            have HBL := hid hbl
            have HLEN := hid hlen
            clear hnum hpl hL hbl hbx hlen hk hkn hge hlt
            go_wp2
            go_ret2
            have h1 := HPL.out
            rw [HLEN.out] at h1
            have h2 := HBL.out
            rw [HG.out] at h2
            exact ⟨_, rfl, L, h1.mono (Nat.le_succ g), by rw [HL.out, HNUM.out], h2⟩
end Go.Proofs.Ytgdajplloamjcaa
