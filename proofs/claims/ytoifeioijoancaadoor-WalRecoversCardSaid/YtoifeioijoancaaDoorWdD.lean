/- hasRoom. -/
import Derived.Test.YtoifeioijoancaaDoorWdN
namespace Go.Proofs.YtoifeioijoancaaDoor
open Go.RowKit Go.Maps
set_option linter.unusedVariables false

theorem joinL_snoc (l ps : List Pt) (p : Pt) : joinL l (ps ++ [p]) = layS (joinL l ps) p := by simp [joinL]
theorem layS_len (l : List Pt) (p : Pt) : l.length ≤ (layS l p).length := by unfold layS; split <;> simp
theorem joinL_len : ∀ (ps l : List Pt), l.length ≤ (joinL l ps).length
  | [], l => Nat.le_refl _
  | p :: ps, l => Nat.le_trans (layS_len l p) (joinL_len ps (layS l p))
theorem joinL_app (l ps qs : List Pt) : joinL l (ps ++ qs) = joinL (joinL l ps) qs := by simp [joinL]
theorem joinL_front (l ps : List Pt) (k : Nat) : (joinL l (ps.take k)).length ≤ (joinL l ps).length := by
  conv => rhs; rw [← List.take_append_drop k ps, joinL_app]
  exact joinL_len _ _
theorem blks_len (l : List Pt) : (l.map Pt.blk).length = l.length := by simp
theorem joinL_old {l ps : List Pt} {p : Pt} {F : List Int} (h : (joinL l ps).map Pt.blk = l.map Pt.blk ++ F) (hp : p.blk ∈ l.map Pt.blk ∨ p.blk ∈ F) : (joinL l (ps ++ [p])).map Pt.blk = l.map Pt.blk ++ F := by
  rw [joinL_snoc, layS_blks, if_pos (by rw [h]; exact List.mem_append.2 hp), h]
theorem joinL_new {l ps : List Pt} {p : Pt} {F : List Int} (h : (joinL l ps).map Pt.blk = l.map Pt.blk ++ F) (h1 : p.blk ∉ l.map Pt.blk) (h2 : p.blk ∉ F) : (joinL l (ps ++ [p])).map Pt.blk = l.map Pt.blk ++ (F ++ [p.blk]) := by
  rw [joinL_snoc, layS_blks, if_neg (by rw [h]; exact fun e => by rcases List.mem_append.1 e with e | e; exact h1 e; exact h2 e), h, List.append_assoc]
section
variable {w : World} {p : Nat} {S : Nat → Prop} {A : Lg} {v1 v2 : Value} {L1 L2 : List Pw}
set_option maxRecDepth 100000 in
set_option maxHeartbeats 4000000 in
theorem hasRoom_any (h : LoAt w p S A v1 v2 L1 L2) (T : Nat → Prop) (a : Option Addr) (c : Nat) (Q : List Pw) (hQ : Ps w T a Q) (hl : Q.length ≤ 1000000) :
    Calls Tryd.prog 60 #[.pointer (some ⟨p, 3, none⟩), .slice a Q.length c] w fun e w' => e = .returned (.bool (decide ((joinL A.opn (Q.map Pw.pt)).length ≤ 64))) ∧ Below w.heap.size w w' := by
  obtain ⟨c0, c1, c2, c3, c4, c5, c6, c7, c8, c9, c10⟩ := h.cells
  obtain ⟨a1, k1, e1, _, hp1⟩ := h.o1.ps
  subst e1
  have hln : L1.length = A.opn.length := h.l1
  have hmany := h.f1.many
  have HAT := hid (fun W (hb : Below w.heap.size w W) b => at_any W S p 3 a1 k1 L1 b (cell_later hb c4) (hp1.later hb) (by omega))
  rw [h.e1] at HAT
  rw [hln] at c4
  have HC4 := hid c4
  have HQ := hid hQ
  obtain ⟨n, hn⟩ : ∃ n, n = Q.length := ⟨_, rfl⟩
  have HN := hid hn
  rw [← hn] at hl ⊢
  obtain ⟨R, hR⟩ : ∃ R, R = decide ((joinL A.opn (Q.map Pw.pt)).length ≤ 64) := ⟨_, rfl⟩
  rw [← hR]
  have HR := hid hR
  have hnp := h.box
  have hpp : p < w.heap.size := h.lt p h.own
  generalize A.opn = l at *
  obtain ⟨ln, hlnn⟩ : ∃ ln, ln = l.length := ⟨_, rfl⟩
  have HLN := hid hlnn
  rw [← hlnn] at hmany HC4
  clear h hQ hn hR c0 c1 c2 c3 c4 c5 c6 c7 c8 c9 c10 hp1 hln hlnn hnp
  go_enter Tryd.func60, Tryd.ntmps60
  go_wp2
  go_loopw [5, 10] (fun v z wr => ∃ (k : Nat) (F : List Int), k ≤ n ∧ z = .int .i64 k ∧ wr.ownsRow w.heap.size 3 1 v F.length (ints F) ∧ (joinL l ((Q.map Pw.pt).take k)).map Pt.blk = l.map Pt.blk ++ F ∧ ln + F.length ≤ 64 ∧ Below w.heap.size w wr) (fun _ z _ => n - (RowKit.intOf z).toNat)
  case atStart => exact ⟨0, [], Nat.zero_le _, rfl, ⟨rfl, .inl ⟨rfl, rfl⟩⟩, by simp [joinL], by simpa using hmany, Below.refl _ _⟩
  case round =>
    obtain ⟨k, F, hk, rfl, hrow, hF, hF64, hb⟩ := hrel
    have HROW := hid hrow
    have HF := hid hF
    have HB := hid hb
    obtain ⟨a5, c5, e5⟩ := owns_slice hrow
    subst e5
    clear hrow hF
    by_cases hlt : k < n
    · have hki : (k : Int) < n := by omega
      have hkQ : k < Q.length := by rw [← HN.out]; exact hlt
      obtain ⟨gl, off, ha, _, hc0, hc1⟩ := HQ.out.at_ hkQ
      subst ha
      replace hc0 := cell_later hb hc0
      replace hc1 := cell_later hb hc1
      have HSN := hid (map_take_snoc hkQ)
      generalize L1.length = n1 at *
      generalize Q.getD k default = P at *
      have hPb : P.pt.blk = P.blk := rfl
      have HOLD := hid (fun hp => joinL_old (p := P.pt) HF.out hp)
      have HNEW := hid (fun h1 h2 => joinL_new (p := P.pt) HF.out h1 h2)
      rw [hPb, ← HSN.out] at HOLD HNEW
      obtain ⟨W1, hW1⟩ : ∃ W1, W1 = wr.alloc (.cells #[.int .i64 P.blk, .slice P.a P.dat.length P.c] 29) := ⟨_, rfl⟩
      have hb1 : Below wr.heap.size wr W1 := by rw [hW1]; exact (Below.refl _ _).alloc (Nat.le_refl _) _
      have d0 : W1.cell? ⟨wr.heap.size, 0, none⟩ = some (.int .i64 P.blk) := by rw [hW1, new_cell _ _ _ _ 0 (by simp)]; rfl
      have HB1 : Hid (Below w.heap.size w W1) := hid (HB.out.trans (hb1.mono HB.out.size))
      have HBr1 := hid hb1
      replace HAT := hid (fun W (hb : Below w.heap.size w W) => HAT.out W hb P.blk)
      clear hb hb1 hPb
      by_cases hpos : posP l P.blk < l.length
      · have hix : idxP l P.blk = ((posP l P.blk : Nat) : Int) := by unfold idxP; rw [if_pos hpos]
        rw [hix] at HAT
        have HMEM := hid ((posP_mem l P.blk).1 hpos)
        generalize posP l P.blk = ix at *
        have hge : decide ((0 : Int) ≤ (ix : Int)) = true := by simp
        clear hix hpos
        go_wp2_with (rw [← hW1]; clear hW1)
        refine wp_region_held_drew (S := (fun w' => w'.cell? ⟨wr.heap.size, 0, none⟩ = some (.int .i64 P.blk))) (by kernel_rfl) d0 (fun hS => ?_)
        refine nany_take 0 14 (.pointer (some ⟨p, 3, none⟩)) rfl rfl (by kernel_rfl) (by kernel_rfl) (by kernel_rfl) (fun _ _ _ h => h) (Or.inl ⟨by rfl, ?_⟩) hS ?_
        · intro w' hw0
          go_simp
        simp only [List.setIfInBounds_toArray, List.set_cons_zero, List.set_cons_succ]
        refine nany_take 1 15 (.pointer (some ⟨p, 3, none⟩)) rfl rfl (by kernel_rfl) (by kernel_rfl) (by kernel_rfl) (fun _ _ _ h => h) (Or.inl ⟨by rfl, ?_⟩) hS ?_
        · intro w' hw0
          go_simp
        simp only [List.setIfInBounds_toArray, List.set_cons_zero, List.set_cons_succ]
        refine nany_take 2 16 (.pointer (some ⟨p, 3, none⟩)) rfl rfl (by kernel_rfl) (by kernel_rfl) (by kernel_rfl) (fun _ _ _ h => h) (Or.inl ⟨by rfl, ?_⟩) hS ?_
        · intro w' hw0
          go_simp
        simp only [List.setIfInBounds_toArray, List.set_cons_zero, List.set_cons_succ]
        refine nany_take 3 17 (.pointer (some ⟨wr.heap.size, 0, none⟩)) rfl rfl (by kernel_rfl) (by kernel_rfl) (by kernel_rfl) (fun _ _ _ h => h) (Or.inl ⟨by rfl, ?_⟩) hS ?_
        · intro w' hw0
          go_simp
        simp only [List.setIfInBounds_toArray, List.set_cons_zero, List.set_cons_succ]
        refine nany_take 4 18 (.int .i64 P.blk) rfl rfl (by kernel_rfl) (by kernel_rfl) (by kernel_rfl) (fun _ _ _ h => h) (Or.inl ⟨by rfl, ?_⟩) hS ?_
        · intro w' hw0
          go_simp
        simp only [List.setIfInBounds_toArray, List.set_cons_zero, List.set_cons_succ]
        refine nany_one 5 (by kernel_rfl) ?_
        refine nop_callE 19 (f := 79) (args := #[.pointer (some ⟨p, 3, none⟩), .int .i64 P.blk]) (R := fun v w' => v = .int .i64 (ix : Int) ∧ Below W1.drew.heap.size W1.drew w') rfl (by rfl) rfl (by go_simp) ((HAT.out W1.drew HB1.out.drew).mono (fun e w' h => ⟨_, h.1, rfl, h.2⟩)) ?_
        rintro v5 w5 ⟨rfl, hb5⟩
        clear hS
        have HB5 : Hid (Below w.heap.size w w5) := hid (HB1.out.drew.trans (hb5.mono HB1.out.size))
        have HB15 : Hid (Below W1.heap.size W1 w5) := hid ((Below.refl _ W1).drew.trans hb5)
        have HS5 := hid (cell_later (w := W1.drew) hb5 d0)
        refine ⟨HS5.out, ?_⟩
        have hS := HS5.out
        simp only [List.setIfInBounds_toArray, List.set_cons_zero, List.set_cons_succ]
        refine nany_take 6 20 (.bool true) rfl rfl (by kernel_rfl) (by kernel_rfl) (by kernel_rfl) (fun _ _ _ h => h) (Or.inl ⟨by rfl, ?_⟩) hS ?_
        · intro w' hw0
          go_simp
        simp only [List.setIfInBounds_toArray, List.set_cons_zero, List.set_cons_succ]
        refine nany_take 7 21 (.bool true) rfl rfl (by kernel_rfl) (by kernel_rfl) (by kernel_rfl) (fun _ _ _ h => h) (Or.inl ⟨by rfl, ?_⟩) hS ?_
        · intro w' hw0
          go_simp
        simp only [List.setIfInBounds_toArray, List.set_cons_zero, List.set_cons_succ]
        refine nany_skip 8 22 rfl rfl (by kernel_rfl) (by kernel_rfl) (by kernel_rfl) (fun _ _ _ h => h) (by rfl) hS ?_
        simp only [List.setIfInBounds_toArray, List.set_cons_zero, List.set_cons_succ]
        refine nany_skip 9 23 rfl rfl (by kernel_rfl) (by kernel_rfl) (by kernel_rfl) (fun _ _ _ h => h) (by rfl) hS ?_
        simp only [List.setIfInBounds_toArray, List.set_cons_zero, List.set_cons_succ]
        refine nany_skip 10 24 rfl rfl (by kernel_rfl) (by kernel_rfl) (by kernel_rfl) (fun _ _ _ h => h) (by rfl) hS ?_
        simp only [List.setIfInBounds_toArray, List.set_cons_zero, List.set_cons_succ]
        refine nany_skip 11 25 rfl rfl (by kernel_rfl) (by kernel_rfl) (by kernel_rfl) (fun _ _ _ h => h) (by rfl) hS ?_
        simp only [List.setIfInBounds_toArray, List.set_cons_zero, List.set_cons_succ]
        refine nany_take 12 26 (.bool true) rfl rfl (by kernel_rfl) (by kernel_rfl) (by kernel_rfl) (fun _ _ _ h => h) (Or.inl ⟨by rfl, ?_⟩) hS ?_
        · intro w' hw0
          go_simp
        simp only [List.setIfInBounds_toArray, List.set_cons_zero, List.set_cons_succ]
        refine wpAnyH_done (by kernel_rfl) ?_ _
        clear hS hb5 HS5 d0
        have HROW5 : Hid (w5.ownsRow w.heap.size 3 1 (.slice a5 F.length c5) F.length (ints F)) := hid (owns_keep HROW.out (fun g hg => (HB15.out.block g (Nat.lt_of_lt_of_le (owns_lt HROW.out hg).1 HBr1.out.size)).trans (HBr1.out.block g (owns_lt HROW.out hg).1)))
        have HNX := hid (HOLD.out (.inl HMEM.out))
        clear HOLD HNEW HAT
        go_wp2
        go_roundw
        case rel => exact ⟨k + 1, F, by omega, by go_num, HROW5.out, HNX.out, hF64, HB5.out⟩
        case measure => simp [RowKit.intOf]; omega
      · have hix : idxP l P.blk = -1 := by unfold idxP; rw [if_neg hpos]
        rw [hix] at HAT
        have HMEM := hid (fun e => hpos ((posP_mem l P.blk).2 e))
        clear hix hpos
        have hrw1 : ∀ W, Below wr.heap.size wr W → W.ownsRow w.heap.size 3 1 (.slice a5 F.length c5) F.length (ints F) := fun W hb => owns_keep HROW.out (fun g hg => hb.block g (owns_lt HROW.out hg).1)
        have HRW := hid hrw1
        obtain ⟨cn, hcn⟩ : ∃ cn, cn = decide (P.blk ∈ F) := ⟨_, rfl⟩
        have HCN := hid hcn
        have HCT := hid (fun W hb => Contains_any W (.slice a5 F.length c5) F P.blk w.heap.size (HRW.out W hb) (by omega))
        rw [← hcn] at HCT
        obtain ⟨fl, hfl⟩ : ∃ fl, fl = F.length := ⟨_, rfl⟩
        have HFL := hid hfl
        rw [← hfl] at HCT hF64 HRW ⊢
        clear hrw1 hcn hfl
        go_wp2_with (rw [← hW1]; clear hW1)
        go_region_held3 (fun w' => w'.cell? ⟨wr.heap.size, 0, none⟩ = some (.int .i64 P.blk)) ((first | exact d0 | exact HS5.out))
          ((first
            | (go_at_call 79; refine (HAT.out W1.drew HB1.out.drew).mono ?_; rintro e w5 ⟨rfl, hb5⟩; have HB5 : Hid (Below w.heap.size w w5) := hid (HB1.out.drew.trans (hb5.mono HB1.out.size)); have HB15 : Hid (Below W1.heap.size W1 w5) := hid ((Below.refl _ W1).drew.trans hb5); have HS5 := hid (cell_later (w := W1.drew) hb5 d0); clear hb5)
            | (go_at_call 71; refine (HCT.out w5 (HBr1.out.trans (HB15.out.mono HBr1.out.size))).mono ?_; rintro e w6 ⟨rfl, hw6⟩; rw [hw6]; clear hw6)))
        have hbr5 : Below wr.heap.size wr w5 := HBr1.out.trans (HB15.out.mono HBr1.out.size)
        have HROW5 := hid (HRW.out w5 hbr5)
        have c45 := cell_later HB5.out HC4.out
        have d05 := HS5.out
        clear HS5 d0 hbr5 HRW HAT HCT
        cases hcb : cn with
        | true =>
          have HCB : Hid (P.blk ∈ F) := hid (by have := HCN.out; rw [hcb] at this; simpa using this.symm)
          have HNX := hid (HOLD.out (.inr HCB.out))
          subst hcb
          clear HOLD HNEW HCN
          go_wp2
          go_roundw
          case rel => exact ⟨k + 1, F, by omega, by go_num, by rw [← HFL.out]; exact HROW5.out, HNX.out, by rw [← HFL.out]; exact hF64, HB5.out⟩
          case measure => simp [RowKit.intOf]; omega
        | false =>
          have HCB : Hid (P.blk ∉ F) := hid (by have := HCN.out; rw [hcb] at this; simpa using this.symm)
          have HNX := hid (HNEW.out HMEM.out HCB.out)
          subst hcb
          clear HOLD HNEW HCN
          by_cases h64 : ln + fl = 64
          · have g64 : ((ln : Int) + (fl : Int) == 64) = true := by simp; omega
            go_wp2
            go_ret
            refine ⟨ret_bool ?_, HB5.out⟩
            rw [HR.out]
            refine (decide_eq_false ?_).symm
            have h1 := congrArg List.length HNX.out
            rw [blks_len, List.length_append, blks_len, List.length_append, ← HLN.out, ← HFL.out] at h1
            have h2 := joinL_front l (Q.map Pw.pt) (k + 1)
            simp at h1
            omega
          · have g64 : ((ln : Int) + (fl : Int) == 64) = false := by simp; omega
            obtain ⟨a9, n9, c9, w9, hap, hn9, ho, hmo⟩ := push_own w5 w.heap.size (.slice a5 fl c5) F (by rw [← HFL.out]; exact HROW5.out) HB5.out.size P.blk (by rw [← HFL.out]; omega)
            have HO := hid ho
            have HN9 := hid hn9
            have HB9 : Hid (Below w.heap.size w w9) := hid (hmo.to_below HB5.out HB5.out.size (fun g hg => (owns_lt HROW5.out hg).2))
            clear hmo hn9 ho
            go_wp2_with (at_builtin; refine wpList_append_run rfl _ _ 37 rfl rfl rfl hap ?_)
            go_roundw
            case rel => exact ⟨k + 1, F ++ [P.blk], by omega, by go_num, HO.out, HNX.out, by rw [List.length_append, ← HFL.out]; simp; omega, HB9.out⟩
            case measure => simp [RowKit.intOf]; omega
    · have hki : ¬ ((k : Int) < n) := by omega
      obtain rfl : k = n := by omega
      clear hb
      go_wp2
      go_ret
      refine ⟨ret_bool ?_, HB.out⟩
      rw [HR.out]
      refine (decide_eq_true ?_).symm
      have h1 := HF.out
      rw [List.take_of_length_le (by rw [List.length_map, ← HN.out]; exact Nat.le_refl _)] at h1
      have h2 := congrArg List.length h1
      rw [blks_len, List.length_append, blks_len, ← HLN.out] at h2
      omega
end
end Go.Proofs.YtoifeioijoancaaDoor
