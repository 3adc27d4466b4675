/- The document's Write. -/
import Derived.Test.YtbhdbgippbopfaaUcB
namespace Go.Proofs.Ytbhdbgippbopfaa
open Go.RowKit Go.Maps
set_option linter.unusedVariables false
theorem h6L_app (f t : Int) (n : Nat) : [] ++ bytesBe 2 f ++ bytesBe 2 t ++ bytesBe 2 (8 + (n : Int)) = h6L f t n := by
  unfold h6L; simp [outBe]
theorem dgL_isB (s d f t : Int) (l : List Int) (h : ∀ x ∈ l, IsB x) : ∀ x ∈ dgL s d f t l, IsB x := fun x hx => by
  rcases List.mem_append.1 hx with h1 | h1
  · exact outBe_isB _ _ _ (h6L_isB _ _ _) x h1
  · exact h x h1
theorem dgL_set (s d f t : Int) (l : List Int) (h : ∀ x ∈ l, IsB x) : ((h6L f t l.length ++ [0, 0] ++ l).set 6 (wrS s d f t l / 256)).set 7 (wrS s d f t l % 256) = dgL s d f t l := by
  have hb := udS_bd s d _ (h6_isB f t l h)
  have e0 : wrS s d f t l = udS s d (h6L f t l.length ++ l) := rfl
  unfold dgL
  rw [← e0] at hb
  generalize wrS s d f t l = S at *
  have e : h6L f t l.length = [f / 256 % 256, f % 256, t / 256 % 256, t % 256, (8 + (l.length : Int)) / 256 % 256, (8 + (l.length : Int)) % 256] := by
    unfold h6L; simp [outBe, bytesBe, List.range, List.range.loop]
  rw [outBe_uno, be2, e, show S / 256 % 256 = S / 256 by omega]
  rfl
theorem dgL_gap (f t : Int) (l : List Int) : (h6L f t l.length ++ [0, 0] ++ l).take 6 ++ (h6L f t l.length ++ [0, 0] ++ l).drop 8 = h6L f t l.length ++ l := by
  have h := h6L_len f t l.length
  rw [List.append_assoc, List.take_append_of_le_length (by omega), List.take_of_length_le (by omega), ← List.append_assoc, List.drop_append_of_le_length (by simp [h]), List.drop_of_length_le (by simp [h]), List.nil_append]
set_option maxRecDepth 100000 in
set_option maxHeartbeats 16000000 in
theorem rWrite_any (w : World) (s d f t : Int) (a : Option Addr) (n c : Nat) (l : List Int) (hs : IsU s) (hd : IsU d) (hf : II f) (ht : II t) (hn : l.length = n) (hl : n ≤ 70000) (hb : Bytes w a l) :
    Calls Try.prog 10 #[.int .u32 s, .int .u32 d, .agg (dgC f t (.slice a n c))] w fun e w' => ∃ a2 c2, e = .returned (.tuple #[.slice a2 (wrL s d f t l).length c2, .int .i64 (wrE f t n)]) ∧ By w' (New w) a2 (wrL s d f t l) ∧ Below w.heap.size w w' := by
  obtain ⟨W1, hW1, h1, b1⟩ := boxP w (dgC f t (.slice a n c)) 30
  obtain ⟨g, hg⟩ : ∃ g, w.heap.size = g := ⟨_, rfl⟩
  rw [hg] at h1
  obtain ⟨B1, hB1⟩ : ∃ B, W1.heap.size = B := ⟨_, rfl⟩
  have HGB := hid (show g < B1 by have := (Array.getElem?_eq_some_iff.1 h1).1; omega)
  have HB1E := hid hB1
  unfold II at hf ht
  have p0 := cell_of h1 (i := 0) (v := .int .i64 f) rfl
  have p1 := cell_of h1 (i := 1) (v := .int .i64 t) rfl
  have p2 := cell_of h1 (i := 2) (v := .slice a n c) rfl
  have hdef : wrL s d f t l = if wrE f t n = 0 then dgL s d f t l else [] := by unfold wrL; rw [hn]
  have HXW1 := hid h1
  have HB1 := hid b1
  have HBW1 := hid (Below.refl B1 W1)
  have HLW1 := hid (show B1 ≤ W1.heap.size by omega)
  have HG := hid hg
  have HN := hid hn
  have HBY := hid hb
  have HW := hW1.symm
  clear h1 b1 hW1 hn hb hB1
  rw [hdef]
  clear hdef
  by_cases j0 : f < 0
  · have e0 : wrE f t n = 1 := by unfold wrE; rw [if_pos (fun h => by have := h.1.1; omega)]
    rw [e0, if_neg (by omega)]
    clear e0
    go_enter Try.func10, Try.ntmps10
    go_wp2
    go_ret2
    have h2 := HB1.out
    first | exact ⟨none, 0, rfl, By.nil _ _ _, h2⟩ | exact ⟨none, ⟨0, rfl⟩, By.nil _ _ _, h2⟩ | (rw [HG.out] at h2; first | exact ⟨none, 0, rfl, By.nil _ _ _, h2⟩ | exact ⟨none, ⟨0, rfl⟩, By.nil _ _ _, h2⟩)
  · skip
    by_cases j1 : 65535 < f
    · have e0 : wrE f t n = 1 := by unfold wrE; rw [if_pos (fun h => by have := h.1.2; omega)]
      rw [e0, if_neg (by omega)]
      clear e0
      go_enter Try.func10, Try.ntmps10
      go_wp2
      go_ret2
      have h2 := HB1.out
      first | exact ⟨none, 0, rfl, By.nil _ _ _, h2⟩ | exact ⟨none, ⟨0, rfl⟩, By.nil _ _ _, h2⟩ | (rw [HG.out] at h2; first | exact ⟨none, 0, rfl, By.nil _ _ _, h2⟩ | exact ⟨none, ⟨0, rfl⟩, By.nil _ _ _, h2⟩)
    · skip
      by_cases j2 : t < 0
      · have e0 : wrE f t n = 1 := by unfold wrE; rw [if_pos (fun h => by have := h.2.1; omega)]
        rw [e0, if_neg (by omega)]
        clear e0
        go_enter Try.func10, Try.ntmps10
        go_wp2
        go_ret2
        have h2 := HB1.out
        first | exact ⟨none, 0, rfl, By.nil _ _ _, h2⟩ | exact ⟨none, ⟨0, rfl⟩, By.nil _ _ _, h2⟩ | (rw [HG.out] at h2; first | exact ⟨none, 0, rfl, By.nil _ _ _, h2⟩ | exact ⟨none, ⟨0, rfl⟩, By.nil _ _ _, h2⟩)
      · skip
        by_cases j3 : 65535 < t
        · have e0 : wrE f t n = 1 := by unfold wrE; rw [if_pos (fun h => by have := h.2.2; omega)]
          rw [e0, if_neg (by omega)]
          clear e0
          go_enter Try.func10, Try.ntmps10
          go_wp2
          go_ret2
          have h2 := HB1.out
          first | exact ⟨none, 0, rfl, By.nil _ _ _, h2⟩ | exact ⟨none, ⟨0, rfl⟩, By.nil _ _ _, h2⟩ | (rw [HG.out] at h2; first | exact ⟨none, 0, rfl, By.nil _ _ _, h2⟩ | exact ⟨none, ⟨0, rfl⟩, By.nil _ _ _, h2⟩)
        · skip
          have hok : wrOk f t := ⟨⟨by omega, by omega⟩, ⟨by omega, by omega⟩⟩
          by_cases k3 : 65507 < n
          · have e0 : wrE f t n = 5 := by unfold wrE; rw [if_neg (not_not_intro hok), if_pos k3]
            rw [e0, if_neg (by omega)]
            have k3i : (65507 : Int) < n := by omega
            clear e0 hok
            go_enter Try.func10, Try.ntmps10
            go_wp2
            go_ret2
            have h2 := HB1.out
            first | exact ⟨none, 0, rfl, By.nil _ _ _, h2⟩ | exact ⟨none, ⟨0, rfl⟩, By.nil _ _ _, h2⟩ | (rw [HG.out] at h2; first | exact ⟨none, 0, rfl, By.nil _ _ _, h2⟩ | exact ⟨none, ⟨0, rfl⟩, By.nil _ _ _, h2⟩)
          · have e0 : wrE f t n = 0 := by unfold wrE; rw [if_neg (not_not_intro hok), if_neg k3]
            rw [e0, if_pos rfl, dgL_len, HN.out]
            have k3i : ¬ ((65507 : Int) < n) := by omega
            obtain ⟨NN, hNN⟩ : ∃ x, x = 8 + (n : Int) := ⟨_, rfl⟩
            obtain ⟨H6, hH6⟩ : ∃ L, L = h6L f t n := ⟨_, rfl⟩
            obtain ⟨S, hS⟩ : ∃ S, S = wrS s d f t l := ⟨_, rfl⟩
            have hI6 : ∀ x ∈ h6L f t l.length ++ l, IsB x := h6_isB f t l HBY.out.isB
            have hSb := udS_bd s d _ hI6
            have hSb : 1 ≤ S ∧ S ≤ 65535 := by rw [hS]; exact hSb
            have HH6 := hid (show [] ++ bytesBe 2 f ++ bytesBe 2 t ++ bytesBe 2 NN = H6 by rw [hNN, hH6]; exact h6L_app f t n)
            have H6L := hid (show H6.length = 6 by rw [hH6]; exact h6L_len _ _ _)
            have HXL := hid (show (H6 ++ [0, 0] ++ l).length = 8 + n by rw [List.length_append, List.length_append, H6L.out, HN.out]; rfl)
            have HXS := hid (show udS s d ((H6 ++ [0, 0] ++ l).take 6 ++ (H6 ++ [0, 0] ++ l).drop 8) = S by rw [hH6, hS, ← HN.out, dgL_gap]; rfl)
            have HXF := hid (show ((H6 ++ [0, 0] ++ l).set 6 (S / 256)).set 7 (S % 256) = dgL s d f t l by rw [hH6, hS, ← HN.out]; exact dgL_set s d f t l HBY.out.isB)
            have HDI := hid (dgL_isB s d f t l HBY.out.isB)
            have HRG := hid (show (0 ≤ f ∧ f ≤ 65535) ∧ (0 ≤ t ∧ t ≤ 65535) ∧ (0 ≤ NN ∧ NN ≤ 65535 ∧ n ≤ 65507) ∧ (1 ≤ S ∧ S ≤ 65535) from ⟨⟨by omega, by omega⟩, ⟨by omega, by omega⟩, ⟨by omega, by omega, by omega⟩, hSb⟩)
            have hw2 : 8 + (n : Int) = NN := hNN.symm
            have hw3 : IntKind.i64.wrap NN = NN := IntWalk.i64_in _ (by omega)
            have hw4 : IntKind.u64.wrap NN = NN := IntWalk.u64_in _ (by omega)
            have hw5 : IntKind.u64.wrap f = f := IntWalk.u64_in _ (by omega)
            have hw6 : IntKind.u64.wrap t = t := IntWalk.u64_in _ (by omega)
            clear e0 hok hS hH6 hSb hI6 hNN
            go_enter Try.func10, Try.ntmps10
            go_upto_region 5 with fail
            clear p0 p1 p2
            try simp only [Act.put]
            refine wp_region_held_drew (S := fun W => W.heap[g]? = some (.cells (dgC f t (.slice a n c)) 30 (0, 0))) (by kernel_rfl) HXW1.out (fun hS => ?_)
            obtain ⟨u0, hdu0⟩ : ∃ W, W = W1.drew := ⟨_, rfl⟩
            rw [← hdu0]
            rw [← hdu0] at hS
            have HBu0 := hid (show Below B1 W1 u0 by rw [hdu0]; exact HBW1.out.drew)
            have HLu0 := hid (show B1 ≤ u0.heap.size by rw [hdu0]; exact HLW1.out)
            have HXu0 := hid (show u0.heap[g]? = some (.cells (dgC f t (.slice a n c)) 30 (0, 0)) by rw [hdu0]; exact HXW1.out)
            refine nany_take 0 32 (.pointer (some ⟨g, 0, none⟩)) rfl rfl (by kernel_rfl) (by kernel_rfl) (by kernel_rfl) (fun _ _ _ h => h) (Or.inl ⟨by rfl, ?_⟩) hS ?_
            · rintro w' hS'
              go_simp
            simp only [List.setIfInBounds_toArray, List.set_cons_zero, List.set_cons_succ]
            refine nany_take 1 33 (.int .i64 f) rfl rfl (by kernel_rfl) (by kernel_rfl) (by kernel_rfl) (fun _ _ _ h => h) (Or.inl ⟨by rfl, ?_⟩) hS ?_
            · rintro w' hS'
              have hcc := cell_of hS' (i := 0) (v := .int .i64 f) rfl; go_simp
            simp only [List.setIfInBounds_toArray, List.set_cons_zero, List.set_cons_succ]
            refine nany_take 2 34 (.int .u64 f) rfl rfl (by kernel_rfl) (by kernel_rfl) (by kernel_rfl) (fun _ _ _ h => h) (Or.inl ⟨by rfl, ?_⟩) hS ?_
            · rintro w' hS'
              go_simp
            simp only [List.setIfInBounds_toArray, List.set_cons_zero, List.set_cons_succ]
            refine nany_take 4 36 (.pointer (some ⟨g, 1, none⟩)) rfl rfl (by kernel_rfl) (by kernel_rfl) (by kernel_rfl) (fun _ _ _ h => h) (Or.inl ⟨by rfl, ?_⟩) hS ?_
            · rintro w' hS'
              go_simp
            simp only [List.setIfInBounds_toArray, List.set_cons_zero, List.set_cons_succ]
            refine nany_take 5 37 (.int .i64 t) rfl rfl (by kernel_rfl) (by kernel_rfl) (by kernel_rfl) (fun _ _ _ h => h) (Or.inl ⟨by rfl, ?_⟩) hS ?_
            · rintro w' hS'
              have hcc := cell_of hS' (i := 1) (v := .int .i64 t) rfl; go_simp
            simp only [List.setIfInBounds_toArray, List.set_cons_zero, List.set_cons_succ]
            refine nany_take 6 38 (.int .u64 t) rfl rfl (by kernel_rfl) (by kernel_rfl) (by kernel_rfl) (fun _ _ _ h => h) (Or.inl ⟨by rfl, ?_⟩) hS ?_
            · rintro w' hS'
              go_simp
            simp only [List.setIfInBounds_toArray, List.set_cons_zero, List.set_cons_succ]
            refine nany_take 8 40 (.pointer (some ⟨g, 2, none⟩)) rfl rfl (by kernel_rfl) (by kernel_rfl) (by kernel_rfl) (fun _ _ _ h => h) (Or.inl ⟨by rfl, ?_⟩) hS ?_
            · rintro w' hS'
              go_simp
            simp only [List.setIfInBounds_toArray, List.set_cons_zero, List.set_cons_succ]
            refine nany_take 9 41 (.slice a n c) rfl rfl (by kernel_rfl) (by kernel_rfl) (by kernel_rfl) (fun _ _ _ h => h) (Or.inl ⟨by rfl, ?_⟩) hS ?_
            · rintro w' hS'
              have hcc := cell_of hS' (i := 2) (v := .slice a n c) rfl; go_simp
            simp only [List.setIfInBounds_toArray, List.set_cons_zero, List.set_cons_succ]
            refine nany_take 10 42 (.int .i64 n) rfl rfl (by kernel_rfl) (by kernel_rfl) (by kernel_rfl) (fun _ _ _ h => h) (Or.inl ⟨by rfl, ?_⟩) hS ?_
            · rintro w' hS'
              go_simp
            simp only [List.setIfInBounds_toArray, List.set_cons_zero, List.set_cons_succ]
            refine nany_take 11 43 (.int .i64 NN) rfl rfl (by kernel_rfl) (by kernel_rfl) (by kernel_rfl) (fun _ _ _ h => h) (Or.inl ⟨by rfl, ?_⟩) hS ?_
            · rintro w' hS'
              go_simp
            simp only [List.setIfInBounds_toArray, List.set_cons_zero, List.set_cons_succ]
            refine nany_take 12 44 (.int .u64 NN) rfl rfl (by kernel_rfl) (by kernel_rfl) (by kernel_rfl) (fun _ _ _ h => h) (Or.inl ⟨by rfl, ?_⟩) hS ?_
            · rintro w' hS'
              go_simp
            simp only [List.setIfInBounds_toArray, List.set_cons_zero, List.set_cons_succ]
            refine nany_one 3 (by kernel_rfl) ?_
            refine nop_callE 35 (f := 21) (args := #[.slice none 0 0, .int .i64 2, .int .u64 f]) (R := fun v w' => ∃ az cz, v = .slice az 2 cz ∧ GO w' B1 (.slice az 2 cz) ([] ++ bytesBe 2 f) ∧ Below B1 u0 w' ∧ Mods (fun b => (Value.slice none 0 0).ownBlock = some b) u0 w') rfl (by rfl) rfl (by go_simp) ((High_go u0 B1 none 0 0 ([]) (GO.none _ _) (rfl) (HLu0.out) 2 (by omega) f (by have := HRG.out; omega) (by have := HRG.out; omega) (by omega) 2 rfl 2 rfl).mono (fun e w' h => by obtain ⟨az, cz, h1, h2, h3⟩ := h; exact ⟨_, h1, az, cz, rfl, h2, h3⟩)) ?_
            rintro v u1 ⟨a1, c1, rfl, hgu1, hbu1, -⟩
            have HGu1 := hid hgu1
            have HBu1 := hid (HBu0.out.trans hbu1)
            have HLu1 := hid (Nat.le_trans HLu0.out hbu1.size)
            have HXu1 := hid ((hbu1.block g HGB.out).trans HXu0.out)
            clear hgu1 hbu1
            refine ⟨HXu1.out, ?_⟩
            simp only [List.setIfInBounds_toArray, List.set_cons_zero, List.set_cons_succ]
            refine nany_one 7 (by kernel_rfl) ?_
            refine nop_callE 39 (f := 21) (args := #[.slice a1 2 c1, .int .i64 2, .int .u64 t]) (R := fun v w' => ∃ az cz, v = .slice az 4 cz ∧ GO w' B1 (.slice az 4 cz) ([] ++ bytesBe 2 f ++ bytesBe 2 t) ∧ Below B1 u1 w' ∧ Mods (fun b => (Value.slice a1 2 c1).ownBlock = some b) u1 w') rfl (by rfl) rfl (by go_simp) ((High_go u1 B1 a1 2 c1 ([] ++ bytesBe 2 f) HGu1.out (by simp [len_be]) (HLu1.out) 2 (by omega) t (by have := HRG.out; omega) (by have := HRG.out; omega) (by omega) 2 rfl 4 rfl).mono (fun e w' h => by obtain ⟨az, cz, h1, h2, h3⟩ := h; exact ⟨_, h1, az, cz, rfl, h2, h3⟩)) ?_
            rintro v u2 ⟨a2, c2, rfl, hgu2, hbu2, -⟩
            have HGu2 := hid hgu2
            have HBu2 := hid (HBu1.out.trans hbu2)
            have HLu2 := hid (Nat.le_trans HLu1.out hbu2.size)
            have HXu2 := hid ((hbu2.block g HGB.out).trans HXu1.out)
            clear hgu2 hbu2
            refine ⟨HXu2.out, ?_⟩
            simp only [List.setIfInBounds_toArray, List.set_cons_zero, List.set_cons_succ]
            refine nany_one 13 (by kernel_rfl) ?_
            refine nop_callE 45 (f := 21) (args := #[.slice a2 4 c2, .int .i64 2, .int .u64 NN]) (R := fun v w' => ∃ az cz, v = .slice az 6 cz ∧ GO w' B1 (.slice az 6 cz) ([] ++ bytesBe 2 f ++ bytesBe 2 t ++ bytesBe 2 NN) ∧ Below B1 u2 w' ∧ Mods (fun b => (Value.slice a2 4 c2).ownBlock = some b) u2 w') rfl (by rfl) rfl (by go_simp) ((High_go u2 B1 a2 4 c2 ([] ++ bytesBe 2 f ++ bytesBe 2 t) HGu2.out (by simp [len_be]) (HLu2.out) 2 (by omega) NN (by have := HRG.out; omega) (by have := HRG.out; omega) (by omega) 2 rfl 6 rfl).mono (fun e w' h => by obtain ⟨az, cz, h1, h2, h3⟩ := h; exact ⟨_, h1, az, cz, rfl, h2, h3⟩)) ?_
            rintro v u3 ⟨a3, c3, rfl, hgu3, hbu3, -⟩
            have HGu3 := hid hgu3
            have HBu3 := hid (HBu2.out.trans hbu3)
            have HLu3 := hid (Nat.le_trans HLu2.out hbu3.size)
            have HXu3 := hid ((hbu3.block g HGB.out).trans HXu2.out)
            clear hgu3 hbu3
            refine ⟨HXu3.out, ?_⟩
            simp only [List.setIfInBounds_toArray, List.set_cons_zero, List.set_cons_succ]
            refine nany_take 14 8 (.slice a3 6 c3) rfl rfl (by kernel_rfl) (by kernel_rfl) (by kernel_rfl) (fun _ _ _ h => h) (Or.inl ⟨by rfl, ?_⟩) HXu3.out ?_
            · rintro w' hS'
              go_simp
            simp only [List.setIfInBounds_toArray, List.set_cons_zero, List.set_cons_succ]
            refine wpAnyH_done (by kernel_rfl) ?_ _
            clear hS hdu0 HGu1 HGu2
            go_upto_region 6 with fail
            try simp only [Act.put]
            refine wp_region_held_drew (S := fun W => W.heap[g]? = some (.cells (dgC f t (.slice a n c)) 30 (0, 0))) (by kernel_rfl) HXu3.out (fun hS => ?_)
            obtain ⟨v0, hdv0⟩ : ∃ W, W = u3.drew := ⟨_, rfl⟩
            rw [← hdv0]
            rw [← hdv0] at hS
            have HBv0 := hid (show Below B1 W1 v0 by rw [hdv0]; exact HBu3.out.drew)
            have HLv0 := hid (show B1 ≤ v0.heap.size by rw [hdv0]; exact HLu3.out)
            have HXv0 := hid (show v0.heap[g]? = some (.cells (dgC f t (.slice a n c)) 30 (0, 0)) by rw [hdv0]; exact HXu3.out)
            have HGv0 := hid (show GO v0 B1 (.slice a3 6 c3) H6 by rw [hdv0, ← HH6.out]; exact HGu3.out)
            refine nany_take 0 46 (.slice a3 6 c3) rfl rfl (by kernel_rfl) (by kernel_rfl) (by kernel_rfl) (fun _ _ _ h => h) (Or.inl ⟨by rfl, ?_⟩) hS ?_
            · rintro w' hS'
              go_simp
            simp only [List.setIfInBounds_toArray, List.set_cons_zero, List.set_cons_succ]
            refine nany_take 3 49 (.pointer (some ⟨g, 2, none⟩)) rfl rfl (by kernel_rfl) (by kernel_rfl) (by kernel_rfl) (fun _ _ _ h => h) (Or.inl ⟨by rfl, ?_⟩) hS ?_
            · rintro w' hS'
              go_simp
            simp only [List.setIfInBounds_toArray, List.set_cons_zero, List.set_cons_succ]
            refine nany_take 4 50 (.slice a n c) rfl rfl (by kernel_rfl) (by kernel_rfl) (by kernel_rfl) (fun _ _ _ h => h) (Or.inl ⟨by rfl, ?_⟩) hS ?_
            · rintro w' hS'
              have hcc := cell_of hS' (i := 2) (v := .slice a n c) rfl; go_simp
            simp only [List.setIfInBounds_toArray, List.set_cons_zero, List.set_cons_succ]
            obtain ⟨v1, hv1, a5, c5, v2, hap5, hg5, hb5⟩ := app2 v0 B1 a3 6 c3 _ HGv0.out H6L.out HLv0.out (by omega) 0 0 (by unfold IsB; omega) (by unfold IsB; omega) 8 rfl 23
            have HBv1 := (show Below v0.heap.size v0 v1 by rw [hv1]; exact below_alloc (Below.refl _ _) (Nat.le_refl _) _)
            have HXv1 := hid ((HBv1.block g (Nat.lt_of_lt_of_le HGB.out HLv0.out)).trans HXv0.out)
            have HBv2 := hid (HBv0.out.trans hb5)
            have HLv2 := hid (Nat.le_trans HLv0.out hb5.size)
            have HXv2 := hid ((hb5.block g HGB.out).trans HXv0.out)
            have hwv2 := HB1.out.trans ((show Below W1.heap.size W1 v2 by rw [HB1E.out]; exact HBv2.out).mono HB1.out.size)
            obtain ⟨a6, c6, v3, hap6, hg6, hb6⟩ := hg5.push (by rw [List.length_append, H6L.out]; rfl) HLv2.out l a n c HN.out (HBY.out.later hwv2) (by have := HRG.out; omega) 23
            have HBv3 := hid (HBv2.out.trans hb6)
            have HLv3 := hid (Nat.le_trans HLv2.out hb6.size)
            have HXv3 := hid ((hb6.block g HGB.out).trans HXv2.out)
            have HGv3 := hid hg6
            refine nany_one 1 (by kernel_rfl) ?_
            refine nop_value' 47 (v := .slice (some ⟨v0.heap.size, 0, none⟩) 2 2) (w' := v1) rfl (by rfl) rfl (by rw [hv1]; go_simp) ?_
            refine ⟨HXv1.out, ?_⟩
            simp only [List.setIfInBounds_toArray, List.set_cons_zero, List.set_cons_succ]
            refine nany_one 2 (by kernel_rfl) ?_
            refine nop_value' 48 (v := .slice a5 8 c5) (w' := v2) rfl (by rfl) rfl (ex_append (.tmp 46) (.tmp 47) 23 rfl 23 rfl (v := .slice a3 6 c3) (y := .slice (some ⟨v0.heap.size, 0, none⟩) 2 2) rfl rfl hap5) ?_
            refine ⟨HXv2.out, ?_⟩
            simp only [List.setIfInBounds_toArray, List.set_cons_zero, List.set_cons_succ]
            refine nany_one 5 (by kernel_rfl) ?_
            refine nop_value' 51 (v := .slice a6 (8 + n) c6) (w' := v3) rfl (by rfl) rfl (ex_append (.tmp 48) (.tmp 50) 23 rfl 23 rfl (v := .slice a5 8 c5) (y := .slice a n c) rfl rfl hap6) ?_
            refine ⟨HXv3.out, ?_⟩
            simp only [List.setIfInBounds_toArray, List.set_cons_zero, List.set_cons_succ]
            refine nany_take 6 8 (.slice a6 (8 + n) c6) rfl rfl (by kernel_rfl) (by kernel_rfl) (by kernel_rfl) (fun _ _ _ h => h) (Or.inl ⟨by rfl, ?_⟩) HXv3.out ?_
            · rintro w' hS'
              go_simp
            simp only [List.setIfInBounds_toArray, List.set_cons_zero, List.set_cons_succ]
            refine wpAnyH_done (by kernel_rfl) ?_ _
            clear hS hdv0 hv1 hap5 hg5 hb5 HBv1 hwv2 hap6 hg6 hb6 HGv0 HGu3
            have hg6 := HGv3.out
            have hwv3 := HB1.out.trans ((show Below W1.heap.size W1 v3 by rw [HB1E.out]; exact HBv3.out).mono HB1.out.size)
            obtain ⟨gz, cur, e6, hgzB, hh6, hc6, hcs6, hbc6⟩ := hg6.cells HXL.out (by omega)
            subst e6
            have hSU := rsum_any v3 s d (some ⟨gz, 0, none⟩) (8 + n) c6 _ hs hd HXL.out (by omega) (by have := HRG.out; omega) hc6 (hbc6.bytes (S := fun _ => True) hh6 hg6.1 trivial).bytes
            rw [HXS.out] at hSU
            have HSU := hid hSU
            have hne : g ≠ gz := by have := HGB.out; omega
            have hwz : w.heap.size ≤ gz := by have := HB1.out.size; have := HB1E.out; omega
            go_upto_region 8 with (go_at_call 18; refine HSU.out.mono ?_; rintro e w4 ⟨rfl, hb4⟩; have H4 := hid ((hb4.block gz (Array.getElem?_eq_some_iff.1 hh6).1).trans hh6); have HB4 := hid (hwv3.trans (hb4.mono hwv3.size)); clear hb4 HSU)
            have hh4 := H4.out
            obtain ⟨W9, hW9, h9, b9, k9, _⟩ := setP hh4 6 (.int .u8 (S / 256)) w.heap.size w HB4.out hwz
            obtain ⟨W10, hW10, h10, b10, k10, _⟩ := setP h9 7 (.int .u8 (S % 256)) w.heap.size w b9 hwz
            have hbc9 := hbc6.set 6 (S / 256) (by rw [HXL.out]; omega)
            have hbc10 := hbc9.set 7 (S % 256) (by rw [List.length_set, HXL.out]; omega)
            rw [HXF.out] at hbc10
            have hIr := HDI.out
            have f6 := froz_of hh4 6
            have c46 := cell_of hh4 (hbc6 6 (by rw [HXL.out]; omega))
            have f7 := froz_of h9 7
            have c97 := cell_of h9 (hbc9 7 (by rw [List.length_set, HXL.out]; omega))
            have HY10 := hid (hbc10.bytes (S := New w) h10 hIr hwz)
            have HB10 := hid b10
            have e9 := hW9.symm
            have e10 := hW10.symm
            have hw8 : IntKind.u8.wrap (S / 256) = S / 256 := IntWalk.u8_in _ (by have := HRG.out; omega)
            have hw9 : IntKind.u8.wrap S = S % 256 := IntKind.wrap_u8 S
            have hsb := HRG.out.2.2.2
            have hsb1 : 0 ≤ S := by omega
            have hsb2 : S ≤ 65535 := by omega
            have in6 : (6 : Int) < ((8 + n : Nat) : Int) := by omega
            have in7 : (7 : Int) < ((8 + n : Nat) : Int) := by omega
            clear hg6 hwv3 hgzB hh6 hcs6 hbc6 hSU hne hwz hh4 hW9 h9 b9 k9 hW10 h10 b10 k10 hbc9 hbc10 hIr hsb
            go_wp2
            go_ret2
            have h2 := HB10.out
            first | exact ⟨_, _, rfl, HY10.out, h2⟩ | exact ⟨_, ⟨_, rfl⟩, HY10.out, h2⟩ | (rw [HG.out] at h2; first | exact ⟨_, _, rfl, HY10.out, h2⟩ | exact ⟨_, ⟨_, rfl⟩, HY10.out, h2⟩)
end Go.Proofs.Ytbhdbgippbopfaa
