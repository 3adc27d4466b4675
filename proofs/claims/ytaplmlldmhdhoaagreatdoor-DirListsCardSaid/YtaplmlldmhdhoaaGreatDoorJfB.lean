/- DirLists: the law's walk. -/
import Derived.Test.YtaplmlldmhdhoaaGreatDoorJfA
namespace Go.Proofs.YtaplmlldmhdhoaaGreatDoor
open Go.RowKit Go.Maps
set_option linter.unusedVariables false
set_option maxRecDepth 100000 in
set_option maxHeartbeats 16000000 in
theorem DirLists_walk (n0 sz0 : Int) (ga : Option Addr) (gl gc : Nat) (gs : List Int) (w : World) {pe : Addr} (hG : Gl w) (hE : En0 w pe) (hgl : gs.length = gl) (hgm : gl ≤ maxLen) (hgs : IntR w ga gs) : Calls Tryz.prog 4 #[n64 n0, .slice ga gl gc, n64 sz0] w fun e w' => e = .returned (.bool true) ∧ Below w.heap.size w w' := by
  unfold maxLen at hgm
  obtain ⟨z23, hz23⟩ : ∃ z : Array Value, z = #[.int .i64 0, .int .i64 0, .int .i64 0, .int .u32 0, .int .u32 0, .int .u32 0, .int .u64 0, .int .u64 0, .int .u32 0, .int .u32 0, .int .u32 0, .int .u32 0, .int .u32 0, .int .u32 0, .int .i64 0, .int .i64 0, .int .i64 0, .int .i64 0, .int .i64 0, .int .i64 0, .int .i64 0, .int .i64 0, .int .i64 0] := ⟨_, rfl⟩
  have HZ23 := hid hz23
  have HZI : Hid (z23.size = 23) := hid (by rw [hz23]; rfl)
  have HKN := hid (known11 w hG hE)
  have HG := hid hG
  have HE := hid hE
  have HGL := hid hgl
  have HGS := hid hgs
  have hb60 := wi_bd n0 60 (by omega)
  have hb9 := wi_bd sz0 9 (by omega)
  obtain ⟨n, hn⟩ : ∃ n : Nat, wi n0 60 = n := Int.eq_ofNat_of_zero_le hb60.1
  obtain ⟨sz, hsz⟩ : ∃ n : Nat, wi sz0 9 = n := Int.eq_ofNat_of_zero_le hb9.1
  have hn60 : n < 60 := by omega
  have hsz9 : sz < 9 := by omega
  have HN := hid hn
  have HSZ := hid hsz
  obtain ⟨m, hm⟩ : ∃ m : Nat, m = 1 + sz := ⟨_, rfl⟩
  have hw1 : 1 + (sz : Int) = (m : Int) := by omega
  have hw2 : IntKind.i64.wrap (m : Int) = (m : Int) := IntWalk.i64_in _ (by omega)
  have HM := hid (show 0 < m ∧ m ≤ 9 by omega)
  have HN60 := hid hn60
  clear hz23 hG hE hn hsz hgl hgs hb60 hb9 hm hn60 hsz9
  go_enter Tryz.func4, Tryz.ntmps4
  go_wp2_with fail
  refine HKN.out.mono ?_
  rintro e w0 ⟨rfl, hb0⟩
  have HB0 := hid hb0
  have HBG := hid (begun_ok w0)
  have HG0 := hid (HG.out.later hb0)
  have HE0 := hid (HE.out.later hb0)
  clear hb0 HKN
  go_wp2_with fail
  refine HBG.out.mono ?_
  rintro e w1 ⟨pv, S0, base, T, rfl, hd1, hS1, hT1, hb1⟩
  obtain ⟨d2, hd2⟩ : ∃ d, w1.heap.size = d := ⟨_, rfl⟩
  obtain ⟨W2, hW2⟩ : ∃ W, W = w1.alloc (.cells #[.int .i64 0, .int .i64 0, .int .i64 0, .int .u32 0, .int .u32 0, .int .u32 0, .int .u64 0, .int .u64 0, .int .u32 0, .int .u32 0, .int .u32 0, .int .u32 0, .int .u32 0, .int .u32 0, .int .i64 0, .int .i64 0, .int .i64 0, .int .i64 0, .int .i64 0, .int .i64 0, .int .i64 0, .int .i64 0, .int .i64 0] 31) := ⟨_, rfl⟩
  obtain ⟨W3, hW3⟩ : ∃ W, W = W2.setRow d2 X0 := ⟨_, rfl⟩
  have k2 : W2.heap[d2]? = some (.cells z23 31 (0, 0)) := by rw [hW2, ← hd2, HZ23.out]; exact alloc_new w1 _
  have b2 : Below w1.heap.size w1 W2 := by rw [hW2]; exact (Below.refl _ _).alloc (Nat.le_refl _) _
  have b3 : Below w1.heap.size w1 W3 := by rw [hW3]; exact below_setRow b2 (by omega) _
  have k3 : W3.heap[d2]? = some (.cells X0 31 (0, 0)) := by rw [hW3]; exact setRow_heap _ _ _ _ _ _ k2
  have hds1 : Ds w0 w1 pv S0 T 0 L0 X0 := Ds.begin hd1 hS1 hT1 hb1
  have hds : Ds w0 W3 pv S0 T 0 (Lm 0) X0 := by rw [Lm_zero]; exact hds1.later b3
  obtain ⟨t4, ht4⟩ : ∃ t, W3.heap.size = t := ⟨_, rfl⟩
  obtain ⟨W4, hW4⟩ : ∃ W, W = W3.alloc (.cells (madeCells #[.bool false] 62) 4) := ⟨_, rfl⟩
  have b4 : Below W3.heap.size W3 W4 := by rw [hW4]; exact (Below.refl _ _).alloc (Nat.le_refl _) _
  have k4 : W4.heap[t4]? = some (.cells (madeCells #[.bool false] 62) 4 (0, 0)) := by rw [hW4, ← ht4]; exact alloc_new W3 _
  have hlt3 := lt_of k3
  have hdl4 : Dl w0 W4 pv S0 T 0 (Lm 0) X0 X0 d2 t4 (madeCells #[.bool false] 62) := ⟨hds.later b4, (b4.block d2 hlt3).trans k3, k4, ⟨by rw [← hd2]; exact hds1.below.size, fun e => by have := hds1.lt (.inl e); omega, fun e => by have := hds1.lt (.inr e); omega⟩, ⟨by rw [← ht4]; exact hds.below.size, fun e => by have := hds.lt (.inl e); omega, fun e => by have := hds.lt (.inr e); omega⟩, by omega⟩
  obtain ⟨W5, hW5⟩ : ∃ W, W = W4.setCell ⟨t4, 0, none⟩ (.bool true) := ⟨_, rfl⟩
  obtain ⟨W6, hW6⟩ : ∃ W, W = W5.setCell ⟨t4, 1, none⟩ (.bool true) := ⟨_, rfl⟩
  have hdl5 := hdl4.setT 0 (.bool true)
  rw [← hW5] at hdl5
  have hdl6 := hdl5.setT 1 (.bool true)
  rw [← hW6] at hdl6
  have hsz62 : (madeCells #[Value.bool false] 62).size = 62 := size_madeCells _ _
  obtain ⟨v40, hv40⟩ : ∃ v, (madeCells #[Value.bool false] 62)[0]? = some v := ⟨_, Array.getElem?_eq_getElem (by omega)⟩
  obtain ⟨v51, hv51⟩ : ∃ v, ((madeCells #[Value.bool false] 62).setIfInBounds 0 (.bool true))[1]? = some v := ⟨_, Array.getElem?_eq_getElem (by simp [hsz62])⟩
  have c40 := cell_of k4 hv40
  have f40 := froz_of k4 0
  have c51 := cell_of hdl5.ht hv51
  have f51 := froz_of hdl5.ht 1
  have HX0 : Hid (X0.size = 23 ∧ X0.all (·.oneCell') = true) := hid ⟨X0_is.sz, X0_is.one⟩
  have HK2 := hid k2
  have HD6 := hid hdl6
  have hmk := mk62
  have W10 := hid (fun W => within11 n0 60 (by decide) (by decide) W)
  have W11 := hid (fun W => within11 sz0 9 (by decide) (by decide) W)
  have HW2 := hW2.symm
  have HW3 := hid hW3
  have HW4 := hW4.symm
  have HW5 := hW5.symm
  have HW6 := hW6.symm
  clear hd1 hS1 hT1 hb1 k2 b2 b3 k3 hds1 hds b4 k4 hlt3 hdl4 hdl5 hdl6 hsz62 hv40 hv51 hW2 hW3 hW4 hW5 hW6 HBG
  go_upto_region 10 with (first
    | (refine wpList_store_row rfl 31 _ _ rfl d2 X0 rfl rfl 31 _ HK2.out (by rw [HX0.out.1]; exact sizeIno) (by rw [HX0.out.1]; exact HZI.out) HX0.out.2 ?_; rw [← HW3.out])
    | (go_at_call 7; refine (W10.out W3).mono ?_; rintro e w9 ⟨rfl, hw9⟩; rw [hw9, HN.out]; clear hw9 W10)
    | (go_at_call 7; refine (W11.out W3).mono ?_; rintro e w9 ⟨rfl, hw9⟩; rw [hw9, HSZ.out]; clear hw9 W11))
  clear HW2 HW4 HW5 HW6 c40 f40 c51 f51 hmk hw1 hw2
  go_wp2
  go_loopw [10] (fun z wr => ∃ j : Nat, j ≤ n ∧ z = n64 j ∧ Hid (∃ S X C, Dl w0 wr pv S T j (Lm j) X X d2 t4 C ∧ Th C (Lm j))) (fun z _ => n - (RowKit.intOf z).toNat)
  case atStart => exact ⟨0, Nat.zero_le _, rfl, hid ⟨_, _, _, HD6.out, Th.begin⟩⟩
  case round =>
    obtain ⟨j, hj, rfl, hinv⟩ := hrel
    by_cases hlt : j < n
    · skip
      obtain ⟨S, X, C, hdl, hth⟩ := hinv.out
      obtain ⟨P, hPd⟩ : ∃ P : Nat, P = j + 2 := ⟨_, rfl⟩
      have HP := hid (show ((j + 2 : Nat) : Int) = (P : Int) by omega)
      have HPN := hid hPd.symm
      have HPB := hid (show P < 62 by have := HN60.out; omega)
      have HJ60 := hid (show j < 60 by have := HN60.out; omega)
      have hw2 : (j : Int) + 2 = (P : Int) := by omega
      have hw3 : IntKind.i64.wrap (P : Int) = (P : Int) := IntWalk.i64_in _ (by have := HPB.out; omega)
      have hw4 : IntKind.i64.wrap (50 + (j : Int)) = 50 + (j : Int) := IntWalk.i64_in _ (by have := HPB.out; omega)
      have hPi : (P : Int) < 62 := by have := HPB.out; omega
      have HTH := hid hth
      have HDwr := hid hdl
      clear hdl hth hinv hPd
      go_upto_region 13 with fail
      try simp only [Act.put]
      refine wp_region_held_drew (S := fun W => W.heap[d2]? = some (.cells X 31 (0, 0))) (by kernel_rfl) HDwr.out.hd (fun hS => ?_)
      obtain ⟨v0, hv0⟩ : ∃ W, W = wr.drew := ⟨_, rfl⟩
      rw [← hv0]
      rw [← hv0] at hS
      have HDv0 := hid (show Dl w0 v0 pv S T j (Lm j) X X d2 t4 C by rw [hv0]; exact HDwr.out.later ((Below.refl _ _).drew))
      clear hv0
      refine nany_take 0 46 (ptrV pv) rfl rfl (by kernel_rfl) (by kernel_rfl) (by kernel_rfl) (fun _ _ _ h => h) (Or.inl ⟨by rfl, ?_⟩) hS ?_
      · rintro w' hS'
        go_simp
      simp only [List.setIfInBounds_toArray, List.set_cons_zero, List.set_cons_succ]
      refine nany_take 1 47 (.agg X) rfl rfl (by kernel_rfl) (by kernel_rfl) (by kernel_rfl) (fun _ _ _ h => h) (Or.inl ⟨by rfl, ?_⟩) hS ?_
      · rintro w' hS'
        exact ex_load 31 (.tmp 8) rfl d2 rfl 31 X (0, 0) _ hS' Tryz.underlying31 (by rw [HDv0.out.ino.1]; exact sizeIno)
      simp only [List.setIfInBounds_toArray, List.set_cons_zero, List.set_cons_succ]
      refine nany_take 2 48 (n64 j) rfl rfl (by kernel_rfl) (by kernel_rfl) (by kernel_rfl) (fun _ _ _ h => h) (Or.inl ⟨by rfl, ?_⟩) hS ?_
      · rintro w' hS'
        go_simp
      simp only [List.setIfInBounds_toArray, List.set_cons_zero, List.set_cons_succ]
      refine nany_take 4 50 (n64 j) rfl rfl (by kernel_rfl) (by kernel_rfl) (by kernel_rfl) (fun _ _ _ h => h) (Or.inl ⟨by rfl, ?_⟩) hS ?_
      · rintro w' hS'
        go_simp
      simp only [List.setIfInBounds_toArray, List.set_cons_zero, List.set_cons_succ]
      refine nany_take 5 51 (n64 (50 + (j : Int))) rfl rfl (by kernel_rfl) (by kernel_rfl) (by kernel_rfl) (fun _ _ _ h => h) (Or.inl ⟨by rfl, ?_⟩) hS ?_
      · rintro w' hS'
        go_simp
      simp only [List.setIfInBounds_toArray, List.set_cons_zero, List.set_cons_succ]
      refine nany_two 3 11 (by kernel_rfl) ?_ ?_
      · refine nop_callE 49 (f := 10) (args := #[n64 j]) (R := fun v w' => v = .string (strOfNums (nmL j)) ∧ Below v0.heap.size v0 w') rfl (by rfl) rfl (by go_simp) ((name_any v0 j HJ60.out).mono (fun e w' h => ⟨_, h.1, rfl, h.2⟩)) ?_
        rintro v x1 ⟨rfl, hbx1⟩
        have HDx1 := hid (HDv0.out.later hbx1)
        clear hbx1
        refine ⟨HDx1.out.hd, ?_⟩
        simp only [List.setIfInBounds_toArray, List.set_cons_zero, List.set_cons_succ]
        refine nany_two 6 11 (by kernel_rfl) ?_ ?_
        · refine nop_callE 52 (f := 9) (args := #[ptrV pv, .agg X, .string (strOfNums (nmL j)), n64 (50 + (j : Int))]) (R := fun v w' => ∃ X' S', v = .tuple #[.agg X', n64 P, .nilIface] ∧ Dl w0 w' pv S' T (j + 1) (Lm (j + 1)) X' X d2 t4 C ∧ Kp S x1 S' w') rfl (by rfl) rfl (by go_simp) ((HDx1.out.add HG0.out HE0.out HJ60.out).mono (fun e w' h => by obtain ⟨X', S', h1, h2⟩ := h; rw [HP.out] at h1; exact ⟨_, h1, X', S', rfl, h2⟩)) ?_
          rintro v x2 ⟨X', S', rfl, hdx2, hKx2⟩
          have HDx2 := hid hdx2
          clear hdx2 hKx2
          refine ⟨HDx2.out.hd, ?_⟩
          simp only [List.setIfInBounds_toArray, List.set_cons_zero, List.set_cons_succ]
          refine nany_take 7 45 (.tuple #[.agg X', n64 P, .nilIface]) rfl rfl (by kernel_rfl) (by kernel_rfl) (by kernel_rfl) (fun _ _ _ h => h) (Or.inl ⟨by rfl, ?_⟩) HDx2.out.hd ?_
          · rintro w' hS'
            go_simp
          simp only [List.setIfInBounds_toArray, List.set_cons_zero, List.set_cons_succ]
          refine nany_take 8 53 (.agg X') rfl rfl (by kernel_rfl) (by kernel_rfl) (by kernel_rfl) (fun _ _ _ h => h) (Or.inl ⟨by rfl, ?_⟩) HDx2.out.hd ?_
          · rintro w' hS'
            go_simp
          simp only [List.setIfInBounds_toArray, List.set_cons_zero, List.set_cons_succ]
          refine nany_take 9 54 (n64 P) rfl rfl (by kernel_rfl) (by kernel_rfl) (by kernel_rfl) (fun _ _ _ h => h) (Or.inl ⟨by rfl, ?_⟩) HDx2.out.hd ?_
          · rintro w' hS'
            go_simp
          simp only [List.setIfInBounds_toArray, List.set_cons_zero, List.set_cons_succ]
          refine nany_take 10 55 (.nilIface) rfl rfl (by kernel_rfl) (by kernel_rfl) (by kernel_rfl) (fun _ _ _ h => h) (Or.inl ⟨by rfl, ?_⟩) HDx2.out.hd ?_
          · rintro w' hS'
            go_simp
          simp only [List.setIfInBounds_toArray, List.set_cons_zero, List.set_cons_succ]
          refine nany_one 11 (by kernel_rfl) ?_
          obtain ⟨x3, hx3⟩ : ∃ W, W = x2.alloc (.cells #[.int .i64 0, .int .i64 0, .int .i64 0, .int .u32 0, .int .u32 0, .int .u32 0, .int .u64 0, .int .u64 0, .int .u32 0, .int .u32 0, .int .u32 0, .int .u32 0, .int .u32 0, .int .u32 0, .int .i64 0, .int .i64 0, .int .i64 0, .int .i64 0, .int .i64 0, .int .i64 0, .int .i64 0, .int .i64 0, .int .i64 0] 31) := ⟨_, rfl⟩
          obtain ⟨gx, hgx⟩ : ∃ g, x2.heap.size = g := ⟨_, rfl⟩
          have hnew := HDx2.out.new z23 (W' := x3) (by rw [hx3, HZ23.out])
          rw [hgx] at hnew
          refine nop_value' 11 (v := ptrV gx) (w' := x3) rfl (by rfl) rfl (by rw [hx3, ← hgx]; go_simp) ?_
          have HDx3 := hid (HDx2.out.later (by rw [hgx]; exact hnew.1))
          have HXx3 := hid hnew.2
          clear hnew hx3 hgx
          refine ⟨HDx3.out.hd, ?_⟩
          simp only [List.setIfInBounds_toArray, List.set_cons_zero, List.set_cons_succ]
          obtain ⟨Wx, hWx⟩ : ∃ W, W = x3.setRow gx X' := ⟨_, rfl⟩
          have hsx := HDx3.out.setX HXx3.out X'
          rw [← hWx] at hsx
          have hino := HDx3.out.ino
          refine nany_one 12 (by kernel_rfl) ?_
          refine nop_skip (w' := Wx) rfl (by rfl) rfl (by rw [hWx]; exact ex_store 31 (.tmp 11) (.tmp 53) rfl gx X' rfl rfl 31 z23 HXx3.out.hg (by rw [hino.1]; exact sizeIno) (by rw [hino.1]; exact HZI.out) hino.2) ?_
          refine ⟨hsx.1.hd, ?_⟩
          refine nany_take 13 12 (n64 P) rfl rfl (by kernel_rfl) (by kernel_rfl) (by kernel_rfl) (fun _ _ _ h => h) (Or.inl ⟨by rfl, ?_⟩) hsx.1.hd ?_
          · rintro w' hS'
            go_simp
          simp only [List.setIfInBounds_toArray, List.set_cons_zero, List.set_cons_succ]
          refine nany_take 14 13 (.nilIface) rfl rfl (by kernel_rfl) (by kernel_rfl) (by kernel_rfl) (fun _ _ _ h => h) (Or.inl ⟨by rfl, ?_⟩) hsx.1.hd ?_
          · rintro w' hS'
            go_simp
          simp only [List.setIfInBounds_toArray, List.set_cons_zero, List.set_cons_succ]
          refine wpAnyH_done (by kernel_rfl) ?_ _
          obtain ⟨W9, hW9⟩ : ∃ W, W = Wx.setRow d2 X' := ⟨_, rfl⟩
          have hd9 := hsx.1.setD X'
          rw [← hW9] at hd9
          obtain ⟨W10, hW10⟩ : ∃ W, W = W9.setCell ⟨t4, P, none⟩ (.bool true) := ⟨_, rfl⟩
          have hd10 := hd9.setT P (.bool true)
          rw [← hW10] at hd10
          obtain ⟨vp, hvp⟩ : ∃ v, C[P]? = some v := ⟨_, HTH.out P HPB.out⟩
          have hc9 := cell_of hd9.ht hvp
          have f9 := froz_of hd9.ht P
          have HXG := hid hsx.2.hg
          have HXD := hid hsx.1.hd
          have HI := hid hino
          have HD10 := hid hd10
          have HW9 := hid hW9
          have HW10 := hW10.symm
          have HOX := hid HDv0.out.ino
          clear hsx hino hd9 hd10 hvp hWx hW9 hW10 hS
          go_wp2_with (first | (refine wpList_load_row rfl 31 _ rfl gx rfl 31 _ (0, 0) _ HXG.out Tryz.underlying31 rfl (by rw [HI.out.1]; exact sizeIno) ?_) | (refine wpList_store_row rfl 31 _ _ rfl d2 X' rfl rfl 31 _ HXD.out (by rw [HI.out.1]; exact sizeIno) (by rw [HI.out.1]; exact HOX.out.1) HI.out.2 ?_; rw [← HW9.out]))
          go_roundw
          case rel => exact ⟨j + 1, hlt, by go_num, hid ⟨_, _, _, HD10.out, by have h := HTH.out.add (n := j) (by have := HPB.out; have := HP.out; omega); rw [HPN.out] at h; exact h⟩⟩
          case measure => simp [RowKit.intOf]; omega
        · obtain ⟨x2, hx2⟩ : ∃ W, W = x1.alloc (.cells #[.int .i64 0, .int .i64 0, .int .i64 0, .int .u32 0, .int .u32 0, .int .u32 0, .int .u64 0, .int .u64 0, .int .u32 0, .int .u32 0, .int .u32 0, .int .u32 0, .int .u32 0, .int .u32 0, .int .i64 0, .int .i64 0, .int .i64 0, .int .i64 0, .int .i64 0, .int .i64 0, .int .i64 0, .int .i64 0, .int .i64 0] 31) := ⟨_, rfl⟩
          obtain ⟨gx, hgx⟩ : ∃ g, x1.heap.size = g := ⟨_, rfl⟩
          have hnew := HDx1.out.new z23 (W' := x2) (by rw [hx2, HZ23.out])
          rw [hgx] at hnew
          refine nop_value' 11 (v := ptrV gx) (w' := x2) rfl (by rfl) rfl (by rw [hx2, ← hgx]; go_simp) ?_
          have HDx2 := hid (HDx1.out.later (by rw [hgx]; exact hnew.1))
          have HXx2 := hid hnew.2
          clear hnew hx2 hgx
          refine ⟨HDx2.out.hd, ?_⟩
          simp only [List.setIfInBounds_toArray, List.set_cons_zero, List.set_cons_succ]
          refine nany_one 6 (by kernel_rfl) ?_
          refine nop_callE 52 (f := 9) (args := #[ptrV pv, .agg X, .string (strOfNums (nmL j)), n64 (50 + (j : Int))]) (R := fun v w' => ∃ X' S', v = .tuple #[.agg X', n64 P, .nilIface] ∧ Dl w0 w' pv S' T (j + 1) (Lm (j + 1)) X' X d2 t4 C ∧ Kp S x2 S' w') rfl (by rfl) rfl (by go_simp) ((HDx2.out.add HG0.out HE0.out HJ60.out).mono (fun e w' h => by obtain ⟨X', S', h1, h2⟩ := h; rw [HP.out] at h1; exact ⟨_, h1, X', S', rfl, h2⟩)) ?_
          rintro v x3 ⟨X', S', rfl, hdx3, hKx3⟩
          have HDx3 := hid hdx3
          have HXx3 := hid (HXx2.out.call hKx3)
          clear hdx3 hKx3
          refine ⟨HDx3.out.hd, ?_⟩
          simp only [List.setIfInBounds_toArray, List.set_cons_zero, List.set_cons_succ]
          refine nany_take 7 45 (.tuple #[.agg X', n64 P, .nilIface]) rfl rfl (by kernel_rfl) (by kernel_rfl) (by kernel_rfl) (fun _ _ _ h => h) (Or.inl ⟨by rfl, ?_⟩) HDx3.out.hd ?_
          · rintro w' hS'
            go_simp
          simp only [List.setIfInBounds_toArray, List.set_cons_zero, List.set_cons_succ]
          refine nany_take 8 53 (.agg X') rfl rfl (by kernel_rfl) (by kernel_rfl) (by kernel_rfl) (fun _ _ _ h => h) (Or.inl ⟨by rfl, ?_⟩) HDx3.out.hd ?_
          · rintro w' hS'
            go_simp
          simp only [List.setIfInBounds_toArray, List.set_cons_zero, List.set_cons_succ]
          refine nany_take 9 54 (n64 P) rfl rfl (by kernel_rfl) (by kernel_rfl) (by kernel_rfl) (fun _ _ _ h => h) (Or.inl ⟨by rfl, ?_⟩) HDx3.out.hd ?_
          · rintro w' hS'
            go_simp
          simp only [List.setIfInBounds_toArray, List.set_cons_zero, List.set_cons_succ]
          refine nany_take 10 55 (.nilIface) rfl rfl (by kernel_rfl) (by kernel_rfl) (by kernel_rfl) (fun _ _ _ h => h) (Or.inl ⟨by rfl, ?_⟩) HDx3.out.hd ?_
          · rintro w' hS'
            go_simp
          simp only [List.setIfInBounds_toArray, List.set_cons_zero, List.set_cons_succ]
          obtain ⟨Wx, hWx⟩ : ∃ W, W = x3.setRow gx X' := ⟨_, rfl⟩
          have hsx := HDx3.out.setX HXx3.out X'
          rw [← hWx] at hsx
          have hino := HDx3.out.ino
          refine nany_one 12 (by kernel_rfl) ?_
          refine nop_skip (w' := Wx) rfl (by rfl) rfl (by rw [hWx]; exact ex_store 31 (.tmp 11) (.tmp 53) rfl gx X' rfl rfl 31 z23 HXx3.out.hg (by rw [hino.1]; exact sizeIno) (by rw [hino.1]; exact HZI.out) hino.2) ?_
          refine ⟨hsx.1.hd, ?_⟩
          refine nany_take 13 12 (n64 P) rfl rfl (by kernel_rfl) (by kernel_rfl) (by kernel_rfl) (fun _ _ _ h => h) (Or.inl ⟨by rfl, ?_⟩) hsx.1.hd ?_
          · rintro w' hS'
            go_simp
          simp only [List.setIfInBounds_toArray, List.set_cons_zero, List.set_cons_succ]
          refine nany_take 14 13 (.nilIface) rfl rfl (by kernel_rfl) (by kernel_rfl) (by kernel_rfl) (fun _ _ _ h => h) (Or.inl ⟨by rfl, ?_⟩) hsx.1.hd ?_
          · rintro w' hS'
            go_simp
          simp only [List.setIfInBounds_toArray, List.set_cons_zero, List.set_cons_succ]
          refine wpAnyH_done (by kernel_rfl) ?_ _
          obtain ⟨W9, hW9⟩ : ∃ W, W = Wx.setRow d2 X' := ⟨_, rfl⟩
          have hd9 := hsx.1.setD X'
          rw [← hW9] at hd9
          obtain ⟨W10, hW10⟩ : ∃ W, W = W9.setCell ⟨t4, P, none⟩ (.bool true) := ⟨_, rfl⟩
          have hd10 := hd9.setT P (.bool true)
          rw [← hW10] at hd10
          obtain ⟨vp, hvp⟩ : ∃ v, C[P]? = some v := ⟨_, HTH.out P HPB.out⟩
          have hc9 := cell_of hd9.ht hvp
          have f9 := froz_of hd9.ht P
          have HXG := hid hsx.2.hg
          have HXD := hid hsx.1.hd
          have HI := hid hino
          have HD10 := hid hd10
          have HW9 := hid hW9
          have HW10 := hW10.symm
          have HOX := hid HDv0.out.ino
          clear hsx hino hd9 hd10 hvp hWx hW9 hW10 hS
          go_wp2_with (first | (refine wpList_load_row rfl 31 _ rfl gx rfl 31 _ (0, 0) _ HXG.out Tryz.underlying31 rfl (by rw [HI.out.1]; exact sizeIno) ?_) | (refine wpList_store_row rfl 31 _ _ rfl d2 X' rfl rfl 31 _ HXD.out (by rw [HI.out.1]; exact sizeIno) (by rw [HI.out.1]; exact HOX.out.1) HI.out.2 ?_; rw [← HW9.out]))
          go_roundw
          case rel => exact ⟨j + 1, hlt, by go_num, hid ⟨_, _, _, HD10.out, by have h := HTH.out.add (n := j) (by have := HPB.out; have := HP.out; omega); rw [HPN.out] at h; exact h⟩⟩
          case measure => simp [RowKit.intOf]; omega
      · obtain ⟨x1, hx1⟩ : ∃ W, W = v0.alloc (.cells #[.int .i64 0, .int .i64 0, .int .i64 0, .int .u32 0, .int .u32 0, .int .u32 0, .int .u64 0, .int .u64 0, .int .u32 0, .int .u32 0, .int .u32 0, .int .u32 0, .int .u32 0, .int .u32 0, .int .i64 0, .int .i64 0, .int .i64 0, .int .i64 0, .int .i64 0, .int .i64 0, .int .i64 0, .int .i64 0, .int .i64 0] 31) := ⟨_, rfl⟩
        obtain ⟨gx, hgx⟩ : ∃ g, v0.heap.size = g := ⟨_, rfl⟩
        have hnew := HDv0.out.new z23 (W' := x1) (by rw [hx1, HZ23.out])
        rw [hgx] at hnew
        refine nop_value' 11 (v := ptrV gx) (w' := x1) rfl (by rfl) rfl (by rw [hx1, ← hgx]; go_simp) ?_
        have HDx1 := hid (HDv0.out.later (by rw [hgx]; exact hnew.1))
        have HXx1 := hid hnew.2
        clear hnew hx1 hgx
        refine ⟨HDx1.out.hd, ?_⟩
        simp only [List.setIfInBounds_toArray, List.set_cons_zero, List.set_cons_succ]
        refine nany_one 3 (by kernel_rfl) ?_
        refine nop_callE 49 (f := 10) (args := #[n64 j]) (R := fun v w' => v = .string (strOfNums (nmL j)) ∧ Below x1.heap.size x1 w') rfl (by rfl) rfl (by go_simp) ((name_any x1 j HJ60.out).mono (fun e w' h => ⟨_, h.1, rfl, h.2⟩)) ?_
        rintro v x2 ⟨rfl, hbx2⟩
        have HDx2 := hid (HDx1.out.later hbx2)
        have HXx2 := hid (HXx1.out.later hbx2)
        clear hbx2
        refine ⟨HDx2.out.hd, ?_⟩
        simp only [List.setIfInBounds_toArray, List.set_cons_zero, List.set_cons_succ]
        refine nany_one 6 (by kernel_rfl) ?_
        refine nop_callE 52 (f := 9) (args := #[ptrV pv, .agg X, .string (strOfNums (nmL j)), n64 (50 + (j : Int))]) (R := fun v w' => ∃ X' S', v = .tuple #[.agg X', n64 P, .nilIface] ∧ Dl w0 w' pv S' T (j + 1) (Lm (j + 1)) X' X d2 t4 C ∧ Kp S x2 S' w') rfl (by rfl) rfl (by go_simp) ((HDx2.out.add HG0.out HE0.out HJ60.out).mono (fun e w' h => by obtain ⟨X', S', h1, h2⟩ := h; rw [HP.out] at h1; exact ⟨_, h1, X', S', rfl, h2⟩)) ?_
        rintro v x3 ⟨X', S', rfl, hdx3, hKx3⟩
        have HDx3 := hid hdx3
        have HXx3 := hid (HXx2.out.call hKx3)
        clear hdx3 hKx3
        refine ⟨HDx3.out.hd, ?_⟩
        simp only [List.setIfInBounds_toArray, List.set_cons_zero, List.set_cons_succ]
        refine nany_take 7 45 (.tuple #[.agg X', n64 P, .nilIface]) rfl rfl (by kernel_rfl) (by kernel_rfl) (by kernel_rfl) (fun _ _ _ h => h) (Or.inl ⟨by rfl, ?_⟩) HDx3.out.hd ?_
        · rintro w' hS'
          go_simp
        simp only [List.setIfInBounds_toArray, List.set_cons_zero, List.set_cons_succ]
        refine nany_take 8 53 (.agg X') rfl rfl (by kernel_rfl) (by kernel_rfl) (by kernel_rfl) (fun _ _ _ h => h) (Or.inl ⟨by rfl, ?_⟩) HDx3.out.hd ?_
        · rintro w' hS'
          go_simp
        simp only [List.setIfInBounds_toArray, List.set_cons_zero, List.set_cons_succ]
        refine nany_take 9 54 (n64 P) rfl rfl (by kernel_rfl) (by kernel_rfl) (by kernel_rfl) (fun _ _ _ h => h) (Or.inl ⟨by rfl, ?_⟩) HDx3.out.hd ?_
        · rintro w' hS'
          go_simp
        simp only [List.setIfInBounds_toArray, List.set_cons_zero, List.set_cons_succ]
        refine nany_take 10 55 (.nilIface) rfl rfl (by kernel_rfl) (by kernel_rfl) (by kernel_rfl) (fun _ _ _ h => h) (Or.inl ⟨by rfl, ?_⟩) HDx3.out.hd ?_
        · rintro w' hS'
          go_simp
        simp only [List.setIfInBounds_toArray, List.set_cons_zero, List.set_cons_succ]
        obtain ⟨Wx, hWx⟩ : ∃ W, W = x3.setRow gx X' := ⟨_, rfl⟩
        have hsx := HDx3.out.setX HXx3.out X'
        rw [← hWx] at hsx
        have hino := HDx3.out.ino
        refine nany_one 12 (by kernel_rfl) ?_
        refine nop_skip (w' := Wx) rfl (by rfl) rfl (by rw [hWx]; exact ex_store 31 (.tmp 11) (.tmp 53) rfl gx X' rfl rfl 31 z23 HXx3.out.hg (by rw [hino.1]; exact sizeIno) (by rw [hino.1]; exact HZI.out) hino.2) ?_
        refine ⟨hsx.1.hd, ?_⟩
        refine nany_take 13 12 (n64 P) rfl rfl (by kernel_rfl) (by kernel_rfl) (by kernel_rfl) (fun _ _ _ h => h) (Or.inl ⟨by rfl, ?_⟩) hsx.1.hd ?_
        · rintro w' hS'
          go_simp
        simp only [List.setIfInBounds_toArray, List.set_cons_zero, List.set_cons_succ]
        refine nany_take 14 13 (.nilIface) rfl rfl (by kernel_rfl) (by kernel_rfl) (by kernel_rfl) (fun _ _ _ h => h) (Or.inl ⟨by rfl, ?_⟩) hsx.1.hd ?_
        · rintro w' hS'
          go_simp
        simp only [List.setIfInBounds_toArray, List.set_cons_zero, List.set_cons_succ]
        refine wpAnyH_done (by kernel_rfl) ?_ _
        obtain ⟨W9, hW9⟩ : ∃ W, W = Wx.setRow d2 X' := ⟨_, rfl⟩
        have hd9 := hsx.1.setD X'
        rw [← hW9] at hd9
        obtain ⟨W10, hW10⟩ : ∃ W, W = W9.setCell ⟨t4, P, none⟩ (.bool true) := ⟨_, rfl⟩
        have hd10 := hd9.setT P (.bool true)
        rw [← hW10] at hd10
        obtain ⟨vp, hvp⟩ : ∃ v, C[P]? = some v := ⟨_, HTH.out P HPB.out⟩
        have hc9 := cell_of hd9.ht hvp
        have f9 := froz_of hd9.ht P
        have HXG := hid hsx.2.hg
        have HXD := hid hsx.1.hd
        have HI := hid hino
        have HD10 := hid hd10
        have HW9 := hid hW9
        have HW10 := hW10.symm
        have HOX := hid HDv0.out.ino
        clear hsx hino hd9 hd10 hvp hWx hW9 hW10 hS
        go_wp2_with (first | (refine wpList_load_row rfl 31 _ rfl gx rfl 31 _ (0, 0) _ HXG.out Tryz.underlying31 rfl (by rw [HI.out.1]; exact sizeIno) ?_) | (refine wpList_store_row rfl 31 _ _ rfl d2 X' rfl rfl 31 _ HXD.out (by rw [HI.out.1]; exact sizeIno) (by rw [HI.out.1]; exact HOX.out.1) HI.out.2 ?_; rw [← HW9.out]))
        go_roundw
        case rel => exact ⟨j + 1, hlt, by go_num, hid ⟨_, _, _, HD10.out, by have h := HTH.out.add (n := j) (by have := HPB.out; have := HP.out; omega); rw [HPN.out] at h; exact h⟩⟩
        case measure => simp [RowKit.intOf]; omega
    · obtain rfl : n = j := by omega
      clear hlt hj HD6
      rename World => V1
      go_upto_block 2 with fail
      go_cut [14, 15] (fun a b wx => Hid (∃ S X C L k, Dl w0 wx pv S T k L X X d2 t4 C ∧ Th C L ∧ L.length = n + 2))
      case first =>
        go_wp2
        go_loopw [14] (fun z wr => ∃ i2 : Nat, i2 ≤ gl ∧ i2 ≤ 30 ∧ z = n64 i2 ∧ Hid (∃ S X C L k, Dl w0 wr pv S T k L X X d2 t4 C ∧ Th C L ∧ L.length = n + 2 ∧ k ≤ n + i2)) (fun z _ => 30 - (RowKit.intOf z).toNat)
        case atStart => exact ⟨0, Nat.zero_le _, by omega, rfl, hid (by obtain ⟨S, X, C, h1, h2⟩ := hinv.out; exact ⟨S, X, C, _, _, h1, h2, Lm_len _, by omega⟩)⟩
        case round =>
          clear hinv
          obtain ⟨i2, hi2g, hi30, rfl, hinv⟩ := hrel
          by_cases hc : i2 < gl ∧ i2 < 30 ∧ 0 < n
          · skip
            obtain ⟨S, X, C, L, k, hdl, hth, hL, hk⟩ := hinv.out
            have hBw := HB0.out.trans (hdl.ds.below.mono HB0.out.size)
            obtain ⟨bg, og, rfl, hcg⟩ := (HGS.out.later hBw) i2 (by rw [HGL.out]; exact hc.1)
            generalize gs.getD i2 0 = gx0 at *
            have hq := wi_bd gx0 n (by omega)
            obtain ⟨q, hqe⟩ : ∃ q : Nat, wi gx0 n = q := Int.eq_ofNat_of_zero_le hq.1
            have HWI := hid (fun W => within11 gx0 n (by omega) (by have := HN60.out; omega) W)
            rw [hqe] at HWI hq
            obtain ⟨p, hpd⟩ : ∃ p : Nat, p = 2 + q := ⟨_, rfl⟩
            have HPB := hid (show 2 ≤ p ∧ p < n + 2 ∧ p < 62 by have := HN60.out; omega)
            have hw2 : 2 + (q : Int) = (p : Int) := by omega
            have hw3 : IntKind.i64.wrap (p : Int) = (p : Int) := IntWalk.i64_in _ (by have := HPB.out; omega)
            have hPi : (p : Int) < 62 := by have := HPB.out; omega
            have hi1 : (i2 : Int) < gl := by omega
            have hi2 : (i2 : Int) < 30 := by omega
            have hi3 : (0 : Int) < n := by omega
            have HTH := hid hth
            have HDwr := hid hdl
            have HLL := hid hL
            have HK := hid (show k ≤ 300 ∧ k ≤ n + i2 by have := HN60.out; omega)
            have HI2 := hid hc
            clear hdl hth hinv hL hk hBw hq hqe hpd hc
            go_upto_region 22 with (go_at_call 7; refine (HWI.out wr).mono ?_; rintro e w9 ⟨rfl, hw9⟩; obtain rfl : wr = w9 := hw9.symm; clear HWI)
            clear hcg
            try simp only [Act.put]
            obtain ⟨b, hb⟩ : ∃ b, b = decide ((L.getD p noLn).i ≠ 0) := ⟨_, rfl⟩
            have hcb := cell_of HDwr.out.ht (HTH.out p HPB.out.2.2)
            rw [← hb] at hcb
            have HBB := hid hb
            refine wp_region_held_drew (S := fun W => W.heap[d2]? = some (.cells X 31 (0, 0)) ∧ W.cell? ⟨t4, p, none⟩ = some (.bool b)) (by kernel_rfl) ⟨HDwr.out.hd, hcb⟩ (fun hS => ?_)
            obtain ⟨v0, hv0⟩ : ∃ W, W = wr.drew := ⟨_, rfl⟩
            rw [← hv0]
            rw [← hv0] at hS
            have HDv0 := hid (show Dl w0 v0 pv S T k L X X d2 t4 C by rw [hv0]; exact HDwr.out.later ((Below.refl _ _).drew))
            clear hv0 hcb hb
            refine nany_take 0 89 (.slice (some ⟨t4, 0, none⟩) 62 62) rfl rfl (by kernel_rfl) (by kernel_rfl) (by kernel_rfl) (fun _ _ _ h => h) (Or.inl ⟨by rfl, ?_⟩) hS ?_
            · rintro w' hS'
              go_simp
            simp only [List.setIfInBounds_toArray, List.set_cons_zero, List.set_cons_succ]
            refine nany_take 1 90 (n64 p) rfl rfl (by kernel_rfl) (by kernel_rfl) (by kernel_rfl) (fun _ _ _ h => h) (Or.inl ⟨by rfl, ?_⟩) hS ?_
            · rintro w' hS'
              go_simp
            simp only [List.setIfInBounds_toArray, List.set_cons_zero, List.set_cons_succ]
            refine nany_take 2 91 (.pointer (some ⟨t4, p, none⟩)) rfl rfl (by kernel_rfl) (by kernel_rfl) (by kernel_rfl) (fun _ _ _ h => h) (Or.inl ⟨by rfl, ?_⟩) hS ?_
            · rintro w' hS'
              go_simp
            simp only [List.setIfInBounds_toArray, List.set_cons_zero, List.set_cons_succ]
            refine nany_take 3 92 (.bool b) rfl rfl (by kernel_rfl) (by kernel_rfl) (by kernel_rfl) (fun _ _ _ h => h) (Or.inl ⟨by rfl, ?_⟩) hS ?_
            · rintro w' hS'
              have hcc := hS'.2; go_simp
            simp only [List.setIfInBounds_toArray, List.set_cons_zero, List.set_cons_succ]
            refine nany_take 4 93 (ptrV pv) rfl rfl (by kernel_rfl) (by kernel_rfl) (by kernel_rfl) (fun _ _ _ h => h) (Or.inl ⟨by rfl, ?_⟩) hS ?_
            · rintro w' hS'
              go_simp
            simp only [List.setIfInBounds_toArray, List.set_cons_zero, List.set_cons_succ]
            refine nany_take 5 94 (.agg X) rfl rfl (by kernel_rfl) (by kernel_rfl) (by kernel_rfl) (fun _ _ _ h => h) (Or.inl ⟨by rfl, ?_⟩) hS ?_
            · rintro w' hS'
              exact ex_load 31 (.tmp 8) rfl d2 rfl 31 X (0, 0) _ hS'.1 Tryz.underlying31 (by rw [HDv0.out.ino.1]; exact sizeIno)
            simp only [List.setIfInBounds_toArray, List.set_cons_zero, List.set_cons_succ]
            refine nany_take 6 95 (n64 p) rfl rfl (by kernel_rfl) (by kernel_rfl) (by kernel_rfl) (fun _ _ _ h => h) (Or.inl ⟨by rfl, ?_⟩) hS ?_
            · rintro w' hS'
              go_simp
            simp only [List.setIfInBounds_toArray, List.set_cons_zero, List.set_cons_succ]
            by_cases h0 : (L.getD p noLn).i ≠ 0
            · have hbt : b = true := by rw [HBB.out]; exact decide_eq_true h0
              subst hbt
              refine nany_one 7 (by kernel_rfl) ?_
              refine nop_callE 96 (f := 8) (args := #[ptrV pv, .agg X, n64 p]) (R := fun v w' => ∃ S', v = .nilIface ∧ Dl w0 w' pv S' T (k + 1) (L.set p noLn) X X d2 t4 C) rfl (by rfl) rfl (by go_simp) ((HDv0.out.take HG0.out HK.out.1 p HPB.out.1 (by rw [HLL.out]; exact HPB.out.2.1) h0).mono (fun e w' h => by obtain ⟨S', h1, h2⟩ := h; exact ⟨_, h1, S', rfl, h2⟩)) ?_
              rintro v v1 ⟨S', rfl, hdv1⟩
              have HDv1 := hid hdv1
              have hs1 : v1.heap[d2]? = some (.cells X 31 (0, 0)) ∧ v1.cell? ⟨t4, p, none⟩ = some (.bool true) := ⟨hdv1.hd, by have := cell_of hdv1.ht (HTH.out p HPB.out.2.2); rw [← HBB.out] at this; exact this⟩
              refine ⟨hs1, ?_⟩
              simp only [List.setIfInBounds_toArray, List.set_cons_zero, List.set_cons_succ]
              refine nany_take 8 97 (.bool true) rfl rfl (by kernel_rfl) (by kernel_rfl) (by kernel_rfl) (fun _ _ _ h => h) (Or.inl ⟨by rfl, ?_⟩) hs1 ?_
              · rintro w' hS'
                go_simp
              simp only [List.setIfInBounds_toArray, List.set_cons_zero, List.set_cons_succ]
              refine nany_take 9 98 (.bool false) rfl rfl (by kernel_rfl) (by kernel_rfl) (by kernel_rfl) (fun _ _ _ h => h) (Or.inl ⟨by rfl, ?_⟩) hs1 ?_
              · rintro w' hS'
                go_simp
              simp only [List.setIfInBounds_toArray, List.set_cons_zero, List.set_cons_succ]
              refine wpAnyH_done (by kernel_rfl) ?_ _
              clear hs1 hdv1
              obtain ⟨W9, hW9⟩ : ∃ W, W = v1.setCell ⟨t4, p, none⟩ (.bool false) := ⟨_, rfl⟩
              have hd9 := HDv1.out.setT p (.bool false)
              rw [← hW9] at hd9
              have HD9 := hid hd9
              have c9 := cell_of HDv1.out.ht (HTH.out p HPB.out.2.2)
              have f9 := froz_of HDv1.out.ht p
              have HW9 := hW9.symm
              clear hd9 hW9 hS
              go_wp2
              go_roundw
              case rel => exact ⟨i2 + 1, by have := HI2.out; omega, by have := HI2.out; omega, by go_num, hid ⟨S', X, _, L.set p noLn, k + 1, HD9.out, HTH.out.take p HPB.out.2.2 (by rw [HLL.out]; exact HPB.out.2.1), by rw [List.length_set]; exact HLL.out, by have := HK.out; omega⟩⟩
              case measure => simp [RowKit.intOf]; have := HI2.out; omega
            · have h0 : (L.getD p noLn).i = 0 := Classical.byContradiction h0
              have hbt : b = false := by rw [HBB.out]; exact decide_eq_false (not_not_intro h0)
              subst hbt
              refine nany_one 7 (by kernel_rfl) ?_
              refine nop_callE 96 (f := 8) (args := #[ptrV pv, .agg X, n64 p]) (R := fun v w' => v = .iface 57 (n64 2) ∧ Dl w0 w' pv S T k L X X d2 t4 C) rfl (by rfl) rfl (by go_simp) ((HDv0.out.takeNone p HPB.out.1 (by rw [HLL.out]; exact HPB.out.2.1) h0).mono (fun e w' h => ⟨_, h.1, rfl, h.2⟩)) ?_
              rintro v v1 ⟨rfl, hdv1⟩
              have HDv1 := hid hdv1
              have hs1 : v1.heap[d2]? = some (.cells X 31 (0, 0)) ∧ v1.cell? ⟨t4, p, none⟩ = some (.bool false) := ⟨hdv1.hd, by have := cell_of hdv1.ht (HTH.out p HPB.out.2.2); rw [← HBB.out] at this; exact this⟩
              refine ⟨hs1, ?_⟩
              simp only [List.setIfInBounds_toArray, List.set_cons_zero, List.set_cons_succ]
              refine nany_take 8 97 (.bool false) rfl rfl (by kernel_rfl) (by kernel_rfl) (by kernel_rfl) (fun _ _ _ h => h) (Or.inl ⟨by rfl, ?_⟩) hs1 ?_
              · rintro w' hS'
                go_simp
              simp only [List.setIfInBounds_toArray, List.set_cons_zero, List.set_cons_succ]
              refine nany_take 9 98 (.bool false) rfl rfl (by kernel_rfl) (by kernel_rfl) (by kernel_rfl) (fun _ _ _ h => h) (Or.inl ⟨by rfl, ?_⟩) hs1 ?_
              · rintro w' hS'
                go_simp
              simp only [List.setIfInBounds_toArray, List.set_cons_zero, List.set_cons_succ]
              refine wpAnyH_done (by kernel_rfl) ?_ _
              clear hs1 hdv1
              obtain ⟨W9, hW9⟩ : ∃ W, W = v1.setCell ⟨t4, p, none⟩ (.bool false) := ⟨_, rfl⟩
              have hd9 := HDv1.out.setT p (.bool false)
              rw [← hW9] at hd9
              have HD9 := hid hd9
              have c9 := cell_of HDv1.out.ht (HTH.out p HPB.out.2.2)
              have f9 := froz_of HDv1.out.ht p
              have HW9 := hW9.symm
              clear hd9 hW9 hS
              go_wp2
              go_roundw
              case rel => exact ⟨i2 + 1, by have := HI2.out; omega, by have := HI2.out; omega, by go_num, hid ⟨S, X, _, L, k, HD9.out, HTH.out.free p HPB.out.2.2 h0, by exact HLL.out, by have := HK.out; omega⟩⟩
              case measure => simp [RowKit.intOf]; have := HI2.out; omega
          · have HOUT := hid (by obtain ⟨S, X, C, L, k, h1, h2, h3, h4⟩ := hinv.out; exact hid (⟨S, X, C, L, k, h1, h2, h3⟩ : ∃ S X C L k, Dl w0 wr pv S T k L X X d2 t4 C ∧ Th C L ∧ L.length = n + 2))
            clear hinv
            by_cases h1 : i2 < gl
            · have h1i : (i2 : Int) < gl := by omega
              by_cases h2 : i2 < 30
              · have h2i : (i2 : Int) < 30 := by omega
                have h3i : ¬ (0 : Int) < n := by omega
                go_wp2
                go_meet
                case rel => exact HOUT.out
              · have h2i : ¬ (i2 : Int) < 30 := by omega
                go_wp2
                go_meet
                case rel => exact HOUT.out
            · have h1i : ¬ (i2 : Int) < gl := by omega
              go_wp2
              go_meet
              case rel => exact HOUT.out
      case rest =>
        clear hinv HGS HGL
        obtain ⟨S, X, C, L, k, hdl, hth, hL⟩ := hcut.out
        have HDwc := hid hdl
        have HTH := hid hth
        have HL := hid hL
        have HMP := hid (show (n : Int) + 2 < 62 by have := HN60.out; omega)
        clear hdl hth hL hcut
        go_wp2
        go_loopw [16, 17, 18] (fun a b c wr => ∃ pl t : Nat, t ≤ pl ∧ pl ≤ n + 2 ∧ a = n64 pl ∧ b = n64 pl ∧ c = n64 t ∧ Hid (Dl w0 wr pv S T k L X X d2 t4 C)) (fun a b c _ => 80 - (RowKit.intOf c).toNat)
        case atStart => exact ⟨0, 0, Nat.le_refl _, Nat.zero_le _, rfl, rfl, rfl, hid HDwc.out⟩
        case round =>
          obtain ⟨pl, t, htp, hpn, rfl, rfl, rfl, hinv⟩ := hrel
          clear HDwc
          have HPN := hid (show t ≤ pl ∧ pl ≤ n + 2 ∧ n < 60 from ⟨htp, hpn, HN60.out⟩)
          have hti : (t : Int) < 80 := by have := HPN.out; omega
          have hti2 : IntKind.i64.wrap ((t : Int) + 1) = ((t + 1 : Nat) : Int) := IntWalk.i64_in _ (by have := HPN.out; omega)
          obtain ⟨R, hR⟩ : ∃ R, tolds pl (L.drop pl) = R := ⟨_, rfl⟩
          obtain ⟨q, hq⟩ : ∃ q, (R.take m).length = q := ⟨_, rfl⟩
          have HLI := hid (hinv.out.list HE0.out pl m (by have := HPN.out; omega) HM.out.1 (by have := HM.out; omega) (R.take m) (by rw [hR]) q hq)
          have HDr := hid hinv.out
          have HR := hid hR
          have HQ := hid hq
          have hqm : (q : Int) ≤ m := by have := List.length_take_le m R; omega
          have HQM := hid (show q ≤ m ∧ q ≤ R.length by have h1 := List.length_take_le m R; have h2 := List.length_take_le' m R; omega)
          clear hinv hR hq htp hpn
          go_upto_region 30 with (first
            | (refine wpList_load_row rfl 31 _ rfl d2 rfl 31 _ (0, 0) _ HDr.out.hd Tryz.underlying31 rfl (by rw [HDr.out.ino.1]; exact sizeIno) ?_)
            | (go_at_call 13; refine HLI.out.mono ?_; rintro e w5 ⟨la, lc, rfl, hd5, ho5⟩))
          have HD5 := hid hd5
          have HO5 := hid ho5
          clear hd5 ho5 HLI HDr
          by_cases hq0 : q = 0
          · subst hq0
            have HNO := hid (tolds_none (show tolds pl (L.drop pl) = [] by rw [HR.out]; have h1 := HQ.out; have h2 := HM.out.1; rw [List.length_take] at h1; exact List.length_eq_zero_iff.1 (by omega)))
            go_wp2
            go_loopw [17] (fun b wr => ∃ pp : Nat, pl ≤ pp ∧ pp ≤ 62 ∧ b = n64 pp ∧ w5 = wr) (fun b _ => 62 - (RowKit.intOf b).toNat)
            case atStart => exact ⟨pl, Nat.le_refl _, by have := HPN.out; omega, rfl, rfl⟩
            case round =>
              obtain ⟨pp, hpp, hp62, rfl, rfl⟩ := hrel
              by_cases hlt : pp < 62
              · have hlti : (pp : Int) < 62 := by omega
                have hcp := cell_of HD5.out.ht (HTH.out pp hlt)
                rw [decide_eq_false (not_not_intro (HNO.out pp hpp))] at hcp
                go_wp2
                go_roundw
                case rel => exact ⟨pp + 1, by omega, by omega, by go_num, by trivial⟩
                case measure => simp [RowKit.intOf]; omega
              · obtain rfl : pp = 62 := by omega
                go_wp2
                go_ret
                exact ⟨by simp, HB0.out.trans (HD5.out.ds.below.mono HB0.out.size)⟩
          · skip
            have hq0i : ¬ (q : Int) = 0 := by omega
            obtain ⟨lg, lcp, hle, _, _, _, _, hlc, _⟩ := owns_cells HO5.out (by omega)
            injection hle with hla _ hlcc
            subst hla
            subst hlcc
            have HLC := hid hlc
            have HQ0 := hid hq0
            clear hlc
            go_wp2
            go_loopw [17, 21] (fun b c wr => ∃ pp i : Nat, pl + i ≤ pp ∧ pp ≤ n + 2 ∧ i ≤ q ∧ b = n64 pp ∧ c = n64 i ∧ w5 = wr ∧ Hid (tolds pp (L.drop pp) = R.drop i) ∧ Hid (i = 0 ∨ w5.cell? ⟨lg, (i - 1) * 3, none⟩ = some (n64 ((pp - 1 : Nat) : Int)))) (fun b c _ => q - (RowKit.intOf c).toNat)
            case atStart => exact ⟨pl, 0, by omega, HPN.out.2.1, Nat.zero_le _, rfl, rfl, rfl, hid HR.out, hid (.inl rfl)⟩
            case round =>
              obtain ⟨pp, i, hpi, hpn, hiq, rfl, rfl, rfl, htl, hlast⟩ := hrel
              by_cases hlt : i < q
              · have hlti : (i : Int) < q := by omega
                obtain ⟨p, hp1, hp2, hp3, hp4, hp5, hp6⟩ := tolds_step htl.out (show i < R.length by have := HQM.out; omega)
                have hcl := HLC.out (i * 3) _ (cellsLn_get _ i _ (show (R.take m)[i]? = some (L.getD p noLn, p) by rw [List.getElem?_take_of_lt (by have := HQM.out; omega)]; exact hp5))
                have HCL := hid hcl
                have HP6 := hid hp6
                have HP3 := hid hp3
                have HP4 := hid hp4
                have HPL := hid (show p < n + 2 ∧ p < 62 by rw [HL.out] at hp2; have := HPN.out; omega)
                clear hp2 hp3 hp4 hp5 hp6 htl hlast hcl
                go_wp2
                go_loopw [17] (fun b wr => ∃ s : Nat, pp ≤ s ∧ s ≤ p ∧ b = n64 s ∧ w5 = wr) (fun b _ => 62 - (RowKit.intOf b).toNat)
                case atStart => exact ⟨pp, Nat.le_refl _, hp1, rfl, rfl⟩
                case round =>
                  obtain ⟨s, hs1, hs2, rfl, rfl⟩ := hrel
                  have hsi : (s : Int) < 62 := by have := HPL.out; omega
                  have hcp := cell_of HD5.out.ht (HTH.out s (by have := HPL.out; omega))
                  by_cases hsp : s < p
                  · rw [decide_eq_false (not_not_intro (HP4.out s hs1 hsp))] at hcp
                    go_wp2
                    go_roundw
                    case rel => exact ⟨s + 1, by omega, by omega, by go_num, by trivial⟩
                    case measure => simp [RowKit.intOf]; omega
                  · obtain rfl : s = p := by omega
                    rw [decide_eq_true HP3.out] at hcp
                    have hcl := HCL.out
                    go_wp2
                    go_roundw
                    case rel => exact ⟨s + 1, i + 1, by omega, by have := HPL.out; omega, by omega, by go_num, by go_num, by trivial, hid HP6.out, hid (.inr HCL.out)⟩
                    case measure => simp [RowKit.intOf]; omega
              · obtain rfl : i = q := by omega
                have hcl := hlast.out.resolve_left HQ0.out
                obtain ⟨q1, hq1⟩ : ∃ q1 : Nat, i = q1 + 1 := ⟨i - 1, by have := HQ0.out; omega⟩
                obtain ⟨p1, hp1⟩ : ∃ p1 : Nat, pp = p1 + 1 := ⟨pp - 1, by omega⟩
                have HPQ := hid (show pl + i ≤ pp ∧ pp ≤ n + 2 ∧ n < 60 from ⟨hpi, hpn, HN60.out⟩)
                rw [hq1, hp1] at hcl
                simp only [Nat.add_sub_cancel] at hcl
                have hlm : (i : Int) - 1 = (q1 : Int) := by omega
                have hlm2 : IntKind.i64.wrap (q1 : Int) = (q1 : Int) := IntWalk.i64_in _ (by have := HQM.out; have := HM.out; omega)
                have hql : (q1 : Int) < i := by omega
                have hpl : IntKind.i64.wrap ((p1 : Int) + 1) = (pp : Int) := by rw [hp1]; exact IntWalk.i64_in _ (by have := HPQ.out; omega)
                have HPP := hid hp1
                clear hlast hpi hpn hiq hp1 hlt
                go_wp2
                go_roundw
                case rel => exact ⟨pp, t + 1, by have := HPQ.out; have := HPN.out; have := HQ0.out; omega, HPQ.out.2.1, by go_num, rfl, by go_num, hid HD5.out⟩
                case measure => simp [RowKit.intOf]; have := HPN.out; omega
end Go.Proofs.YtaplmlldmhdhoaaGreatDoor
