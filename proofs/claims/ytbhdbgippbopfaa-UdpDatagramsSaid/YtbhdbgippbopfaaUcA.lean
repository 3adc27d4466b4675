/- The document's High, be and sum. -/
import Derived.Test.YtbhdbgippbopfaaUbA
namespace Go.Proofs.Ytbhdbgippbopfaa
open Go.RowKit Go.Maps
set_option linter.unusedVariables false
set_option maxRecDepth 100000 in
set_option maxHeartbeats 1000000 in
theorem High_any (w : World) (B : Nat) (v : Value) (l : List Int) (h : Gr w B v l) (hB : B ≤ w.heap.size) (n : Nat) (N x : Int) (hN : N = n) (hn : 0 < n ∧ n ≤ 8) (h0 : 0 ≤ x) (h1 : x < 18446744073709551616) (hl : l.length ≤ 800000) :
    Calls Try.prog 21 #[v, .int .i64 N, .int .u64 x] w fun e w' => ∃ a c, e = .returned (.slice a (l.length + n) c) ∧ GO w' B (.slice a (l.length + n) c) (l ++ bytesBe n x) ∧ Below B w w' ∧ Mods (fun b => v.ownBlock = some b) w w' := by
  obtain ⟨a0, c0, rfl⟩ := h.slice
  have HG := hid h
  have hn8 : n ≤ 8 := by omega
  subst hN
  clear h
  have hw0 : IntKind.i64.wrap ((n : Int) - 1) = (n : Int) - 1 := IntWalk.i64_in _ (by omega)
  go_enter Try.func21, Try.ntmps21
  go_wp2
  go_loopw [0, 7] (fun u z wr => ∃ (j : Nat) (kz : Int), j ≤ n ∧ kz = (n : Int) - 1 - j ∧ z = .int .i64 kz ∧ Gr wr B u (l ++ (bytesBe n x).take j) ∧ (0 < j → wr.ownsRow B 5 1 u (l.length + j) (u8s (l ++ (bytesBe n x).take j))) ∧ (Mods (fun b => (Value.slice a0 l.length c0).ownBlock = some b) w wr ∧ (u.ownBlock = (Value.slice a0 l.length c0).ownBlock ∨ ∃ g, w.heap.size ≤ g ∧ u.ownBlock = some g)) ∧ Below B w wr ∧ B ≤ wr.heap.size) (fun _ z _ => (RowKit.intOf z + 1).toNat)
  case atStart => exact ⟨0, (n : Int) - 1, Nat.zero_le _, by omega, rfl, by simpa using HG.out, fun h => by omega, ⟨Mods.refl _ _, .inl rfl⟩, Below.refl _ _, hB⟩
  case round =>
    obtain ⟨j, kz, hj, hkz, rfl, hg, how, hmd, hb, hBr⟩ := hrel
    have HMD := hid hmd
    clear hmd
    have hlk : (l ++ (bytesBe n x).take j).length = l.length + j := by rw [List.length_append, List.length_take, len_be, Nat.min_eq_left hj]
    obtain ⟨a1, c1, e1⟩ := hg.slice
    rw [hlk] at e1
    subst e1
    have HG1 := hid hg
    have HOW := hid how
    have HB := hid hb
    have HLK := hid hlk
    clear hg how hb hlk
    by_cases hlt : j < n
    · obtain ⟨k, rfl⟩ : ∃ k : Nat, kz = k := ⟨n - 1 - j, by omega⟩
      have HKJ : Hid (k = n - 1 - j) := hid (by omega)
      have hk8 : k < 8 := by omega
      have hk0 : (0 : Int) ≤ k := by omega
      have HBT := hid (take_be n x j hlt)
      obtain ⟨y, hy⟩ : ∃ y, y = x / 2 ^ (8 * k) % 256 := ⟨_, rfl⟩
      rw [← HKJ.out, ← pow256, ← hy] at HBT
      have hyB : IsB y := by unfold IsB; omega
      obtain ⟨W1, hW1⟩ : ∃ W1, W1 = wr.alloc (.cells #[.int .u8 y] 5) := ⟨_, rfl⟩
      have hb1 : Below wr.heap.size wr W1 := by rw [hW1]; exact (Below.refl _ _).alloc (Nat.le_refl _) _
      have hc1 : W1.cell? ⟨wr.heap.size, 0, none⟩ = some (.int .u8 y) := by rw [hW1, new_cell _ _ _ _ 0 (by simp)]; rfl
      obtain ⟨a2, c2, w2, hap, hg2, ho2, hb2, hm2, hob2⟩ := (HG1.out.later hb1).push (Nat.le_trans hBr hb1.size) [y] (by simpa using hyB) (by simp) ⟨wr.heap.size, 0, none⟩ 1 1 rfl (fun i u hi => by
        have hi2 : i < 1 := (List.getElem?_eq_some_iff.1 hi).1
        obtain rfl : i = 0 := by omega
        rw [add_addr, hc1]; simpa using hi) (by rw [HLK.out]; omega) 23
      rw [HLK.out] at hap hg2 ho2
      rw [List.append_assoc, ← HBT.out] at hg2 ho2
      have HG2 := hid hg2
      have HO2 := hid ho2
      have HB2 : Hid (Below B w w2) := hid ((HB.out.trans (hb1.mono hBr)).trans hb2)
      have HS2 : Hid (B ≤ w2.heap.size) := hid (Nat.le_trans (Nat.le_trans hBr hb1.size) hb2.size)
      have HM2 := hid (show Mods (fun b => (Value.slice a0 l.length c0).ownBlock = some b) w w2 ∧ ((Value.slice a2 (l.length + j + 1) c2).ownBlock = (Value.slice a0 l.length c0).ownBlock ∨ ∃ g, w.heap.size ≤ g ∧ (Value.slice a2 (l.length + j + 1) c2).ownBlock = some g) from by
        rw [HLK.out] at hob2
        refine ⟨(HMD.out.1.below hb1).trans hm2 (fun b hb => ?_), ?_⟩
        · rcases HMD.out.2 with e | ⟨gg, h1, e⟩
          · exact .inl (by rw [← e]; exact hb)
          · exact .inr (by rw [e] at hb; simp at hb; omega)
        · rcases hob2 with e | ⟨gg, h1, e⟩
          · rcases HMD.out.2 with e' | ⟨gg, h1, e'⟩
            · exact .inl (e.trans e')
            · exact .inr ⟨gg, h1, e.trans e'⟩
          · exact .inr ⟨gg, Nat.le_trans (Nat.le_trans HMD.out.1.size hb1.size) h1, e⟩)
      have HKZ := hid hkz
      clear hb1 hc1 hg2 ho2 hb2 hkz hm2 hob2
      have hWW : W1 = wr.alloc (.cells #[.int .u8 (x / 2 ^ (8 * k) % 256)] 5) := by rw [hW1, hy]
      clear hW1 hy
      go_wp2_with (at_builtin; rw [← hWW]; refine wpList_append_run rfl _ _ 23 rfl rfl rfl hap ?_)
      go_roundw
      case rel => exact ⟨j + 1, (k : Int) - 1, by omega, by have := HKZ.out; omega, by go_num, HG2.out, fun _ => HO2.out, HM2.out, HB2.out, HS2.out⟩
      case measure => first | (simp [RowKit.intOf]; done) | (simp [RowKit.intOf]; omega)
    · have hki : ¬ ((0 : Int) ≤ kz) := by omega
      obtain rfl : j = n := by omega
      clear hkz
      go_wp2
      go_ret
      have e : (bytesBe j x).take j = bytesBe j x := List.take_of_length_le (by rw [len_be]; exact Nat.le_refl _)
      have g1 := HG1.out
      have g2 := HOW.out (by omega)
      rw [e] at g1 g2
      exact ⟨a1, c1, rfl, ⟨g1.1, by rw [List.length_append, len_be]; exact g2⟩, HB.out, HMD.out.1⟩
/-- High, at a row of one's own. -/
theorem High_go (w : World) (B : Nat) (a : Option Addr) (k c : Nat) (l : List Int) (h : GO w B (.slice a k c) l) (hk : l.length = k) (hB : B ≤ w.heap.size) (n : Nat) (hn : 0 < n ∧ n ≤ 8) (x : Int) (h0 : 0 ≤ x) (h1 : x < 18446744073709551616) (hl : k ≤ 800000) (N : Int) (hN : N = n) (r : Nat) (hr : k + n = r) :
    Calls Try.prog 21 #[.slice a k c, .int .i64 N, .int .u64 x] w fun e w' => ∃ a2 c2, e = .returned (.slice a2 r c2) ∧ GO w' B (.slice a2 r c2) (l ++ bytesBe n x) ∧ Below B w w' ∧ Mods (fun b => (Value.slice a k c).ownBlock = some b) w w' := by
  subst hk hr
  exact High_any w B _ l h.gr hB n N x hN hn h0 h1 (by omega)
theorem two_at (l : List Int) (k : Nat) (hk : k + 2 ≤ l.length) : beOf ((l.drop k).take 2) = 256 * l.getD k 0 + l.getD (k + 1) 0 := by
  have e : (l.drop k).take 2 = [l[k], l[k + 1]] := by rw [List.drop_eq_getElem_cons (by omega), List.drop_eq_getElem_cons (by omega)]; rfl
  rw [e]
  have h1 : l.getD k 0 = l[k] := by simp [List.getD, show k < l.length by omega]
  have h2 : l.getD (k + 1) 0 = l[k + 1] := by simp [List.getD, show k + 1 < l.length by omega]
  rw [h1, h2]
  simp [beOf, beOn]; omega
set_option maxRecDepth 100000 in
set_option maxHeartbeats 1000000 in
theorem rbe_in (w : World) (a : Option Addr) (n c : Nat) (l : List Int) (k : Nat) (hn : l.length = n) (hl : n ≤ 900000) (hk : k + 2 ≤ n) (hb : Bytes w a l) (K : Int) (hK : (k : Int) = K) :
    Calls Try.prog 17 #[.slice a n c, .int .i64 K] w fun e w' => e = .returned (.int .i64 (beOf ((l.drop k).take 2))) ∧ Below w.heap.size w w' := by
  rw [two_at l k (by omega)]
  subst hK
  have hx0 := mem_getD l IsB hb.isB k (by omega)
  have hx1 := mem_getD l IsB hb.isB (k + 1) (by omega)
  obtain ⟨b, off, rfl, hcell⟩ := hb.open_ (by omega)
  have c0 := hcell k (by omega)
  have c1 := hcell (k + 1) (by omega)
  generalize l.getD k 0 = x0 at *
  generalize l.getD (k + 1) 0 = x1 at *
  unfold IsB at hx0 hx1
  have hw0 : IntKind.i64.wrap x0 = x0 := IntWalk.i64_in _ (by omega)
  have hw1 : IntKind.i64.wrap x1 = x1 := IntWalk.i64_in _ (by omega)
  have hw2 : IntKind.i64.wrap (256 * x0) = 256 * x0 := IntWalk.i64_in _ (by omega)
  have hw3 : IntKind.i64.wrap (256 * x0 + x1) = 256 * x0 + x1 := IntWalk.i64_in _ (by omega)
  have hwk : IntKind.i64.wrap ((k : Int) + 1) = (k : Int) + 1 := IntWalk.i64_in _ (by omega)
  have hk0 : (k : Int) < n := by omega
  have hk1 : (k : Int) + 1 < n := by omega
  clear hcell hb hn
  go_enter Try.func17, Try.ntmps17
  go_wp2
  go_quiet (fail)
  go_wp2
  go_ret
  exact ⟨rfl, below_drewN (Below.refl _ _) _⟩
theorem app2 (w : World) (B : Nat) (a : Option Addr) (k c : Nat) (l : List Int) (h : GO w B (.slice a k c) l) (hk : l.length = k) (hB : B ≤ w.heap.size) (hl : k ≤ 800000) (x y : Int) (hx : IsB x) (hy : IsB y) (r : Nat) (hr : k + 2 = r) (ty : TypeId) :
    ∃ W1, W1 = w.alloc (.cells #[.int .u8 x, .int .u8 y] 5) ∧ ∃ a2 c2 w2, (Builtin.append_ #[23, 23] ty #[.slice a k c, .slice (some ⟨w.heap.size, 0, none⟩) 2 2]).run Try.prog W1 = .ok (.slice a2 r c2) w2 ∧ GO w2 B (.slice a2 r c2) (l ++ [x, y]) ∧ Below B w w2 := by
  obtain ⟨W1, hW1, b1⟩ := newW w (.cells #[.int .u8 x, .int .u8 y] 5)
  refine ⟨W1, hW1, ?_⟩
  subst hr
  have hg1 : GO W1 B (.slice a k c) l := ⟨h.1, owns_keep h.2 (fun gg hh => b1.block gg (owns_lt h.2 hh).1)⟩
  have hy2 : By W1 (New w) (some ⟨w.heap.size, 0, none⟩) [x, y] := by rw [hW1]; exact by_const w [x, y] (0, 0) (fun z hz => by simp at hz; rcases hz with rfl | rfl; exact hx; exact hy)
  obtain ⟨a2, c2, w2, hap, hg2, hb2⟩ := hg1.push hk (Nat.le_trans hB b1.size) [x, y] (some ⟨w.heap.size, 0, none⟩) 2 2 rfl hy2.bytes (by omega) ty
  exact ⟨a2, c2, w2, hap, hg2, (b1.mono hB).trans hb2⟩
theorem inet_gap (p q r : List Int) (hp : p.length % 2 = 0) (hq : q.length % 2 = 0) : inetL (p ++ q ++ [0, 0] ++ r) = inetL (p ++ (q ++ r)) := by
  unfold inetL
  have e : (p ++ q).length % 2 = 0 := by rw [List.length_append]; omega
  have a1 := wsum_append 0 (p ++ q ++ [0, 0]) r
  have a2 := wsum_append 0 (p ++ q) [0, 0]
  have a3 := wsum_append 0 (p ++ q) r
  have a4 : wsum (0 + (p ++ q).length) [0, 0] = 0 := by simp [wsum]
  have a5 : wsum (0 + (p ++ q ++ [0, 0]).length) r = wsum (0 + (p ++ q).length) r := by
    rw [show 0 + (p ++ q ++ [(0 : Int), 0]).length = 0 + (p ++ q).length + 2 by simp; omega]
    exact wsum_par _ _
  rw [a1, a2, a4, a5, ← List.append_assoc, a3]
  rw [Int.add_zero]
theorem phL_app (s d n : Int) : [] ++ bytesBe 4 s ++ bytesBe 4 d ++ [0, 17] ++ bytesBe 2 n = phL s d n := by
  unfold phL
  simp [outBe]
  have e : bytesBe 2 17 = [0, 17] := by decide
  rw [e]
  rfl
set_option maxRecDepth 100000 in
set_option maxHeartbeats 4000000 in
theorem rsum_any (w : World) (s d : Int) (a : Option Addr) (n c : Nat) (l : List Int) (hs : IsU s) (hd : IsU d) (hn : l.length = n) (h8 : 8 ≤ n) (hl : n ≤ 65535) (hc : n ≤ c) (hb : Bytes w a l) :
    Calls Try.prog 18 #[.int .u32 s, .int .u32 d, .slice a n c] w fun e w' => e = .returned (.int .u16 (udS s d (l.take 6 ++ l.drop 8))) ∧ Below w.heap.size w w' := by
  obtain ⟨U, hU⟩ : ∃ U, U = udS s d (l.take 6 ++ l.drop 8) := ⟨_, rfl⟩
  obtain ⟨I, hI⟩ : ∃ I, I = udI s d (l.take 6 ++ l.drop 8) := ⟨_, rfl⟩
  have hUI : U = if I = 0 then 65535 else I := by rw [hU, hI]; rfl
  have hl6 : (l.take 6).length = 6 := by simp; omega
  have HIP := hid (show inetL (phL s d (n : Int) ++ l.take 6 ++ [0, 0] ++ l.drop 8) = I by
    rw [inet_gap _ _ _ (by rw [phL_len]) (by rw [hl6]), hI]; unfold udI
    have : (2 + ((l.take 6 ++ l.drop 8).length : Int)) = (n : Int) := by rw [List.length_append, hl6, List.length_drop]; omega
    rw [this])
  rw [← hU]
  obtain ⟨a6, hcut6, hcb6⟩ := cut_h a n c 6 (by omega) hc
  obtain ⟨a8, hcut8, hcb8⟩ := cut_l a n c 8 (by omega) hc
  have hcut6' : ∀ W : World, (Instr.slice 23 (.slice a n c) none (some (.int .i64 6)) none).run Try.prog W = .ok (.slice a6 6 c) W := hcut6
  have hcut8' : ∀ W : World, (Instr.slice 23 (.slice a n c) (some (.int .i64 8)) none none).run Try.prog W = .ok (.slice a8 (n - 8) (c - 8)) W := hcut8
  have HD6 := hid (fun (W : World) (hW : Below w.heap.size w W) => hcb6 W l hn (hb.later hW))
  have HD8 := hid (fun (W : World) (hW : Below w.heap.size w W) => hcb8 W l hn (hb.later hW))
  have HL6 := hid hl6
  have HL8 := hid (show (l.drop 8).length = n - 8 by simp; omega)
  unfold IsU at hs hd
  have HRG := hid (show (0 ≤ s ∧ s < 4294967296) ∧ (0 ≤ d ∧ d < 4294967296) ∧ 8 ≤ n ∧ n ≤ 65535 from ⟨hs, hd, by omega, by omega⟩)
  have hw7 : IntKind.u64.wrap s = s := IntWalk.u64_in _ (by omega)
  have hw8 : IntKind.u64.wrap d = d := IntWalk.u64_in _ (by omega)
  have hw9 : IntKind.u64.wrap (n : Int) = n := IntWalk.u64_in _ (by omega)
  have HUI := hid hUI
  obtain ⟨B, hB⟩ : ∃ B, w.heap.size = B := ⟨_, rfl⟩
  have HB0 := hid hB
  have HPH := hid (phL_app s d (n : Int))
  clear hU hI hs hd hUI hn hb hcut6 hcut8 hcb6 hcb8 hl6 hl h8 hc
  have HP1 := hid (High_go w B none 0 0 [] (GO.none _ _) rfl (by rw [HB0.out]; exact Nat.le_refl _) 4 (by omega) s (by have := HRG.out; omega) (by have := HRG.out; omega) (by omega) 4 rfl 4 rfl)
  go_enter Try.func18, Try.ntmps18
  go_upto_region 2 with (first
    | (go_at_call 21; refine HP1.out.mono ?_; rintro e w2 ⟨a2, c2, rfl, hg2, hb2, -⟩; clear HP1; have HB2 := hid hb2; have HP2 := hid (High_go w2 B a2 4 c2 ([] ++ bytesBe 4 s) hg2 (by simp [len_be]) (by rw [← HB0.out]; exact Nat.le_trans (by rw [HB0.out]; exact Nat.le_refl _) hb2.size) 4 (by omega) d (by have := HRG.out; omega) (by have := HRG.out; omega) (by omega) 4 rfl 8 rfl); clear hg2 hb2)
    | (go_at_call 21; refine HP2.out.mono ?_; rintro e w3 ⟨a3, c3, rfl, hg3, hb3, -⟩; clear HP2; have HG3 := hid hg3; have HB3 := hid (HB2.out.trans hb3); clear hg3 hb3))
  have hB3 : B ≤ w3.heap.size := by have := HB3.out.size; have := HB0.out; omega
  obtain ⟨W4, hW4, a5, c5, w5, hap5, hg5, hb5⟩ := app2 w3 B a3 8 c3 _ HG3.out (by simp [len_be]) hB3 (by omega) 0 17 (by unfold IsB; omega) (by unfold IsB; omega) 10 rfl 23
  have HB5 := hid (HB3.out.trans hb5)
  have hB5 : B ≤ w5.heap.size := Nat.le_trans hB3 hb5.size
  have HP5 := hid (High_go w5 B a5 10 c5 _ hg5 (by simp [len_be]) hB5 2 (by omega) (n : Int) (by omega) (by have := HRG.out; omega) (by omega) 2 rfl 12 rfl)
  rw [HPH.out] at HP5
  have HW4 := hW4.symm
  have HS5 := hid hB5
  clear hW4 hg5 hb5 hB3 hB5 HG3
  go_upto_region 3 with (first
    | (at_builtin; refine wpList_append_run rfl _ _ 23 rfl rfl rfl hap5 ?_; clear hap5)
    | (go_at_call 21; refine HP5.out.mono ?_; rintro e w6 ⟨a6', c6, rfl, hg6, hb6, -⟩; have HG6 := hid hg6; have HB6 := hid (HB5.out.trans hb6); have HS6 := hid (Nat.le_trans HS5.out hb6.size); clear hg6 hb6 HP5))
  clear HW4
  have hB6 := HB6.out
  rw [← HB0.out] at hB6
  obtain ⟨a7, c7, w7, hap7, hg7, hb7⟩ := HG6.out.push (phL_len _ _ _) HS6.out (l.take 6) a6 6 c HL6.out (HD6.out w6 hB6) (by omega) 23
  have HB7 := hid (HB6.out.trans hb7)
  have HS7 := hid (Nat.le_trans HS6.out hb7.size)
  have HG7 := hid hg7
  clear hg7 hb7 hB6
  go_upto_region 4 with (at_builtin; refine wpList_append_run rfl _ _ 23 rfl rfl rfl hap7 ?_; clear hap7)
  obtain ⟨W8, hW8, a9, c9, w9, hap9, hg9, hb9⟩ := app2 w7 B a7 18 c7 _ HG7.out (by rw [List.length_append, phL_len, HL6.out]) HS7.out (by omega) 0 0 (by unfold IsB; omega) (by unfold IsB; omega) 20 rfl 23
  have HB9 := hid (HB7.out.trans hb9)
  have HS9 := hid (Nat.le_trans HS7.out hb9.size)
  have HG9 := hid hg9
  have HW8 := hW8.symm
  clear hg9 hb9 hW8
  go_upto_region 5 with (at_builtin; refine wpList_append_run rfl _ _ 23 rfl rfl rfl hap9 ?_; clear hap9)
  clear HW8
  have hB9 := HB9.out
  rw [← HB0.out] at hB9
  obtain ⟨a10, c10, w10, hap10, hg10, hb10⟩ := HG9.out.push (by simp [phL_len, HL6.out]) HS9.out (l.drop 8) a8 (n - 8) (c - 8) HL8.out (HD8.out w9 hB9) (by have := HRG.out; omega) 23
  have HB10 := hid (HB9.out.trans hb10)
  have hlen : (phL s d (n : Int) ++ l.take 6 ++ [0, 0] ++ l.drop 8).length = 20 + (n - 8) := by rw [List.length_append, List.length_append, List.length_append, phL_len, HL6.out, HL8.out]; show 12 + 6 + 2 + (n - 8) = _; omega
  obtain ⟨x3, y3, e3, hc3, hy3⟩ := hg10.by_ (S := fun _ => True) (fun _ _ => trivial)
  rw [hlen] at e3
  simp only [Value.slice.injEq, true_and] at e3
  obtain ⟨rfl, rfl⟩ := e3
  have hIN := refInet_at a10 (20 + (n - 8)) c10 _ w10 hlen (by rw [hlen]; have := HRG.out; omega) hy3.bytes
  have hII : 65535 - inetFold (wsum 0 (phL s d (n : Int) ++ l.take 6 ++ [0, 0] ++ l.drop 8)) = I := HIP.out
  rw [hII] at hIN
  have HIN := hid hIN
  have hui := HUI.out
  clear hg10 hb10 hB9 hlen hc3 hy3 hIN hII HIP
  by_cases k0 : I = 0
  · rw [if_pos k0] at hui
    have k0b : (I == 0) = true := by rw [k0]; rfl
    subst hui
    clear HUI k0
    go_wp2_with (first
      | (at_builtin; refine wpList_append_run rfl _ _ 23 rfl rfl rfl hap10 ?_; clear hap10)
      | (go_at_call 24; refine HIN.out.mono ?_; rintro e w11 ⟨rfl, hw11⟩; obtain rfl : w10 = w11 := hw11.symm))
    go_ret
    have h2 := HB10.out
    first | exact ⟨rfl, h2⟩ | (rw [← HB0.out] at h2; exact ⟨rfl, h2⟩)
  · rw [if_neg k0] at hui
    have k0b : (I == 0) = false := by simp [k0]
    subst hui
    clear HUI k0
    go_wp2_with (first
      | (at_builtin; refine wpList_append_run rfl _ _ 23 rfl rfl rfl hap10 ?_; clear hap10)
      | (go_at_call 24; refine HIN.out.mono ?_; rintro e w11 ⟨rfl, hw11⟩; obtain rfl : w10 = w11 := hw11.symm))
    go_ret
    have h2 := HB10.out
    first | exact ⟨rfl, h2⟩ | (rw [← HB0.out] at h2; exact ⟨rfl, h2⟩)
end Go.Proofs.Ytbhdbgippbopfaa
