/- The key of a call's bytes, as both sides make it. -/
import Derived.Test.YthgmghfegaemkaaDoorQcA
namespace Go.Proofs.YthgmghfegaemkaaDoor
open Go.RowKit Go.Maps
set_option linter.unusedVariables false

theorem Tab.later {w w' : World} (h : Tab w) (hb : Below w.heap.size w w') : Tab w' := fun i hi => cell_later hb (h i hi)
def kZero : Ky := ⟨0, 0, 0, 0, 0⟩
def sumOf (l : List Int) : Int := 4294967295 - crcOn 4294967295 l
/-- The key. -/
def ofK (ip port : Int) (l : List Int) : Ky := if l.length < 24 then kZero else ⟨ip, port, beOf (l.take 4), beOf ((l.drop 20).take 4), sumOf l⟩
def ofC (l : List Int) : Int := if l.length < 24 then 11 else 0
theorem beOut (l : List Int) (k m : Nat) (hw : widB m = true) (hk : l.length < k + m) : rdBe l k m = 0 ∧ rdErr l.length k m = 11 := by
  obtain ⟨e1, _, e2⟩ := rd_out l k m hw (by simp [insB]; omega)
  exact ⟨e2, e1⟩
theorem beIn (l : List Int) (k m : Nat) (hw : widB m = true) (hk : k + m ≤ l.length) : rdBe l k m = beOf ((l.drop k).take m) ∧ rdErr l.length k m = 0 := by
  obtain ⟨e1, _, e2⟩ := rd_yes l k m hw (by simp [insB]; omega)
  exact ⟨e2, e1⟩
theorem be4_bd (l : List Int) (k : Nat) (h : ∀ x ∈ l, IsB x) (hk : k + 4 ≤ l.length) : 0 ≤ beOf ((l.drop k).take 4) ∧ beOf ((l.drop k).take 4) < 4294967296 := by
  have := beOf_bd ((l.drop k).take 4) (fun x hx => h x (List.mem_of_mem_drop (List.mem_of_mem_take hx)))
  rw [show ((l.drop k).take 4).length = 4 by simp; omega] at this
  exact ⟨this.1, by omega⟩
theorem sizeDK : (Tryd.prog.info? 30).map (·.size) = some 5 := by kernel_rfl
set_option maxRecDepth 100000 in
set_option maxHeartbeats 2000000 in
theorem Of_short (w : World) (ip port : Int) (a : Option Addr) (n c : Nat) (l : List Int) (hn : l.length = n) (hnc : n ≤ c) (hm : n ≤ maxLen) (hb : Bytes w a l) (hs : n < 24) :
    Calls Tryd.prog 5 #[.int .u32 ip, .int .i64 port, .slice a n c] w fun e w' => e = .returned (.tuple #[kV kZero, .int .i64 11]) ∧ Below w.heap.size w w' := by
  obtain ⟨g, hg⟩ : ∃ g, w.heap.size = g := ⟨_, rfl⟩
  obtain ⟨W1, hW1⟩ : ∃ W, W = w.alloc (.cells kZ 26) := ⟨_, rfl⟩
  have b1 : Below w.heap.size w W1 := by rw [hW1]; exact below_alloc (Below.refl _ _) (Nat.le_refl _) _
  have h1 : W1.heap[g]? = some (.cells kZ 26 (0, 0)) := by rw [hW1, ← hg]; exact alloc_new w _
  have hbe := numBe_any a c l 20 4 W1 (by omega) (by omega) (hb.later b1)
  obtain ⟨e1, e2⟩ := beOut l 20 4 rfl (by omega)
  rw [show ((20 : Nat) : Int) = 20 from rfl, show ((4 : Nat) : Int) = 4 from rfl] at e1 e2
  rw [e1, e2, hn] at hbe
  have HBE := hid hbe
  have HB1 := hid b1
  have H1 := hid h1
  have HG := hid hg
  have HW := hW1.symm
  clear hbe b1 h1 hb hn hW1 e1 e2
  go_enter Tryd.func5, Tryd.ntmps5
  go_wp2_with (first
    | (go_at_call 11; refine HBE.out.mono ?_; rintro e w2 ⟨rfl, q, rfl⟩)
    | (refine wpList_store_row rfl 26 _ _ rfl g kZ rfl rfl 26 _ (show (W1.drewN q).heap[g]? = _ from H1.out) sizeKy rfl (kOne kZero) ?_))
  refine bodyPost_ret (results_ct rfl _ _ g kZ _ _ rfl (setRow_heap _ g _ _ _ _ (show (W1.drewN q).heap[g]? = _ from H1.out)) Tryd.underlying26 sizeKy) rfl ⟨rfl, ?_⟩
  exact (setRow_mods (W1.drewN q) g kZ).to_below (below_drewN HB1.out q) (below_drewN HB1.out q).size (fun y hy => by rw [hy, HG.out]; exact Nat.le_refl _)
set_option maxRecDepth 100000 in
set_option maxHeartbeats 2000000 in
theorem Of_full (w : World) (ip port : Int) (a : Option Addr) (n c : Nat) (l : List Int) (hn : l.length = n) (hnc : n ≤ c) (hm : n ≤ 1000000) (hb : Bytes w a l) (hT : Tab w) (hs : 24 ≤ n) :
    Calls Tryd.prog 5 #[.int .u32 ip, .int .i64 port, .slice a n c] w fun e w' => e = .returned (.tuple #[kV ⟨ip, port, beOf (l.take 4), beOf ((l.drop 20).take 4), sumOf l⟩, .int .i64 0]) ∧ Below w.heap.size w w' := by
  obtain ⟨g, hg⟩ : ∃ g, w.heap.size = g := ⟨_, rfl⟩
  obtain ⟨W1, hW1⟩ : ∃ W, W = w.alloc (.cells kZ 26) := ⟨_, rfl⟩
  have b1 : Below w.heap.size w W1 := by rw [hW1]; exact below_alloc (Below.refl _ _) (Nat.le_refl _) _
  have h1 : W1.heap[g]? = some (.cells kZ 26 (0, 0)) := by rw [hW1, ← hg]; exact alloc_new w _
  have hbe := numBe_any a c l 20 4 W1 (by unfold maxLen; omega) (by omega) (hb.later b1)
  obtain ⟨e1, e2⟩ := beIn l 20 4 rfl (by omega)
  rw [show ((20 : Nat) : Int) = 20 from rfl, show ((4 : Nat) : Int) = 4 from rfl] at e1 e2
  rw [e1, e2, hn] at hbe
  have HBE := hid hbe
  have HBE0 : Hid (∀ q, Calls Tryd.prog 11 #[.slice a n c, .int .i64 0, .int .i64 4] (W1.drewN q) fun e w' => e = .returned (.tuple #[.int .u64 (beOf (l.take 4)), .int .i64 0]) ∧ ∃ q', w' = (W1.drewN q).drewN q') := hid (fun q => by
    have hbe := numBe_any a c l 0 4 (W1.drewN q) (by unfold maxLen; omega) (by omega) (hb.later (below_drewN b1 q))
    obtain ⟨e1, e2⟩ := beIn l 0 4 rfl (by omega)
    rw [show ((0 : Nat) : Int) = 0 from rfl, show ((4 : Nat) : Int) = 4 from rfl] at e1 e2
    rw [e1, e2, hn, List.drop_zero] at hbe
    exact hbe)
  have hx : 0 ≤ beOf (l.take 4) ∧ beOf (l.take 4) < 4294967296 := be4_bd l 0 hb.isB (by omega)
  have hp := be4_bd l 20 hb.isB (by omega)
  have hz := crcOn_bd 4294967295 l (by unfold IsU; omega) hb.isB
  have HCRC : Hid (∀ W : World, Below w.heap.size w W → ∃ W2, W2 = W.alloc (.cells #[.slice a n c] 23) ∧ Calls Tryd.prog 12 #[.slice (some ⟨W.heap.size, 0, none⟩) 1 1] W2 fun e w' => e = .returned (.int .u32 (sumOf l)) ∧ w' = W2) := hid (fun W hW => by
    have b2 : Below w.heap.size w (W.alloc (.cells #[.slice a n c] 23)) := below_alloc hW hW.size _
    refine ⟨_, rfl, ?_⟩
    have := crc_any (some ⟨W.heap.size, 0, none⟩) 1 [l] (W.alloc (.cells #[.slice a n c] 23)) (by simp) (by simp; omega) (fun i hi => by
      have hi0 : i = 0 := by simpa using hi
      subst hi0
      refine ⟨W.heap.size, 0, a, c, rfl, ?_, ?_⟩
      · rw [show ([l].getD 0 [] : List Int) = l from rfl, hn]; exact new_cell _ _ _ _ 0 (by simp)
      · exact hb.later b2) (hT.later b2)
    rw [show ([l] : List (List Int)).flatten = l by simp] at this
    exact this)
  have HB1 := hid b1
  have H1 := hid h1
  have HG := hid hg
  have HW := hW1.symm
  clear hbe b1 h1 hb hn hW1 e1 e2 hz
  go_enter Tryd.func5, Tryd.ntmps5
  go_upto_region 4 with (go_at_call 11; refine HBE.out.mono ?_; rintro e w2 ⟨rfl, q, rfl⟩)
  go_upto_region 5 with (go_at_call 11; refine (HBE0.out q).mono ?_; rintro e w3 ⟨rfl, q3, rfl⟩)
  obtain ⟨W5, hW5, hcrc⟩ := HCRC.out (W1.drewN (q + q3)) (below_drewN HB1.out _)
  have hB5 : Below w.heap.size w W5 := by
    rw [hW5]; exact below_alloc (below_drewN HB1.out (q + q3)) (below_drewN HB1.out (q + q3)).size _
  have h5 : W5.heap[g]? = some (.cells kZ 26 (0, 0)) := by
    rw [hW5]; exact ((below_alloc (Below.refl _ _) (Nat.le_refl _) (.cells #[.slice a n c] 23)).block g (Array.getElem?_eq_some_iff.1 H1.out).1).trans H1.out
  have HB5 := hid hB5
  have H5 := hid h5
  have HCR := hid hcrc
  have HZ5 := hW5.symm
  have w0 := IntWalk.u32_in _ (show 0 ≤ beOf (List.take 4 l) ∧ beOf (List.take 4 l) ≤ 4294967295 by omega)
  have w20 := IntWalk.u32_in _ (show 0 ≤ beOf (List.take 4 (List.drop 20 l)) ∧ beOf (List.take 4 (List.drop 20 l)) ≤ 4294967295 by omega)
  clear hB5 h5 hcrc hW5 hx hp HBE HBE0 HCRC HB1 H1 HW
  go_wp2_with (first
    | (go_at_call 12; refine HCR.out.mono ?_; rintro e w6 ⟨rfl, rfl⟩)
    | (refine wpList_store_row rfl 26 _ _ rfl g (kL ⟨ip, port, beOf (l.take 4), beOf ((l.drop 20).take 4), sumOf l⟩).toArray rfl rfl 26 _ H5.out sizeKy rfl (kOne _) ?_))
  refine bodyPost_ret (results_ct rfl _ _ g (kL ⟨ip, port, beOf (l.take 4), beOf ((l.drop 20).take 4), sumOf l⟩).toArray _ _ rfl (setRow_heap _ g _ _ _ _ H5.out) Tryd.underlying26 sizeKy) rfl ⟨rfl, ?_⟩
  exact (setRow_mods _ g _).to_below HB5.out HB5.out.size (fun y hy => Nat.le_of_eq (HG.out.trans hy.symm))
/-- Of, in both cases. -/
theorem Of_any (w : World) (ip port : Int) (a : Option Addr) (n c : Nat) (l : List Int) (hn : l.length = n) (hnc : n ≤ c) (hm : n ≤ 1000000) (hb : Bytes w a l) (hT : Tab w) :
    Calls Tryd.prog 5 #[.int .u32 ip, .int .i64 port, .slice a n c] w fun e w' => e = .returned (.tuple #[kV (ofK ip port l), .int .i64 (ofC l)]) ∧ Below w.heap.size w w' := by
  unfold ofK ofC
  by_cases h : l.length < 24
  · rw [if_pos h, if_pos h]
    exact Of_short w ip port a n c l hn hnc (by unfold maxLen; omega) hb (by omega)
  · rw [if_neg h, if_neg h]
    exact Of_full w ip port a n c l hn hnc hm hb hT (by omega)
set_option maxRecDepth 100000 in
set_option maxHeartbeats 2000000 in
/-- The document's. -/
theorem dOf_short (w : World) (ip port : Int) (a : Option Addr) (n c : Nat) (hs : n < 24) :
    Calls Tryd.prog 6 #[.int .u32 ip, .int .i64 port, .slice a n c] w fun e w' => e = .returned (.tuple #[kV kZero, .int .i64 11]) ∧ Below w.heap.size w w' := by
  obtain ⟨g, hg⟩ : ∃ g, w.heap.size = g := ⟨_, rfl⟩
  obtain ⟨W1, hW1⟩ : ∃ W, W = w.alloc (.cells kZ 30) := ⟨_, rfl⟩
  have b1 : Below w.heap.size w W1 := by rw [hW1]; exact below_alloc (Below.refl _ _) (Nat.le_refl _) _
  have h1 : W1.heap[g]? = some (.cells kZ 30 (0, 0)) := by rw [hW1, ← hg]; exact alloc_new w _
  have hsz : (n : Int) < 24 := by omega
  have HB1 := hid b1
  have H1 := hid h1
  have HG := hid hg
  have HW := hW1.symm
  clear b1 h1 hW1
  go_enter Tryd.func6, Tryd.ntmps6
  go_wp2_with (refine wpList_store_row rfl 30 _ _ rfl g kZ rfl rfl 30 _ H1.out sizeDK rfl (kOne kZero) ?_)
  refine bodyPost_ret (results_ct rfl _ _ g kZ _ _ rfl (setRow_heap _ g _ _ _ _ H1.out) Tryd.underlying30 sizeDK) rfl ⟨rfl, ?_⟩
  exact (setRow_mods _ g _).to_below HB1.out HB1.out.size (fun y hy => Nat.le_of_eq (HG.out.trans hy.symm))
set_option maxRecDepth 100000 in
set_option maxHeartbeats 2000000 in
theorem dOf_full (w : World) (ip port : Int) (a : Option Addr) (n c : Nat) (l : List Int) (hn : l.length = n) (hm : n ≤ 1000000) (hb : Bytes w a l) (hs : 24 ≤ n) :
    Calls Tryd.prog 6 #[.int .u32 ip, .int .i64 port, .slice a n c] w fun e w' => e = .returned (.tuple #[kV ⟨ip, port, beOf (l.take 4), beOf ((l.drop 20).take 4), sumOf l⟩, .int .i64 0]) ∧ Below w.heap.size w w' := by
  obtain ⟨g, hg⟩ : ∃ g, w.heap.size = g := ⟨_, rfl⟩
  obtain ⟨W1, hW1⟩ : ∃ W, W = w.alloc (.cells kZ 30) := ⟨_, rfl⟩
  have b1 : Below w.heap.size w W1 := by rw [hW1]; exact below_alloc (Below.refl _ _) (Nat.le_refl _) _
  have h1 : W1.heap[g]? = some (.cells kZ 30 (0, 0)) := by rw [hW1, ← hg]; exact alloc_new w _
  have hsz : ¬ (n : Int) < 24 := by omega
  have HBE0 : Hid (Calls Tryd.prog 13 #[.slice a n c, .int .i64 0, .int .i64 4] W1 fun e w' => e = .returned (.tuple #[.int .u64 (beOf (l.take 4)), .int .i64 0]) ∧ w' = W1) := hid (by
    have hbe := refBe_any a c l 0 4 W1 (by unfold maxLen; omega) (hb.later b1)
    obtain ⟨e1, e2⟩ := beIn l 0 4 rfl (by omega)
    rw [show ((0 : Nat) : Int) = 0 from rfl, show ((4 : Nat) : Int) = 4 from rfl] at e1 e2
    rw [e1, e2, hn, List.drop_zero] at hbe
    exact hbe)
  have HBE : Hid (Calls Tryd.prog 13 #[.slice a n c, .int .i64 20, .int .i64 4] W1 fun e w' => e = .returned (.tuple #[.int .u64 (beOf ((l.drop 20).take 4)), .int .i64 0]) ∧ w' = W1) := hid (by
    have hbe := refBe_any a c l 20 4 W1 (by unfold maxLen; omega) (hb.later b1)
    obtain ⟨e1, e2⟩ := beIn l 20 4 rfl (by omega)
    rw [show ((20 : Nat) : Int) = 20 from rfl, show ((4 : Nat) : Int) = 4 from rfl] at e1 e2
    rw [e1, e2, hn] at hbe
    exact hbe)
  have HCR : Hid (Calls Tryd.prog 14 #[.slice a n c] W1 fun e w' => e = .returned (.int .u32 (sumOf l)) ∧ w' = W1) := hid (by
    have := refCrc_any a c l W1 (by omega) (hb.later b1)
    rw [hn] at this
    exact this)
  have hx : 0 ≤ beOf (l.take 4) ∧ beOf (l.take 4) < 4294967296 := be4_bd l 0 hb.isB (by omega)
  have hp := be4_bd l 20 hb.isB (by omega)
  have w0 := IntWalk.u32_in _ (show 0 ≤ beOf (List.take 4 l) ∧ beOf (List.take 4 l) ≤ 4294967295 by omega)
  have w20 := IntWalk.u32_in _ (show 0 ≤ beOf (List.take 4 (List.drop 20 l)) ∧ beOf (List.take 4 (List.drop 20 l)) ≤ 4294967295 by omega)
  have HB1 := hid b1
  have H1 := hid h1
  have HG := hid hg
  have HW := hW1.symm
  clear b1 h1 hW1 hb hn hx hp
  go_enter Tryd.func6, Tryd.ntmps6
  go_upto_region 4 with (go_at_call 13; refine HBE0.out.mono ?_; rintro e w2 ⟨rfl, rfl⟩)
  go_upto_region 5 with (go_at_call 13; refine HBE.out.mono ?_; rintro e w3 ⟨rfl, rfl⟩)
  go_wp2_with (first
    | (go_at_call 14; refine HCR.out.mono ?_; rintro e w4 ⟨rfl, rfl⟩)
    | (refine wpList_store_row rfl 30 _ _ rfl g (kL ⟨ip, port, beOf (l.take 4), beOf ((l.drop 20).take 4), sumOf l⟩).toArray rfl rfl 30 _ H1.out sizeDK rfl (kOne _) ?_))
  refine bodyPost_ret (results_ct rfl _ _ g (kL ⟨ip, port, beOf (l.take 4), beOf ((l.drop 20).take 4), sumOf l⟩).toArray _ _ rfl (setRow_heap _ g _ _ _ _ H1.out) Tryd.underlying30 sizeDK) rfl ⟨rfl, ?_⟩
  exact (setRow_mods _ g _).to_below HB1.out HB1.out.size (fun y hy => Nat.le_of_eq (HG.out.trans hy.symm))
theorem dOf_any (w : World) (ip port : Int) (a : Option Addr) (n c : Nat) (l : List Int) (hn : l.length = n) (hm : n ≤ 1000000) (hb : Bytes w a l) :
    Calls Tryd.prog 6 #[.int .u32 ip, .int .i64 port, .slice a n c] w fun e w' => e = .returned (.tuple #[kV (ofK ip port l), .int .i64 (ofC l)]) ∧ Below w.heap.size w w' := by
  unfold ofK ofC
  by_cases h : l.length < 24
  · rw [if_pos h, if_pos h]
    exact dOf_short w ip port a n c (by omega)
  · rw [if_neg h, if_neg h]
    exact dOf_full w ip port a n c l hn hm hb (by omega)
end Go.Proofs.YthgmghfegaemkaaDoor
