/- readMessage. -/
import Derived.Test.YtlflbpemjlgdiaaEcB
namespace Go.Proofs.Ytlflbpemjlgdiaa
open Go.RowKit Go.Maps
set_option linter.unusedVariables false

abbrev msgC (what : Int) (m : Mac) (i : Int) (k : Mac) (j : Int) : Array Value := #[.int .i64 what, .int .u8 m.a, .int .u8 m.b, .int .u8 m.c, .int .u8 m.d, .int .u8 m.e, .int .u8 m.f, .int .u32 i, .int .u8 k.a, .int .u8 k.b, .int .u8 k.c, .int .u8 k.d, .int .u8 k.e, .int .u8 k.f, .int .u32 j]
abbrev msg0 : Array Value := #[.int .i64 0, .int .u8 0, .int .u8 0, .int .u8 0, .int .u8 0, .int .u8 0, .int .u8 0, .int .u32 0, .int .u8 0, .int .u8 0, .int .u8 0, .int .u8 0, .int .u8 0, .int .u8 0, .int .u32 0]
theorem sizeMsg : (Try.prog.info? 76).map (·.size) = some 15 := by kernel_rfl
theorem msgC_one (what : Int) (m : Mac) (i : Int) (k : Mac) (j : Int) : (msgC what m i k j).all (·.oneCell') = true := by simp [Value.oneCell']
theorem msg0_one : msg0.all (·.oneCell') = true := by simp [Value.oneCell']
/-- What a message is: 1 or 2. -/
def opOf (l : List Int) : Int := beOf ((l.drop 6).take 2)
def badM (l : List Int) : Prop := macOf l ≠ headM ∨ (opOf l ≠ 1 ∧ opOf l ≠ 2)
theorem opOf_bd (l : List Int) (h : ∀ x ∈ l, IsB x) (hk : 8 ≤ l.length) : 0 ≤ opOf l ∧ opOf l < 65536 := by
  have := be_cut_bd l 6 2 h (by omega)
  unfold opOf; omega
set_option maxRecDepth 100000 in
set_option maxHeartbeats 1000000 in
theorem readMessage_cut (w : World) (a : Option Addr) (n c : Nat) (hn : n < 28) :
    Calls Try.prog 33 #[.slice a n c] w fun e w' => e = .returned (.tuple #[.agg msg0, .int .i64 11]) ∧ Below w.heap.size w w' := by
  obtain ⟨g, hg⟩ : ∃ g, w.heap.size = g := ⟨_, rfl⟩
  obtain ⟨W1, hW1⟩ : ∃ W, W = w.alloc (.cells #[.int .i64 0, .int .u8 0, .int .u8 0, .int .u8 0, .int .u8 0, .int .u8 0, .int .u8 0, .int .u32 0, .int .u8 0, .int .u8 0, .int .u8 0, .int .u8 0, .int .u8 0, .int .u8 0, .int .u32 0] 76) := ⟨_, rfl⟩
  have b1 : Below w.heap.size w W1 := by rw [hW1]; exact below_alloc (Below.refl _ _) (Nat.le_refl _) _
  have h1 : W1.heap[g]? = some (.cells msg0 76 (0, 0)) := by rw [hW1, ← hg]; exact alloc_new w _
  have H1 := hid h1
  have HB1 := hid b1
  have HG := hid hg
  clear h1 b1
  have HW := hW1.symm
  clear hW1
  go_enter Try.func33, Try.ntmps33
  go_wp2_with (refine wpList_store_row rfl 76 _ _ rfl g msg0 rfl rfl 76 _ H1.out sizeMsg rfl msg0_one ?_)
  refine bodyPost_ret (results_ct rfl _ _ g msg0 _ _ rfl (setRow_heap _ g _ _ _ _ H1.out) Try.underlying76 sizeMsg) rfl ⟨rfl, ?_⟩
  exact (setRow_mods _ g _).to_below HB1.out HB1.out.size (fun x hx => by rw [hx, HG.out]; exact Nat.le_refl _)
set_option maxRecDepth 100000 in
set_option maxHeartbeats 1000000 in
theorem readMessage_bad (w : World) (a : Option Addr) (n c : Nat) (l : List Int) (hn : l.length = n) (h28 : 28 ≤ n) (hnc : n ≤ c) (hm : n ≤ maxLen) (hb : Bytes w a l) (hbad : badM l) :
    Calls Try.prog 33 #[.slice a n c] w fun e w' => e = .returned (.tuple #[.agg msg0, .int .i64 15]) ∧ Below w.heap.size w w' := by
  obtain ⟨g, hg⟩ : ∃ g, w.heap.size = g := ⟨_, rfl⟩
  obtain ⟨W1, hW1⟩ : ∃ W, W = w.alloc (.cells #[.int .i64 0, .int .u8 0, .int .u8 0, .int .u8 0, .int .u8 0, .int .u8 0, .int .u8 0, .int .u32 0, .int .u8 0, .int .u8 0, .int .u8 0, .int .u8 0, .int .u8 0, .int .u8 0, .int .u32 0] 76) := ⟨_, rfl⟩
  have b1 : Below w.heap.size w W1 := by rw [hW1]; exact below_alloc (Below.refl _ _) (Nat.le_refl _) _
  have h1 : W1.heap[g]? = some (.cells msg0 76 (0, 0)) := by rw [hW1, ← hg]; exact alloc_new w _
  have HBE := hid (be_in W1 a n c l 6 2 hn hnc hm rfl (by omega) (hb.later b1))
  have HFS : Hid (∀ W, Below w.heap.size w W → Calls Try.prog 25 #[.slice a n c] W fun e w' => e = .returned (.agg (macC (macOf l))) ∧ Below W.heap.size W w') := hid (fun W h => firstSix_any W a n c l hn (by omega) (hb.later h))
  have hop := opOf_bd l hb.isB (by omega)
  unfold badM at hbad
  unfold opOf at hop hbad
  generalize beOf ((l.drop 6).take 2) = op at *
  generalize macOf l = m at *
  have H1 := hid h1
  have HB1 := hid b1
  have HG := hid hg
  have HBAD := hid hbad
  clear h1 b1 hb hn hnc hm hbad
  have HW := hW1.symm
  clear hW1
  have hq := fun (m k : Mac) (w : World) => eqMac m k w
  by_cases hm : m = headM
  · have hop2 : ¬ op = 1 ∧ ¬ op = 2 := by rcases HBAD.out with h | h; exact absurd hm h; exact h
    subst hm
    have ho1 : (op != 1) = true := by simp [hop2.1]
    have ho2 : (op != 2) = true := by simp [hop2.2]
    clear hop2
    go_enter Try.func33, Try.ntmps33
    go_wp2_with (first
      | (go_at_call 24; refine HBE.out.mono ?_; rintro e w2 ⟨rfl, hb2⟩; have HB2 := hid (HB1.out.trans (hb2.mono HB1.out.size)); have H2 := hid ((hb2.block g (Array.getElem?_eq_some_iff.1 H1.out).1).trans H1.out); clear hb2)
      | (go_at_call 25; refine (HFS.out _ HB2.out).mono ?_; rintro e w3 ⟨rfl, hb3⟩; have HB3 := hid (HB2.out.trans (hb3.mono HB2.out.size)); have H3 := hid ((hb3.block g (Array.getElem?_eq_some_iff.1 H2.out).1).trans H2.out); clear hb3)
      | (go_at_call 47; refine (head_any _).mono ?_; rintro e w4 ⟨rfl, hb4⟩; have HB4 := hid (HB3.out.trans (hb4.mono HB3.out.size)); have H4 := hid ((hb4.block g (Array.getElem?_eq_some_iff.1 H3.out).1).trans H3.out); clear hb4)
      | (refine wpList_store_row rfl 76 _ _ rfl g msg0 rfl rfl 76 _ H4.out sizeMsg rfl msg0_one ?_))
    refine bodyPost_ret (results_ct rfl _ _ g msg0 _ _ rfl (setRow_heap _ g _ _ _ _ H4.out) Try.underlying76 sizeMsg) rfl ⟨rfl, ?_⟩
    exact (setRow_mods _ g _).to_below HB4.out HB4.out.size (fun x hx => by rw [hx, HG.out]; exact Nat.le_refl _)
  · go_enter Try.func33, Try.ntmps33
    go_wp2_with (first
      | (go_at_call 24; refine HBE.out.mono ?_; rintro e w2 ⟨rfl, hb2⟩; have HB2 := hid (HB1.out.trans (hb2.mono HB1.out.size)); have H2 := hid ((hb2.block g (Array.getElem?_eq_some_iff.1 H1.out).1).trans H1.out); clear hb2)
      | (go_at_call 25; refine (HFS.out _ HB2.out).mono ?_; rintro e w3 ⟨rfl, hb3⟩; have HB3 := hid (HB2.out.trans (hb3.mono HB2.out.size)); have H3 := hid ((hb3.block g (Array.getElem?_eq_some_iff.1 H2.out).1).trans H2.out); clear hb3)
      | (go_at_call 47; refine (head_any _).mono ?_; rintro e w4 ⟨rfl, hb4⟩; have HB4 := hid (HB3.out.trans (hb4.mono HB3.out.size)); have H4 := hid ((hb4.block g (Array.getElem?_eq_some_iff.1 H3.out).1).trans H3.out); clear hb4)
      | (refine wpList_store_row rfl 76 _ _ rfl g msg0 rfl rfl 76 _ H4.out sizeMsg rfl msg0_one ?_))
    refine bodyPost_ret (results_ct rfl _ _ g msg0 _ _ rfl (setRow_heap _ g _ _ _ _ H4.out) Try.underlying76 sizeMsg) rfl ⟨rfl, ?_⟩
    exact (setRow_mods _ g _).to_below HB4.out HB4.out.size (fun x hx => by rw [hx, HG.out]; exact Nat.le_refl _)
/-! region -/
set_option maxRecDepth 100000 in
theorem cutLa (b off len cap lo : Nat) (h : lo ≤ len) (hc : len ≤ cap) : ∃ ad : Addr, (∀ W : World, (Instr.slice 22 (.slice (some ⟨b, off, none⟩) len cap) (some (.int .i64 lo)) none none).run Try.prog W = .ok (.slice (some ad) (len - lo) (cap - lo)) W) ∧ ∀ (w : World) (l : List Int), l.length = len → Bytes w (some ⟨b, off, none⟩) l → Bytes w (some ad) (l.drop lo) := by
  by_cases h2 : cap = lo
  · refine ⟨⟨b, off, none⟩, fun W => ?_, fun w l hl _ => ?_⟩
    · have hz : (sizeOf 5).run Try.prog W = .ok 1 W := by kernel_rfl
      rw [run_slice_l (P := Try.prog) W 22 (some ⟨b, off, none⟩) len cap Try.underlying22 .i64 lo (by omega) (by omega)]
      have e : Try.prog.elem 22 = 5 := by kernel_rfl
      rw [e, hz]
      simp [sliced, h2]
    · rw [List.drop_of_length_le (by omega)]; exact Bytes.nil_ _ _
  · refine ⟨⟨b, off + lo, none⟩, fun W => ?_, fun w l hl hb => ?_⟩
    · have hz : (sizeOf 5).run Try.prog W = .ok 1 W := by kernel_rfl
      rw [run_slice_l (P := Try.prog) W 22 (some ⟨b, off, none⟩) len cap Try.underlying22 .i64 lo (by omega) (by omega)]
      have e : Try.prog.elem 22 = 5 := by kernel_rfl
      rw [e, hz]
      simp [sliced, Addr.add, h2]
    · have := hb.cut lo (len - lo)
      rwa [List.take_of_length_le (by simp; omega)] at this
theorem cutL (b off len cap lo : Nat) (h : lo ≤ len) (hc : len ≤ cap) : ∃ a', (∀ W : World, (Instr.slice 22 (.slice (some ⟨b, off, none⟩) len cap) (some (.int .i64 lo)) none none).run Try.prog W = .ok (.slice a' (len - lo) (cap - lo)) W) ∧ ∀ (w : World) (l : List Int), l.length = len → Bytes w (some ⟨b, off, none⟩) l → Bytes w a' (l.drop lo) := by
  obtain ⟨ad, h1, h2⟩ := cutLa b off len cap lo h hc
  exact ⟨some ad, h1, h2⟩
theorem cutLs (b off len cap lo : Nat) (h : lo ≤ len) (hc : len ≤ cap) : ∃ a', (∀ W : World, (Instr.slice 22 (.slice (some ⟨b, off, none⟩) len cap) (some (.int .i64 lo)) none none).run Try.prog W = .ok (.slice a' (len - lo) (cap - lo)) W) ∧ (∀ (w : World) (l : List Int), l.length = len → Bytes w (some ⟨b, off, none⟩) l → Bytes w a' (l.drop lo)) ∧ ∃ ad, a' = some ad := by
  obtain ⟨ad, h1, h2⟩ := cutLa b off len cap lo h hc
  exact ⟨some ad, h1, h2, ad, rfl⟩
set_option maxRecDepth 100000 in
set_option maxHeartbeats 1000000 in
theorem readMessage_ok (w : World) (a : Option Addr) (n c : Nat) (l : List Int) (hn : l.length = n) (h28 : 28 ≤ n) (hnc : n ≤ c) (hm : n ≤ maxLen) (hb : Bytes w a l) (hgood : ¬ badM l) :
    Calls Try.prog 33 #[.slice a n c] w fun e w' => e = .returned (.tuple #[.agg (msgC (opOf l) (macOf (l.drop 8)) (ipAt l 14) (macOf (l.drop 18)) (ipAt l 24)), .int .i64 0]) ∧ Below w.heap.size w w' := by
  obtain ⟨g, hg⟩ : ∃ g, w.heap.size = g := ⟨_, rfl⟩
  obtain ⟨W1, hW1⟩ : ∃ W, W = w.alloc (.cells #[.int .i64 0, .int .u8 0, .int .u8 0, .int .u8 0, .int .u8 0, .int .u8 0, .int .u8 0, .int .u32 0, .int .u8 0, .int .u8 0, .int .u8 0, .int .u8 0, .int .u8 0, .int .u8 0, .int .u32 0] 76) := ⟨_, rfl⟩
  have b1 : Below w.heap.size w W1 := by rw [hW1]; exact below_alloc (Below.refl _ _) (Nat.le_refl _) _
  have h1 : W1.heap[g]? = some (.cells msg0 76 (0, 0)) := by rw [hW1, ← hg]; exact alloc_new w _
  have HBE := hid (be_in W1 a n c l 6 2 hn hnc hm rfl (by omega) (hb.later b1))
  have HFS : Hid (∀ W, Below w.heap.size w W → Calls Try.prog 25 #[.slice a n c] W fun e w' => e = .returned (.agg (macC (macOf l))) ∧ Below W.heap.size W w') := hid (fun W h => firstSix_any W a n c l hn (by omega) (hb.later h))
  have hop := opOf_bd l hb.isB (by omega)
  obtain ⟨b, off, rfl, hcell⟩ := hb.open_ (by omega)
  clear hcell
  obtain ⟨a8, s8, c8⟩ := cutL b off n c 8 (by omega) hnc
  obtain ⟨a18, s18, c18⟩ := cutL b off n c 18 (by omega) hnc
  have HH8 : Hid (∀ W, Below w.heap.size w W → Calls Try.prog 48 #[.slice a8 (n - 8) (c - 8)] W fun e w' => e = .returned (.agg (hostC (macOf (l.drop 8)) (ipAt l 14))) ∧ Below W.heap.size W w') := hid (fun W h => by
    have := hostOf_any W a8 (n - 8) (c - 8) (l.drop 8) (by simp; omega) (by omega) (by omega) (by omega) (c8 W l hn (hb.later h))
    rwa [show ipAt (l.drop 8) 6 = ipAt l 14 by simp [ipAt]] at this)
  have HH18 : Hid (∀ W, Below w.heap.size w W → Calls Try.prog 48 #[.slice a18 (n - 18) (c - 18)] W fun e w' => e = .returned (.agg (hostC (macOf (l.drop 18)) (ipAt l 24))) ∧ Below W.heap.size W w') := hid (fun W h => by
    have := hostOf_any W a18 (n - 18) (c - 18) (l.drop 18) (by simp; omega) (by omega) (by omega) (by omega) (c18 W l hn (hb.later h))
    rwa [show ipAt (l.drop 18) 6 = ipAt l 24 by simp [ipAt]] at this)
  have s8' : ∀ W : World, (Instr.slice 22 (.slice (some ⟨b, off, none⟩) n c) (some (.int .i64 8)) none none).run Try.prog W = .ok (.slice a8 (n - 8) (c - 8)) W := s8
  have s18' : ∀ W : World, (Instr.slice 22 (.slice (some ⟨b, off, none⟩) n c) (some (.int .i64 18)) none none).run Try.prog W = .ok (.slice a18 (n - 18) (c - 18)) W := s18
  clear s8 s18 c8 c18
  have hgm : macOf l = headM := Classical.byContradiction fun h => hgood (.inl h)
  have hgo : opOf l = 1 ∨ opOf l = 2 := by
    rcases Classical.em (opOf l = 1) with h | h
    · exact .inl h
    · rcases Classical.em (opOf l = 2) with h' | h'
      · exact .inr h'
      · exact absurd (.inr ⟨h, h'⟩) hgood
  rw [hgm] at HFS
  unfold opOf at hop hgo ⊢
  generalize beOf ((l.drop 6).take 2) = op at *
  generalize macOf (l.drop 8) = mS at *
  generalize macOf (l.drop 18) = mT at *
  generalize ipAt l 14 = iS at *
  generalize ipAt l 24 = iT at *
  have H1 := hid h1
  have HB1 := hid b1
  have HG := hid hg
  have HGO := hid hgo
  clear h1 b1 hb hn hm hgood hgm hgo
  have HW := hW1.symm
  clear hW1
  have hq := fun (m k : Mac) (w : World) => eqMac m k w
  rcases HGO.out with rfl | rfl
  · go_enter Try.func33, Try.ntmps33
    go_upto_region 6 with (first
      | (go_at_call 24; refine HBE.out.mono ?_; rintro e w2 ⟨rfl, hb2⟩; have HB2 := hid (HB1.out.trans (hb2.mono HB1.out.size)); have H2 := hid ((hb2.block g (Array.getElem?_eq_some_iff.1 H1.out).1).trans H1.out); clear hb2)
      | (go_at_call 25; refine (HFS.out _ HB2.out).mono ?_; rintro e w3 ⟨rfl, hb3⟩; have HB3 := hid (HB2.out.trans (hb3.mono HB2.out.size)); have H3 := hid ((hb3.block g (Array.getElem?_eq_some_iff.1 H2.out).1).trans H2.out); clear hb3)
      | (go_at_call 47; refine (head_any _).mono ?_; rintro e w4 ⟨rfl, hb4⟩; have HB4 := hid (HB3.out.trans (hb4.mono HB3.out.size)); have H4 := hid ((hb4.block g (Array.getElem?_eq_some_iff.1 H3.out).1).trans H3.out); clear hb4))
    refine wp_region_held_drew (S := fun _ => True) (by kernel_rfl) trivial (fun hS => ?_)
    refine nany_take 0 28 (.int .u64 1) rfl rfl (by kernel_rfl) (by kernel_rfl) (by kernel_rfl) (fun _ _ _ h => h) (Or.inl ⟨by rfl, ?_⟩) trivial ?_
    · rintro w' -
      go_simp
    simp only [List.setIfInBounds_toArray, List.set_cons_zero, List.set_cons_succ]
    refine nany_take 1 29 (.int .i64 1) rfl rfl (by kernel_rfl) (by kernel_rfl) (by kernel_rfl) (fun _ _ _ h => h) (Or.inl ⟨by rfl, ?_⟩) trivial ?_
    · rintro w' -
      first | (go_simp; done) | (go_simp; rfl)
    simp only [List.setIfInBounds_toArray, List.set_cons_zero, List.set_cons_succ]
    refine nany_take 2 30 (.slice (some ⟨b, off, none⟩) n c) rfl rfl (by kernel_rfl) (by kernel_rfl) (by kernel_rfl) (fun _ _ _ h => h) (Or.inl ⟨by rfl, ?_⟩) trivial ?_
    · rintro w' -
      go_simp
    simp only [List.setIfInBounds_toArray, List.set_cons_zero, List.set_cons_succ]
    refine nany_take 3 31 (.slice a8 (n - 8) (c - 8)) rfl rfl (by kernel_rfl) (by kernel_rfl) (by kernel_rfl) (fun _ _ _ h => h) (Or.inl ⟨by rfl, ?_⟩) trivial ?_
    · rintro w' -
      go_simp
    simp only [List.setIfInBounds_toArray, List.set_cons_zero, List.set_cons_succ]
    refine nany_take 5 33 (.slice (some ⟨b, off, none⟩) n c) rfl rfl (by kernel_rfl) (by kernel_rfl) (by kernel_rfl) (fun _ _ _ h => h) (Or.inl ⟨by rfl, ?_⟩) trivial ?_
    · rintro w' -
      go_simp
    simp only [List.setIfInBounds_toArray, List.set_cons_zero, List.set_cons_succ]
    refine nany_take 6 34 (.slice a18 (n - 18) (c - 18)) rfl rfl (by kernel_rfl) (by kernel_rfl) (by kernel_rfl) (fun _ _ _ h => h) (Or.inl ⟨by rfl, ?_⟩) trivial ?_
    · rintro w' -
      go_simp
    simp only [List.setIfInBounds_toArray, List.set_cons_zero, List.set_cons_succ]
    refine nany_one 4 (by kernel_rfl) ?_
    refine nop_callE 32 (f := 48) (args := #[.slice a8 (n - 8) (c - 8)]) (R := fun v w' => v = .agg (hostC mS iS) ∧ Below w4.heap.size w4 w') rfl (by rfl) rfl (by go_simp) ((HH8.out w4.drew (HB4.out.drew)).mono (fun e w' h => ⟨_, h.1, rfl, below_undrew h.2⟩)) ?_
    rintro v w5 ⟨rfl, hb5⟩
    refine ⟨trivial, ?_⟩
    have HB5 := hid (HB4.out.trans (hb5.mono HB4.out.size))
    have H5 := hid ((hb5.block g (Array.getElem?_eq_some_iff.1 H4.out).1).trans H4.out)
    clear hb5
    simp only [List.setIfInBounds_toArray, List.set_cons_zero, List.set_cons_succ]
    refine nany_one 7 (by kernel_rfl) ?_
    refine nop_callE 35 (f := 48) (args := #[.slice a18 (n - 18) (c - 18)]) (R := fun v w' => v = .agg (hostC mT iT) ∧ Below w5.heap.size w5 w') rfl (by rfl) rfl (by go_simp) ((HH18.out w5 HB5.out).mono (fun e w' h => ⟨_, h.1, rfl, h.2⟩)) ?_
    rintro v w6 ⟨rfl, hb6⟩
    refine ⟨trivial, ?_⟩
    have HB6 := hid (HB5.out.trans (hb6.mono HB5.out.size))
    have H6 := hid ((hb6.block g (Array.getElem?_eq_some_iff.1 H5.out).1).trans H5.out)
    clear hb6
    simp only [List.setIfInBounds_toArray, List.set_cons_zero, List.set_cons_succ]
    refine nany_take 8 36 (.agg (msgC 1 mS iS mT iT)) rfl rfl (by kernel_rfl) (by kernel_rfl) (by kernel_rfl) (fun _ _ _ h => h) (Or.inl ⟨by rfl, ?_⟩) trivial ?_
    · rintro w' -
      go_simp
    simp only [List.setIfInBounds_toArray, List.set_cons_zero, List.set_cons_succ]
    refine nany_one 9 (by kernel_rfl) ?_
    refine nop_skip (w' := w6.setRow g (msgC 1 mS iS mT iT)) rfl (by rfl) rfl (ex_store 76 _ _ rfl g (msgC 1 mS iS mT iT) rfl rfl 76 _ H6.out sizeMsg rfl (msgC_one _ _ _ _ _)) ?_
    refine ⟨trivial, ?_⟩
    refine nany_take 10 3 (.int .i64 0) rfl rfl (by kernel_rfl) (by kernel_rfl) (by kernel_rfl) (fun _ _ _ h => h) (Or.inl ⟨by rfl, ?_⟩) trivial ?_
    · rintro w' -
      go_simp
    simp only [List.setIfInBounds_toArray, List.set_cons_zero, List.set_cons_succ]
    refine wpAnyH_done (by kernel_rfl) ?_ _
    go_wp2
    refine bodyPost_ret (results_ct rfl _ _ g (msgC 1 mS iS mT iT) _ _ rfl (setRow_heap _ g _ _ _ _ H6.out) Try.underlying76 sizeMsg) rfl ⟨rfl, ?_⟩
    exact (setRow_mods _ g _).to_below HB6.out HB6.out.size (fun x hx => by rw [hx, HG.out]; exact Nat.le_refl _)
  · go_enter Try.func33, Try.ntmps33
    go_upto_region 6 with (first
      | (go_at_call 24; refine HBE.out.mono ?_; rintro e w2 ⟨rfl, hb2⟩; have HB2 := hid (HB1.out.trans (hb2.mono HB1.out.size)); have H2 := hid ((hb2.block g (Array.getElem?_eq_some_iff.1 H1.out).1).trans H1.out); clear hb2)
      | (go_at_call 25; refine (HFS.out _ HB2.out).mono ?_; rintro e w3 ⟨rfl, hb3⟩; have HB3 := hid (HB2.out.trans (hb3.mono HB2.out.size)); have H3 := hid ((hb3.block g (Array.getElem?_eq_some_iff.1 H2.out).1).trans H2.out); clear hb3)
      | (go_at_call 47; refine (head_any _).mono ?_; rintro e w4 ⟨rfl, hb4⟩; have HB4 := hid (HB3.out.trans (hb4.mono HB3.out.size)); have H4 := hid ((hb4.block g (Array.getElem?_eq_some_iff.1 H3.out).1).trans H3.out); clear hb4))
    refine wp_region_held_drew (S := fun _ => True) (by kernel_rfl) trivial (fun hS => ?_)
    refine nany_take 0 28 (.int .u64 2) rfl rfl (by kernel_rfl) (by kernel_rfl) (by kernel_rfl) (fun _ _ _ h => h) (Or.inl ⟨by rfl, ?_⟩) trivial ?_
    · rintro w' -
      go_simp
    simp only [List.setIfInBounds_toArray, List.set_cons_zero, List.set_cons_succ]
    refine nany_take 1 29 (.int .i64 2) rfl rfl (by kernel_rfl) (by kernel_rfl) (by kernel_rfl) (fun _ _ _ h => h) (Or.inl ⟨by rfl, ?_⟩) trivial ?_
    · rintro w' -
      first | (go_simp; done) | (go_simp; rfl)
    simp only [List.setIfInBounds_toArray, List.set_cons_zero, List.set_cons_succ]
    refine nany_take 2 30 (.slice (some ⟨b, off, none⟩) n c) rfl rfl (by kernel_rfl) (by kernel_rfl) (by kernel_rfl) (fun _ _ _ h => h) (Or.inl ⟨by rfl, ?_⟩) trivial ?_
    · rintro w' -
      go_simp
    simp only [List.setIfInBounds_toArray, List.set_cons_zero, List.set_cons_succ]
    refine nany_take 3 31 (.slice a8 (n - 8) (c - 8)) rfl rfl (by kernel_rfl) (by kernel_rfl) (by kernel_rfl) (fun _ _ _ h => h) (Or.inl ⟨by rfl, ?_⟩) trivial ?_
    · rintro w' -
      go_simp
    simp only [List.setIfInBounds_toArray, List.set_cons_zero, List.set_cons_succ]
    refine nany_take 5 33 (.slice (some ⟨b, off, none⟩) n c) rfl rfl (by kernel_rfl) (by kernel_rfl) (by kernel_rfl) (fun _ _ _ h => h) (Or.inl ⟨by rfl, ?_⟩) trivial ?_
    · rintro w' -
      go_simp
    simp only [List.setIfInBounds_toArray, List.set_cons_zero, List.set_cons_succ]
    refine nany_take 6 34 (.slice a18 (n - 18) (c - 18)) rfl rfl (by kernel_rfl) (by kernel_rfl) (by kernel_rfl) (fun _ _ _ h => h) (Or.inl ⟨by rfl, ?_⟩) trivial ?_
    · rintro w' -
      go_simp
    simp only [List.setIfInBounds_toArray, List.set_cons_zero, List.set_cons_succ]
    refine nany_one 4 (by kernel_rfl) ?_
    refine nop_callE 32 (f := 48) (args := #[.slice a8 (n - 8) (c - 8)]) (R := fun v w' => v = .agg (hostC mS iS) ∧ Below w4.heap.size w4 w') rfl (by rfl) rfl (by go_simp) ((HH8.out w4.drew (HB4.out.drew)).mono (fun e w' h => ⟨_, h.1, rfl, below_undrew h.2⟩)) ?_
    rintro v w5 ⟨rfl, hb5⟩
    refine ⟨trivial, ?_⟩
    have HB5 := hid (HB4.out.trans (hb5.mono HB4.out.size))
    have H5 := hid ((hb5.block g (Array.getElem?_eq_some_iff.1 H4.out).1).trans H4.out)
    clear hb5
    simp only [List.setIfInBounds_toArray, List.set_cons_zero, List.set_cons_succ]
    refine nany_one 7 (by kernel_rfl) ?_
    refine nop_callE 35 (f := 48) (args := #[.slice a18 (n - 18) (c - 18)]) (R := fun v w' => v = .agg (hostC mT iT) ∧ Below w5.heap.size w5 w') rfl (by rfl) rfl (by go_simp) ((HH18.out w5 HB5.out).mono (fun e w' h => ⟨_, h.1, rfl, h.2⟩)) ?_
    rintro v w6 ⟨rfl, hb6⟩
    refine ⟨trivial, ?_⟩
    have HB6 := hid (HB5.out.trans (hb6.mono HB5.out.size))
    have H6 := hid ((hb6.block g (Array.getElem?_eq_some_iff.1 H5.out).1).trans H5.out)
    clear hb6
    simp only [List.setIfInBounds_toArray, List.set_cons_zero, List.set_cons_succ]
    refine nany_take 8 36 (.agg (msgC 2 mS iS mT iT)) rfl rfl (by kernel_rfl) (by kernel_rfl) (by kernel_rfl) (fun _ _ _ h => h) (Or.inl ⟨by rfl, ?_⟩) trivial ?_
    · rintro w' -
      go_simp
    simp only [List.setIfInBounds_toArray, List.set_cons_zero, List.set_cons_succ]
    refine nany_one 9 (by kernel_rfl) ?_
    refine nop_skip (w' := w6.setRow g (msgC 2 mS iS mT iT)) rfl (by rfl) rfl (ex_store 76 _ _ rfl g (msgC 2 mS iS mT iT) rfl rfl 76 _ H6.out sizeMsg rfl (msgC_one _ _ _ _ _)) ?_
    refine ⟨trivial, ?_⟩
    refine nany_take 10 3 (.int .i64 0) rfl rfl (by kernel_rfl) (by kernel_rfl) (by kernel_rfl) (fun _ _ _ h => h) (Or.inl ⟨by rfl, ?_⟩) trivial ?_
    · rintro w' -
      go_simp
    simp only [List.setIfInBounds_toArray, List.set_cons_zero, List.set_cons_succ]
    refine wpAnyH_done (by kernel_rfl) ?_ _
    go_wp2
    refine bodyPost_ret (results_ct rfl _ _ g (msgC 2 mS iS mT iT) _ _ rfl (setRow_heap _ g _ _ _ _ H6.out) Try.underlying76 sizeMsg) rfl ⟨rfl, ?_⟩
    exact (setRow_mods _ g _).to_below HB6.out HB6.out.size (fun x hx => by rw [hx, HG.out]; exact Nat.le_refl _)
end Go.Proofs.Ytlflbpemjlgdiaa
