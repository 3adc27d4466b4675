/- The document's High, put, mac. -/
import Derived.Test.YtlflbpemjlgdiaaEeB
namespace Go.Proofs.Ytlflbpemjlgdiaa
open Go.RowKit Go.Maps
set_option linter.unusedVariables false

set_option maxRecDepth 100000 in
set_option maxHeartbeats 1000000 in
theorem High_any (w : World) (B : Nat) (v : Value) (l : List Int) (h : Gr w B v l) (hB : B ≤ w.heap.size) (n : Nat) (N x : Int) (hN : N = n) (hn : 0 < n ∧ n ≤ 8) (h0 : 0 ≤ x) (h1 : x < 18446744073709551616) (hl : l.length ≤ 800000) :
    Calls Try.prog 30 #[v, .int .i64 N, .int .u64 x] w fun e w' => ∃ a c, e = .returned (.slice a (l.length + n) c) ∧ GO w' B (.slice a (l.length + n) c) (l ++ bytesBe n x) ∧ Below B w w' := by
  obtain ⟨a0, c0, rfl⟩ := h.slice
  have HG := hid h
  have hn8 : n ≤ 8 := by omega
  subst hN
  clear h
  have hw0 : IntKind.i64.wrap ((n : Int) - 1) = (n : Int) - 1 := IntWalk.i64_in _ (by omega)
  go_enter Try.func30, Try.ntmps30
  go_wp2
  go_loopw [0, 7] (fun u z wr => ∃ (j : Nat) (kz : Int), j ≤ n ∧ kz = (n : Int) - 1 - j ∧ z = .int .i64 kz ∧ Gr wr B u (l ++ (bytesBe n x).take j) ∧ (0 < j → wr.ownsRow B 5 1 u (l.length + j) (u8s (l ++ (bytesBe n x).take j))) ∧ Below B w wr ∧ B ≤ wr.heap.size) (fun _ z _ => (RowKit.intOf z + 1).toNat)
  case atStart => exact ⟨0, (n : Int) - 1, Nat.zero_le _, by omega, rfl, by simpa using HG.out, fun h => by omega, Below.refl _ _, hB⟩
  case round =>
    obtain ⟨j, kz, hj, hkz, rfl, hg, how, hb, hBr⟩ := hrel
    have hlk : (l ++ (bytesBe n x).take j).length = l.length + j := by rw [List.length_append, List.length_take, len_be, Nat.min_eq_left hj]
    obtain ⟨a1, c1, e1⟩ := hg.slice
    rw [hlk] at e1
    subst e1
    have HG1 := hid hg
    have HOW := hid how
    have HB := hid hb
    have HLK := hid hlk
    clear hg how hb hlk
    by_cases hlt : j < n
    · obtain ⟨k, rfl⟩ : ∃ k : Nat, kz = k := ⟨n - 1 - j, by omega⟩
      have HKJ : Hid (k = n - 1 - j) := hid (by omega)
      have hk8 : k < 8 := by omega
      have hk0 : (0 : Int) ≤ k := by omega
      have HBT := hid (take_be n x j hlt)
      obtain ⟨y, hy⟩ : ∃ y, y = x / 2 ^ (8 * k) % 256 := ⟨_, rfl⟩
      rw [← HKJ.out, ← pow256, ← hy] at HBT
      have hyB : IsB y := by unfold IsB; omega
      obtain ⟨W1, hW1⟩ : ∃ W1, W1 = wr.alloc (.cells #[.int .u8 y] 5) := ⟨_, rfl⟩
      have hb1 : Below wr.heap.size wr W1 := by rw [hW1]; exact (Below.refl _ _).alloc (Nat.le_refl _) _
      have hc1 : W1.cell? ⟨wr.heap.size, 0, none⟩ = some (.int .u8 y) := by rw [hW1, new_cell _ _ _ _ 0 (by simp)]; rfl
      obtain ⟨a2, c2, w2, hap, hg2, ho2, hb2, _, _⟩ := (HG1.out.later hb1).push (Nat.le_trans hBr hb1.size) [y] (by simpa using hyB) (by simp) ⟨wr.heap.size, 0, none⟩ 1 1 rfl (fun i u hi => by
        have hi2 : i < 1 := (List.getElem?_eq_some_iff.1 hi).1
        obtain rfl : i = 0 := by omega
        rw [add_addr, hc1]; simpa using hi) (by rw [HLK.out]; omega) 22
      rw [HLK.out] at hap hg2 ho2
      rw [List.append_assoc, ← HBT.out] at hg2 ho2
      have HG2 := hid hg2
      have HO2 := hid ho2
      have HB2 : Hid (Below B w w2) := hid ((HB.out.trans (hb1.mono hBr)).trans hb2)
      have HS2 : Hid (B ≤ w2.heap.size) := hid (Nat.le_trans (Nat.le_trans hBr hb1.size) hb2.size)
      have HKZ := hid hkz
      clear hb1 hc1 hg2 ho2 hb2 hkz
      have hWW : W1 = wr.alloc (.cells #[.int .u8 (x / 2 ^ (8 * k) % 256)] 5) := by rw [hW1, hy]
      clear hW1 hy
      go_wp2_with (at_builtin; rw [← hWW]; refine wpList_append_run rfl _ _ 22 rfl rfl rfl hap ?_)
      go_roundw
      case rel => exact ⟨j + 1, (k : Int) - 1, by omega, by have := HKZ.out; omega, by go_num, HG2.out, fun _ => HO2.out, HB2.out, HS2.out⟩
      case measure => first | (simp [RowKit.intOf]; done) | (simp [RowKit.intOf]; omega)
    · have hki : ¬ ((0 : Int) ≤ kz) := by omega
      obtain rfl : j = n := by omega
      clear hkz
      go_wp2
      go_ret
      have e : (bytesBe j x).take j = bytesBe j x := List.take_of_length_le (by rw [len_be]; exact Nat.le_refl _)
      have g1 := HG1.out
      have g2 := HOW.out (by omega)
      rw [e] at g1 g2
      exact ⟨a1, c1, rfl, ⟨g1.1, by rw [List.length_append, len_be]; exact g2⟩, HB.out⟩
set_option maxRecDepth 100000 in
set_option maxHeartbeats 1000000 in
theorem put_any (w : World) (B : Nat) (v : Value) (l : List Int) (m : Mac) (hm : m.ok) (h : Gr w B v l) (hB : B ≤ w.heap.size) (hv : ∀ g, v.ownBlock = some g → g < w.heap.size) (hl : l.length ≤ 800000) :
    Calls Try.prog 31 #[v, .agg (macC m)] w fun e w' => ∃ a c, e = .returned (.slice a (l.length + 6) c) ∧ GO w' B (.slice a (l.length + 6) c) (l ++ m.l) ∧ Below B w w' := by
  obtain ⟨a0, c0, rfl⟩ := h.slice
  obtain ⟨g3, hg3⟩ : ∃ g, w.heap.size = g := ⟨_, rfl⟩
  obtain ⟨V1, hV1⟩ : ∃ W, W = w.alloc (.cells (macC m) 23) := ⟨_, rfl⟩
  have b1 : Below w.heap.size w V1 := by rw [hV1]; exact below_alloc (Below.refl _ _) (Nat.le_refl _) _
  have h13 : V1.heap[g3]? = some (.cells (macC m) 23 (0, 0)) := by rw [hV1, ← hg3]; exact alloc_new w _
  have HG := hid (h.later b1)
  have HB1 := hid (b1.mono hB)
  have HBS := hid (Nat.le_trans hB b1.size)
  have H13 := hid h13
  have HMK := hid hm
  have HV := hid hv
  have HW := hV1.symm
  clear hV1 h b1 h13 hm hv
  go_enter Try.func31, Try.ntmps31
  go_wp2
  go_loopw [0, 5] (fun u z wr => ∃ (k : Nat), k ≤ 6 ∧ z = .int .i64 k ∧ Gr wr B u (l ++ m.l.take k) ∧ (0 < k → wr.ownsRow B 5 1 u (l.length + k) (u8s (l ++ m.l.take k))) ∧ Below B w wr ∧ B ≤ wr.heap.size ∧ wr.heap[g3]? = some (.cells (macC m) 23 (0, 0)) ∧ ∀ g, u.ownBlock = some g → g ≠ g3) (fun _ z _ => 6 - (RowKit.intOf z).toNat)
  case atStart =>
    exact ⟨0, Nat.zero_le _, rfl, by simpa using HG.out, fun h => by omega, HB1.out, HBS.out, H13.out, fun g hg e => by have := HV.out g hg; omega⟩
  case round =>
    obtain ⟨k, hk, rfl, hg, how, hb, hBr, h3, hob⟩ := hrel
    have hlk : (l ++ m.l.take k).length = l.length + k := by rw [List.length_append, List.length_take, Mac.len, Nat.min_eq_left hk]
    obtain ⟨a1, c1, e1⟩ := hg.slice
    rw [hlk] at e1
    subst e1
    have HG1 := hid hg
    have HOW := hid how
    have HB := hid hb
    have HLK := hid hlk
    clear hg how hb hlk
    by_cases hlt : k < 6
    · have hki : (k : Int) < 6 := by omega
      obtain ⟨y, hy, hyB, hcy⟩ : ∃ y, m.l.take (k + 1) = m.l.take k ++ [y] ∧ IsB y ∧ wr.cell? ⟨g3, k, none⟩ = some (.int .u8 y) := by
        refine ⟨m.l.getD k 0, take_snoc m.l k (by rw [Mac.len]; exact hlt), mem_getD m.l IsB HMK.out k (by rw [Mac.len]; exact hlt), ?_⟩
        rcases (show k = 0 ∨ k = 1 ∨ k = 2 ∨ k = 3 ∨ k = 4 ∨ k = 5 by omega) with rfl | rfl | rfl | rfl | rfl | rfl <;> exact cell_of h3 rfl
      obtain ⟨W1, hW1⟩ : ∃ W1, W1 = wr.alloc (.cells #[.int .u8 y] 5) := ⟨_, rfl⟩
      have hb1 : Below wr.heap.size wr W1 := by rw [hW1]; exact (Below.refl _ _).alloc (Nat.le_refl _) _
      have hc1 : W1.cell? ⟨wr.heap.size, 0, none⟩ = some (.int .u8 y) := by rw [hW1, new_cell _ _ _ _ 0 (by simp)]; rfl
      obtain ⟨a2, c2, w2, hap, hg2, ho2, hb2, hm2, hob2⟩ := (HG1.out.later hb1).push (Nat.le_trans hBr hb1.size) [y] (by simpa using hyB) (by simp) ⟨wr.heap.size, 0, none⟩ 1 1 rfl (fun i u hi => by
        have hi2 : i < 1 := (List.getElem?_eq_some_iff.1 hi).1
        obtain rfl : i = 0 := by omega
        rw [add_addr, hc1]; simpa using hi) (by rw [HLK.out]; omega) 22
      rw [HLK.out] at hap hg2 ho2 hob2
      rw [List.append_assoc, ← hy] at hg2 ho2
      have h3lt := (Array.getElem?_eq_some_iff.1 h3).1
      have H32 : Hid (w2.heap[g3]? = some (.cells (macC m) 23 (0, 0))) := hid ((hm2.block g3 (Nat.lt_of_lt_of_le h3lt hb1.size) (fun e => hob g3 e rfl)).trans ((hb1.block g3 h3lt).trans h3))
      have HO3 : Hid (∀ g, (Value.slice a2 (l.length + k + 1) c2).ownBlock = some g → g ≠ g3) := hid (fun g hg e => by
        rcases hob2 with h1 | ⟨g', h1, h2⟩
        · rw [h1] at hg; exact hob g hg e
        · rw [h2] at hg; simp at hg; have := hb1.size; omega)
      have HG2 := hid hg2
      have HO2 := hid ho2
      have HB2 : Hid (Below B w w2) := hid ((HB.out.trans (hb1.mono hBr)).trans hb2)
      have HS2 : Hid (B ≤ w2.heap.size) := hid (Nat.le_trans (Nat.le_trans hBr hb1.size) hb2.size)
      clear hb1 hc1 hg2 ho2 hb2 hm2 hob2 hob h3 hyB hy h3lt
      go_wp2_with (at_builtin; rw [← hW1]; refine wpList_append_run rfl _ _ 22 rfl rfl rfl hap ?_)
      go_roundw
      case rel => exact ⟨k + 1, by omega, by go_num, HG2.out, fun _ => HO2.out, HB2.out, HS2.out, H32.out, HO3.out⟩
      case measure => first | (simp [RowKit.intOf]; done) | (simp [RowKit.intOf]; omega)
    · have hki : ¬ ((k : Int) < 6) := by omega
      obtain rfl : k = 6 := by omega
      clear hob h3
      go_wp2
      go_ret
      have e : m.l.take 6 = m.l := List.take_of_length_le (by rw [Mac.len]; exact Nat.le_refl _)
      have g1 := HG1.out
      have g2 := HOW.out (by omega)
      rw [e] at g1 g2
      exact ⟨a1, c1, rfl, ⟨g1.1, by rw [List.length_append, Mac.len]; exact g2⟩, HB.out⟩
set_option maxRecDepth 100000 in
set_option maxHeartbeats 1000000 in
theorem mac_any (w : World) (a : Option Addr) (n c : Nat) (l : List Int) (hn : l.length = n) (h6 : 6 ≤ n) (hb : Bytes w a l) :
    Calls Try.prog 27 #[.slice a n c] w fun e w' => e = .returned (.agg (macC (macOf l))) ∧ Below w.heap.size w w' := by
  obtain ⟨b, off, rfl, hc⟩ := hb.open_ (by omega)
  obtain ⟨g, hg⟩ : ∃ g, w.heap.size = g := ⟨_, rfl⟩
  obtain ⟨W1, hW1⟩ : ∃ W, W = w.alloc (.cells #[.int .u8 0, .int .u8 0, .int .u8 0, .int .u8 0, .int .u8 0, .int .u8 0] 23) := ⟨_, rfl⟩
  have b1 : Below w.heap.size w W1 := by rw [hW1]; exact below_alloc (Below.refl _ _) (Nat.le_refl _) _
  have h1 : W1.heap[g]? = some (.cells zero6 23 (0, 0)) := by rw [hW1, ← hg]; exact alloc_new w _
  obtain ⟨g1, hg1⟩ : ∃ g1, W1.heap.size = g1 := ⟨_, rfl⟩
  obtain ⟨W2, hW2⟩ : ∃ W, W = W1.alloc (.cells #[.int .u8 0, .int .u8 0, .int .u8 0, .int .u8 0, .int .u8 0, .int .u8 0] 23) := ⟨_, rfl⟩
  have b12 : Below W1.heap.size W1 W2 := by rw [hW2]; exact below_alloc (Below.refl _ _) (Nat.le_refl _) _
  have h2 : W2.heap[g1]? = some (.cells zero6 23 (0, 0)) := by rw [hW2, ← hg1]; exact alloc_new W1 _
  have h21 := (b12.block g (Array.getElem?_eq_some_iff.1 h1).1).trans h1
  have hB2 := b1.trans (b12.mono b1.size)
  have HBY := hid hb
  have H2 := hid h2
  have H21 := hid h21
  have HB2 := hid hB2
  have HN := hid hn
  have HWG : Hid (w.heap.size = g) := hid hg
  have HSG : Hid (g < g1) := hid (by rw [← hg1]; exact (Array.getElem?_eq_some_iff.1 h1).1)
  have HW := hW1.symm
  have HV := hW2.symm
  have hni : 6 ≤ n := h6
  obtain ⟨m, hm⟩ : ∃ m, macOf l = m := ⟨_, rfl⟩
  rw [hm]
  have HMM := hid hm
  clear hm
  clear hW1 hW2 b1 h1 b12 h2 h21 hB2 hb hn h6 hc
  go_enter Try.func27, Try.ntmps27
  go_wp2
  go_loopw [4] (fun z wr => ∃ (k : Nat), k ≤ 6 ∧ z = .int .i64 k ∧ wr.rowIs g1 23 6 (fun i => if i < k then .int .u8 (l.getD i 0) else .int .u8 0) ∧ Below g1 W2 wr) (fun z _ => 6 - (RowKit.intOf z).toNat)
  case atStart => exact ⟨0, Nat.zero_le _, rfl, ⟨_, H2.out, rfl, fun i hi => by rcases (show i = 0 ∨ i = 1 ∨ i = 2 ∨ i = 3 ∨ i = 4 ∨ i = 5 by omega) with rfl | rfl | rfl | rfl | rfl | rfl <;> rfl⟩, Below.refl _ _⟩
  case round =>
    obtain ⟨k, hk, rfl, hr, hbw⟩ := hrel
    by_cases hlt : k < 6
    · have hki : (k : Int) < 6 := by omega
      have hkn : (k : Int) < n := by omega
      have hcb : wr.cell? ⟨b, off + k, none⟩ = some (.int .u8 (l.getD k 0)) := by
        obtain ⟨b', off', e, hcc⟩ := HBY.out.open_ (by rw [HN.out]; omega)
        simp only [Option.some.injEq, Addr.mk.injEq, and_true] at e
        obtain ⟨rfl, rfl⟩ := e
        have hc0 := hcc k (by rw [HN.out]; omega)
        have hc2 := cell_later HB2.out hc0
        have hlt2 : b < w.heap.size := by
          simp only [World.cell?] at hc0
          cases hbb : w.heap[b]? with
          | none => rw [hbb] at hc0; simp at hc0
          | some o => exact (Array.getElem?_eq_some_iff.1 hbb).1
        simp only [World.cell?] at hc2 ⊢
        rw [hbw.block b (by have := HWG.out; have := HSG.out; omega)]
        exact hc2
      generalize hyy : l.getD k 0 = y at *
      have hc1 := hr.cell (i := k) hlt
      have hf1 := hr.frozen k
      have HR : Hid ((wr.setCell ⟨g1, k, none⟩ (.int .u8 y)).rowIs g1 23 6 (fun i => if i < k + 1 then .int .u8 (l.getD i 0) else .int .u8 0)) := hid ((hr.set k (.int .u8 y)).congr (fun i hi => by
        by_cases e1 : i = k
        · subst e1; simp; exact hyy.symm
        · by_cases e2 : i < k
          · simp [e1, e2, show i < k + 1 by omega]
          · simp [e1, e2, show ¬ i < k + 1 by omega]))
      have HBW := hid (below_set hbw (p := k) (.int .u8 y))
      clear hr hbw hyy
      go_wp2
      go_roundw
      case rel => exact ⟨k + 1, by omega, by go_num, HR.out, HBW.out⟩
      case measure => first | (simp [RowKit.intOf]; done) | (simp [RowKit.intOf]; omega)
    · have hki : ¬ ((k : Int) < 6) := by omega
      obtain rfl : k = 6 := by omega
      have h3 := row6 hr
      have H3 : Hid (wr.heap[g1]? = some (.cells (macC m) 23 (0, 0))) := hid (by rw [h3, ← HMM.out]; rfl)
      have H3g := hid ((hbw.block g (by have := HSG.out; omega)).trans H21.out)
      have HBW := hid (HB2.out.trans (hbw.mono (show w.heap.size ≤ g1 by have := HSG.out; have := HWG.out; omega)))
      clear hr hbw h3
      go_wp2_with (first
        | (refine wpList_load_row rfl 23 _ rfl g1 rfl 23 _ (0, 0) _ H3.out Try.underlying23 rfl size6 ?_)
        | (refine wpList_store_row rfl 23 _ _ rfl g (macC m) rfl rfl 23 _ H3g.out size6 rfl (macC_one m) ?_))
      refine bodyPost_ret (results_a rfl _ _ g (macC m) _ _ _ rfl (setRow_heap _ g _ _ _ _ H3g.out) Try.underlying23 size6) rfl ⟨rfl, ?_⟩
      have hbz := (setRow_mods wr g (macC m)).to_below HBW.out HBW.out.size (fun x hx => by rw [hx, HWG.out]; exact Nat.le_refl _)
      first | exact hbz | (rw [HWG.out] at hbz; exact hbz)
end Go.Proofs.Ytlflbpemjlgdiaa
