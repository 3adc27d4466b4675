/- The document's Record. -/
import Derived.Test.YtoifeioijoancaaDoorWfA
namespace Go.Proofs.YtoifeioijoancaaDoor
open Go.RowKit Go.Maps
set_option linter.unusedVariables false

theorem Gr.of_const (w : World) (B : Nat) (l : List Int) (n : Nat) (fr : Nat × Nat) (hn : l.length = n) (hl : ∀ x ∈ l, IsB x) : Gr (w.alloc (.cells (u8s l).toArray 5 fr)) B (.slice (some ⟨w.heap.size, 0, none⟩) n n) l := by
  subst hn
  exact ⟨hl, .inr ⟨w.heap.size, 0, rfl, (by_const w l fr hl).weak (fun _ _ _ => trivial)⟩⟩
theorem By.cells {w : World} {S : Nat → Prop} {b off : Nat} {d : List Int} (h : By w S (some ⟨b, off, none⟩) d) : ∀ j u, (u8s d)[j]? = some u → w.cell? ((⟨b, off, none⟩ : Addr).add j) = some u := fun j u hj => by
  have hj2 : j < d.length := by have := (List.getElem?_eq_some_iff.1 hj).1; simpa using this
  obtain ⟨b', off', cur, fr, ea, _, hh, hcur⟩ := h.2 (by omega)
  simp only [Option.some.injEq, Addr.mk.injEq, and_true] at ea
  obtain ⟨rfl, rfl⟩ := ea
  rw [u8s_get hj2] at hj
  rw [add_addr]
  simp [World.cell?, hh, hcur j hj2]
  simpa using hj
theorem blk_mem_take {L : List Pw} {j : Nat} (h : j < L.length) (b : Int) (h1 : b ∉ ((L.map Pw.pt).take j).map Pt.blk) (h2 : (L.getD j default).blk ≠ b) : b ∉ ((L.map Pw.pt).take (j + 1)).map Pt.blk := by
  rw [blks_take L j h]
  simp only [List.mem_append, List.mem_singleton, not_or]
  exact ⟨h1, fun e => h2 e.symm⟩
theorem blk_in_take {L : List Pw} {j k : Nat} (h : j < k) (hk : k ≤ L.length) : (L.getD j default).blk ∈ ((L.map Pw.pt).take k).map Pt.blk := by
  rw [List.mem_map]
  refine ⟨(L.getD j default).pt, ?_, rfl⟩
  rw [List.mem_take_iff_getElem]
  have hj : j < L.length := by omega
  exact ⟨j, by simp; omega, by simp [List.getD, hj]⟩
theorem Low' (w : World) (B : Nat) (v : Value) (l : List Int) (h : Gr w B v l) (hB : B ≤ w.heap.size) (n : Nat) (N x : Int) (hN : N = n) (hn : n = 4 ∨ n = 8) (h0 : 0 ≤ x) (h1 : x < 18446744073709551616) (hl : l.length ≤ 900000) (m : Nat) (hm : l.length + n = m) (K : List Int) (hK : l ++ bytesLe n x = K) :
    Calls Tryd.prog 45 #[v, .int .i64 N, .int .u64 x] w fun e w' => ∃ a c, e = .returned (.slice a m c) ∧ Gr w' B (.slice a m c) K ∧ w'.ownsRow B 5 1 (.slice a m c) m (u8s K) ∧ Below B w w' := by
  subst hm hK
  exact Low_any w B v l h hB n N x hN hn h0 h1 hl
theorem Noughts' (w : World) (B : Nat) (v : Value) (l : List Int) (h : Gr w B v l) (hB : B ≤ w.heap.size) (n : Nat) (N : Int) (hN : N = n) (hn : 0 < n) (hl : l.length + n ≤ 900000) (m : Nat) (hm : l.length + n = m) (K : List Int) (hK : l ++ List.replicate n 0 = K) :
    Calls Tryd.prog 46 #[v, .int .i64 N] w fun e w' => ∃ a c, e = .returned (.slice a m c) ∧ Gr w' B (.slice a m c) K ∧ w'.ownsRow B 5 1 (.slice a m c) m (u8s K) ∧ Below B w w' := by
  subst hm hK
  exact Noughts_any w B v l h hB n N hN hn hl
theorem pts_snoc (L : List Pw) (k : Nat) (h : k < L.length) : (L.map Pw.pt).take (k + 1) = (L.map Pw.pt).take k ++ [(L.getD k default).pt] := by
  rw [List.take_succ_eq_append_getElem (by simpa using h)]; simp [List.getD, h]
theorem datL_snoc (l : List Pt) (p : Pt) : datL (l ++ [p]) = datL l ++ p.dat := by simp [datL]
theorem datL_len (l : List Pt) (h : ∀ p ∈ l, p.dat.length = 512) : (datL l).length = 512 * l.length := by
  induction l with
  | nil => rfl
  | cons x l ih =>
    have := h x (by simp)
    have h2 := ih (fun p hp => h p (by simp [hp]))
    simp only [datL, List.map_cons, List.flatten_cons, List.length_append, List.length_cons] at h2 ⊢
    omega
theorem datL_isB (l : List Pt) (h : ∀ p ∈ l, ∀ x ∈ p.dat, IsB x) : ∀ x ∈ datL l, IsB x := by
  intro x hx
  unfold datL at hx
  rw [List.mem_flatten] at hx
  obtain ⟨l1, hl1, hx1⟩ := hx
  rw [List.mem_map] at hl1
  obtain ⟨p, hp, rfl⟩ := hl1
  exact h p hp x hx1
set_option maxRecDepth 100000 in
set_option maxHeartbeats 1000000 in
theorem refRecord_any (w : World) (S : Nat → Prop) (a : Option Addr) (c : Nat) (L : List Pw) (seq : Int) (h0 : 0 ≤ seq) (h1 : seq < 18446744073709551616) (h : Ps w S a L) (hl : L.length ≤ 1000000) :
    Calls Tryd.prog 12 #[.int .u64 seq, .slice a L.length c] w fun e w' => ((badG (L.map Pw.pt) ≠ 0 ∧ e = .returned (.tuple #[.slice none 0 0, .agg #[.int .i64 0, .slice none 0 0], .int .i64 (badG (L.map Pw.pt))])) ∨ (Good (L.map Pw.pt) ∧ ∃ v M a2 c2, e = .returned (.tuple #[v, .agg #[.int .i64 ((L.length : Int) + 1), .slice a2 512 c2], .int .i64 0]) ∧ PO w' (New w) v M ∧ M.map Pw.pt = recL seq (L.map Pw.pt) ∧ By w' (New w) a2 (endL seq (sumL seq (L.map Pw.pt))) ∧ 512 ≤ c2)) ∧ Below w.heap.size w w' := by
  obtain ⟨W0, hW0⟩ : ∃ W0, W0 = w.alloc (.cells #[.int .i64 0, .slice none 0 0] 29) := ⟨_, rfl⟩
  have hb0 : Below w.heap.size w W0 := by rw [hW0]; exact (Below.refl _ _).alloc (Nat.le_refl _) _
  have hh0 : W0.heap[w.heap.size]? = some (.cells #[.int .i64 0, .slice none 0 0] 29 (0, 0)) := by rw [hW0]; exact alloc_new w _
  have hs0 : W0.heap.size = w.heap.size + 1 := by rw [hW0]; simp
  have hc0 : W0.cell? ⟨w.heap.size, 0, none⟩ = some (.int .i64 0) := cell_of hh0 rfl
  have hc1 : W0.cell? ⟨w.heap.size, 1, none⟩ = some (.slice none 0 0) := cell_of hh0 rfl
  have hf0 := fun i => froz_of hh0 i
  have HB0 := hid hb0
  have HH0 := hid hh0
  have HS0 := hid hs0
  have HP := hid (h.later hb0)
  obtain ⟨n, hn⟩ : ∃ n, n = L.length := ⟨_, rfl⟩
  have HN := hid hn
  rw [← hn] at hl ⊢
  have HW0 := hid (set2 hh0 (.int .i64 0) (.slice none 0 0))
  have HBW : Hid (∀ W x y, Below W0.heap.size W0 W → Below w.heap.size w ((W.setCell ⟨w.heap.size, 0, none⟩ x).setCell ⟨w.heap.size, 1, none⟩ y)) := hid (fun W x y hb => (((hb0.trans (hb.mono hb0.size)).setCell (Nat.le_refl _) _).setCell (Nat.le_refl _) _))
  have HHX : Hid (∀ W, Below W0.heap.size W0 W → W.heap[w.heap.size]? = some (.cells #[.int .i64 0, .slice none 0 0] 29 (0, 0))) := hid (fun W hb => (hb.block _ (Array.getElem?_eq_some_iff.1 hh0).1).trans hh0)
  by_cases hz : n = 0
  · have hB : badG (L.map Pw.pt) = 2 := by unfold badG; rw [List.length_map, ← hn, if_pos hz]
    rw [hB]
    subst hz
    clear h hn hb0 hh0 hs0 hB
    go_enter Tryd.func12, Tryd.ntmps12
    go_wp2_with (rw [← hW0]; clear hW0)
    exact bodyPost_ret (results_tct rfl _ _ _ _ _ _ rfl HW0.out Tryd.underlying29 sizePut) rfl ⟨.inl ⟨by decide, rfl⟩, HBW.out _ _ _ (Below.refl _ _)⟩
  by_cases hm : 64 < n
  · have hB : badG (L.map Pw.pt) = 4 := by unfold badG; rw [List.length_map, ← hn, if_neg hz, if_pos hm]
    rw [hB]
    have g0 : ((n : Int) == 0) = false := by rw [beq_eq_false_iff_ne]; omega
    have g1 : (64 : Int) < n := by omega
    clear h hn hb0 hh0 hs0 hB
    go_enter Tryd.func12, Tryd.ntmps12
    go_wp2_with (rw [← hW0]; clear hW0)
    exact bodyPost_ret (results_tct rfl _ _ _ _ _ _ rfl HW0.out Tryd.underlying29 sizePut) rfl ⟨.inl ⟨by decide, rfl⟩, HBW.out _ _ _ (Below.refl _ _)⟩
  have hB : badG (L.map Pw.pt) = badFrom (L.map Pw.pt) 0 n := by unfold badG; rw [List.length_map, ← hn, if_neg hz, if_neg hm]
  obtain ⟨R, hR⟩ : ∃ R, R = badG (L.map Pw.pt) := ⟨_, rfl⟩
  rw [← hR] at hB ⊢
  have HR := hid hR
  have HBF := hid hB
  have g0 : ((n : Int) == 0) = false := by rw [beq_eq_false_iff_ne]; omega
  have g1 : ¬ (64 : Int) < n := by omega
  have hn64 : n ≤ 64 := by omega
  clear h hn hb0 hh0 hs0 hB hR hm hl
  go_enter Tryd.func12, Tryd.ntmps12
  go_wp2_with (rw [← hW0]; clear hW0)
  clear hc0 hc1 hf0
  go_loopw [7, 8, 9] (fun z _ _ wr => ∃ k : Nat, k ≤ n ∧ z = .int .i64 k ∧ R = badFrom (L.map Pw.pt) k (n - k) ∧ Below W0.heap.size W0 wr) (fun z _ _ _ => n - (RowKit.intOf z).toNat)
  case atStart => exact ⟨0, Nat.zero_le _, rfl, HBF.out, Below.refl _ _⟩
  case round =>
    obtain ⟨k, hk, rfl, hbf, hb⟩ := hrel
    have HBK := hid hbf
    have HB := hid hb
    clear hbf HBF
    by_cases hlt : k < n
    · have hki : (k : Int) < n := by omega
      have hkL : k < L.length := by rw [← HN.out]; exact hlt
      obtain ⟨gl, off, ha, _, hc0, hc1⟩ := HP.out.at_ hkL
      subst ha
      have hc0' := cell_later hb hc0
      have hc1' := cell_later hb hc1
      have HC0 := hid hc0
      have HE : Hid (badAt (L.map Pw.pt) k = if badOf (L.getD k default).blk (L.getD k default).dat.length ≠ 0 then badOf (L.getD k default).blk (L.getD k default).dat.length else if (L.getD k default).blk ∈ ((L.map Pw.pt).take k).map Pt.blk then 8 else 0) := hid (by unfold badAt; rw [map_getD L k hkL]; rfl)
      have HBT : Hid (∀ j, j < k → (L.getD j default).blk ∈ ((L.map Pw.pt).take k).map Pt.blk) := hid (fun j hj => blk_in_take hj (by omega))
      generalize L.getD k default = P at *
      have HCW := hid (wrong_any wr P.blk P.a P.dat.length P.c)
      obtain ⟨E, hE⟩ : ∃ E, badOf P.blk P.dat.length = E := ⟨_, rfl⟩
      rw [hE] at HE HCW
      clear hE hb hc0 hc1
      by_cases hz : E = 0
      · subst hz
        go_wp2_with fail
        refine HCW.out.mono ?_
        rintro e w2 ⟨rfl, hb2⟩
        have HB2 : Hid (Below W0.heap.size W0 w2) := hid (HB.out.trans (hb2.mono HB.out.size))
        clear hb2 HCW hc0' hc1'
        go_wp2
        go_loopw [9] (fun z wq => ∃ j : Nat, j ≤ k ∧ z = .int .i64 j ∧ P.blk ∉ ((L.map Pw.pt).take j).map Pt.blk ∧ Below W0.heap.size W0 wq) (fun z _ => k - (RowKit.intOf z).toNat)
        case atStart => exact ⟨0, Nat.zero_le _, rfl, by simp, HB2.out⟩
        case round =>
          obtain ⟨j, hj, rfl, hnm, hb⟩ := hrel
          have HNM := hid hnm
          have HBq := hid hb
          clear hnm HB2
          by_cases hjk : j < k
          · have hjki : (j : Int) < k := by omega
            have hjL : j < L.length := by omega
            obtain ⟨gl', off', ha', _, hd0, _⟩ := HP.out.at_ hjL
            simp only [Option.some.injEq, Addr.mk.injEq, and_true] at ha'
            obtain ⟨rfl, rfl⟩ := ha'
            have e0 : ∀ q, (wr.drewN q).cell? ⟨gl, off + j * 2, none⟩ = some (.int .i64 (L.getD j default).blk) := fun q => cell_later (w := W0) (w' := wr.drewN q) (below_drewN hb q) hd0
            have e1 : ∀ q, (wr.drewN q).cell? ⟨gl, off + k * 2, none⟩ = some (.int .i64 P.blk) := fun q => cell_later (w := W0) (w' := wr.drewN q) (below_drewN hb q) HC0.out
            have HMT := hid (@blk_mem_take L j hjL P.blk HNM.out)
            have HBI := hid (HBT.out j hjk)
            have hjn : (j : Int) < n := by omega
            generalize L.getD j default = Qj at *
            clear hb hd0
            by_cases heq : Qj.blk = P.blk
            · have g2 : (Qj.blk == P.blk) = true := by simp [heq]
              rw [heq] at HBI
              clear heq HMT
              go_wp2
              go_quiet (fail)
              have hh := fun q => HHX.out (wr.drewN q) (below_drewN HBq.out q)
              have k0 := fun q => cell_of (i := 0) (hh q) rfl
              have k1 := fun q => cell_of (i := 1) (hh q) rfl
              have kf := fun q i => froz_of (hh q) i
              have HW := hid (fun q => set2 (hh q) (.int .i64 0) (.slice none 0 0))
              have HBX := hid (fun q => HBW.out (wr.drewN q) (.int .i64 0) (.slice none 0 0) (below_drewN HBq.out q))
              have HNX : Hid (R = 8) := hid (by
                have := HE.out
                rw [if_neg (by simp), if_pos HBI.out] at this
                rw [HBK.out, show n - k = n - (k + 1) + 1 by omega, badFrom_hit (by rw [this]; decide), this])
              clear hh
              go_wp2
              exact bodyPost_ret (results_tct rfl _ _ _ _ _ _ rfl (HW.out _) Tryd.underlying29 sizePut) rfl ⟨.inl ⟨by rw [HNX.out]; decide, by rw [HNX.out]; rfl⟩, HBX.out _⟩
            · have g2 : (Qj.blk == P.blk) = false := by simpa using heq
              have HMT2 := hid (HMT.out heq)
              clear heq HMT HBI
              go_wp2
              go_quiet (fail)
              go_wp2
              go_roundw
              case rel => exact ⟨j + 1, by omega, by go_num, HMT2.out, below_drewN HBq.out _⟩
              case measure => simp [RowKit.intOf]; omega
          · have hjki : ¬ ((j : Int) < k) := by omega
            obtain rfl : j = k := by omega
            have HNX : Hid (R = badFrom (L.map Pw.pt) (j + 1) (n - (j + 1))) := hid (by
              have := HE.out
              rw [if_neg (by simp), if_neg HNM.out] at this
              rw [HBK.out, show n - j = n - (j + 1) + 1 by omega, badFrom_miss this])
            clear hb
            go_wp2
            go_roundw
            case rel => exact ⟨j + 1, by omega, by go_num, HNX.out, HBq.out⟩
            case measure => simp [RowKit.intOf]; omega
      · have g2 : (E != 0) = true := by simpa using hz
        have HNX : Hid (R = E) := hid (by
          have := HE.out
          rw [if_pos hz] at this
          rw [HBK.out, show n - k = n - (k + 1) + 1 by omega, badFrom_hit (by rw [this]; exact hz), this])
        go_wp2_with fail
        refine HCW.out.mono ?_
        rintro e w2 ⟨rfl, hb2⟩
        have HB2 : Hid (Below W0.heap.size W0 w2) := hid (HB.out.trans (hb2.mono HB.out.size))
        have hh := HHX.out _ HB2.out
        have k0 := cell_of (i := 0) hh rfl
        have k1 := cell_of (i := 1) hh rfl
        have kf := fun i => froz_of hh i
        have HW := hid (set2 hh (.int .i64 0) (.slice none 0 0))
        have HBX := hid (HBW.out _ (.int .i64 0) (.slice none 0 0) HB2.out)
        clear hb2 HCW hc0' hc1' hh
        go_wp2
        exact bodyPost_ret (results_tct rfl _ _ _ _ _ _ rfl HW.out Tryd.underlying29 sizePut) rfl ⟨.inl ⟨by rw [HNX.out]; exact hz, by rw [HNX.out]; rfl⟩, HBX.out⟩
    · have hki : ¬ ((k : Int) < n) := by omega
      obtain rfl : k = n := by omega
      have HG : Hid (Good (L.map Pw.pt)) := hid (Good.of (by rw [← HR.out, HBK.out, Nat.sub_self]; rfl))
      rename World => V
      have HOK : Hid (∀ p ∈ L, 0 ≤ p.blk ∧ p.blk < 4294967296 ∧ p.dat.length = 512) := hid (fun p hp => HG.out.ok p.pt (List.mem_map_of_mem hp))
      have hs0 : w.heap.size < V.heap.size := by have := HS0.out; have := hb.size; omega
      have HBC : Hid (∀ W, Below V.heap.size V W → Below W0.heap.size W0 W) := hid (fun W h => hb.trans (h.mono hb.size))
      have HPr := hid (HP.out.later hb)
      have kc := fun (w : World) (C : Array Value) (n c : Nat) => Lib.run_convert_bytes_const (P := Tryd.prog) w 27 5 C n c Tryd.underlying27 Tryd.underlying5
      obtain ⟨W1, hW1⟩ : ∃ W1, W1 = V.alloc (.cells (u8s headW).toArray 5 (8, 9)) := ⟨_, rfl⟩
      have hb1 : Below V.heap.size V W1 := by rw [hW1]; exact (Below.refl _ _).alloc (Nat.le_refl _) _
      have hg1 : Gr W1 V.heap.size (.slice (some ⟨V.heap.size, 0, none⟩) 8 8) headW := by rw [hW1]; exact Gr.of_const V _ headW 8 (8, 9) rfl headW_isB
      have HC1 := hid (Low' W1 V.heap.size _ headW hg1 hb1.size 8 8 seq rfl (.inr rfl) h0 h1 (by decide) 16 rfl _ rfl)
      have HB1 := hid hb1
      have hWW : W1 = V.alloc (.cells #[.int .u8 71, .int .u8 82, .int .u8 78, .int .u8 72, .int .u8 69, .int .u8 65, .int .u8 68, .int .u8 49] 5 (8, 9)) := hW1
      clear hb hb1 hg1 hW1 HBK HB
      go_wp2_with fail
      rw [← hWW]
      clear hWW kc
      refine HC1.out.mono ?_
      rintro e w2 ⟨a2, c2, rfl, hg2, _, hb2⟩
      have HB2 : Hid (Below V.heap.size V w2) := hid (HB1.out.trans hb2)
      have HC2 := hid (Low' w2 V.heap.size _ _ hg2 HB2.out.size 4 4 (k : Int) rfl (.inl rfl) (by omega) (by omega) (by simp [len_le, headW]) 20 (by simp [len_le, headW]) (headB seq k []) (by simp [headB]))
      clear hg2 hb2 HC1 HB1
      go_wp2_with fail
      refine HC2.out.mono ?_
      rintro e w3 ⟨a3, c3, rfl, hg3, _, hb3⟩
      have HB3 : Hid (Below V.heap.size V w3) := hid (HB2.out.trans hb3)
      have HG3 := hid hg3
      clear hg3 hb3 HC2 HB2
      go_wp2
      go_loopw [10, 11] (fun v z wq => ∃ j : Nat, j ≤ k ∧ z = .int .i64 j ∧ Gr wq V.heap.size v (headB seq k ((L.map Pw.pt).take j)) ∧ Below V.heap.size V wq) (fun _ z _ => k - (RowKit.intOf z).toNat)
      case atStart => exact ⟨0, Nat.zero_le _, rfl, HG3.out, HB3.out⟩
      case round =>
        obtain ⟨j, hj, rfl, hg, hb⟩ := hrel
        have HG1 := hid hg
        have HBq := hid hb
        have hlen : (headB seq k ((L.map Pw.pt).take j)).length = 20 + 4 * j := by
          have := HN.out
          rw [headB_len, List.length_take, List.length_map, Nat.min_eq_left (by omega)]
        have HLN := hid hlen
        obtain ⟨a4, c4, e4⟩ := hg.slice
        rw [hlen] at e4
        obtain ⟨m, hm⟩ : ∃ m, m = 20 + 4 * j := ⟨_, rfl⟩
        rw [← hm] at e4 HLN
        subst e4
        have HM := hid hm
        clear hg hlen HG3 HB3 hm
        by_cases hjk : j < k
        · have hji : (j : Int) < k := by omega
          have hjL : j < L.length := by rw [← HN.out]; exact hjk
          obtain ⟨gl, off, ha, _, hc0, hc1⟩ := HPr.out.at_ hjL
          subst ha
          replace hc0 := cell_later hb hc0
          have HSN : Hid (headB seq k ((L.map Pw.pt).take (j + 1)) = headB seq k ((L.map Pw.pt).take j) ++ bytesLe 4 (L.getD j default).blk) := hid (by exact headB_snoc seq k L j hjL)
          obtain ⟨ok0, ok1, _⟩ := HOK.out _ (getD_memP hjL)
          generalize L.getD j default = P at *
          have HC := hid (Low' _ V.heap.size _ _ HG1.out HBq.out.size 4 4 P.blk rfl (.inl rfl) ok0 (by omega) (by have := HM.out; rw [HLN.out]; omega) (m + 4) (by rw [HLN.out]) _ HSN.out.symm)
          clear hb hc1
          go_wp2_with fail
          refine HC.out.mono ?_
          rintro e w4 ⟨a5, c5, rfl, hg5, _, hb5⟩
          have HB5 := hid (HBq.out.trans hb5)
          have HG5 := hid hg5
          clear hb5 hg5 HC
          go_wp2
          go_roundw
          case rel => exact ⟨j + 1, by omega, by go_num, HG5.out, HB5.out⟩
          case measure => simp [RowKit.intOf]; omega
        · have hji : ¬ ((j : Int) < k) := by omega
          obtain rfl : j = k := by omega
          have e1 : (L.map Pw.pt).take j = L.map Pw.pt := List.take_of_length_le (by rw [List.length_map, ← HN.out]; exact Nat.le_refl _)
          have hPl : (L.map Pw.pt).length = j := by rw [List.length_map, ← HN.out]
          have hg := HG1.out
          have hln := HLN.out
          rw [e1] at hg hln
          have hm2 : m ≤ 276 := by have := HM.out; omega
          have HC1 := hid (Noughts' _ V.heap.size _ _ hg HBq.out.size (508 - m) (508 - (m : Int)) (by omega) (by omega) (by rw [hln]; omega) 508 (by rw [hln]; omega) (headP seq (L.map Pw.pt)) (by unfold headP pad; rw [hPl, hln]))
          have HPL := hid hPl
          clear hg hln e1 hb hPl HG1 HLN
          go_wp2_with fail
          refine HC1.out.mono ?_
          rintro e w4 ⟨a5, c5, rfl, hg5, ho5, hb5⟩
          have HB5 := hid (HBq.out.trans hb5)
          have hpl : (headP seq (L.map Pw.pt)).length = 508 := headP_len _ _ (by rw [HPL.out]; exact hn64)
          obtain ⟨_, _, e5, hc5, _, hy5⟩ := By.of_owns (S := New V) ho5 (headP_isB _ _) (fun g hg => (owns_lt ho5 hg).2)
          simp only [Value.slice.injEq, true_and] at e5
          obtain ⟨rfl, rfl⟩ := e5
          have hcrc := refCrc_any a5 c5 (headP seq (L.map Pw.pt)) w4 (by rw [hpl]; omega) hy5.bytes
          rw [hpl] at hcrc
          have EC : 4294967295 - crcOn 4294967295 (headP seq (L.map Pw.pt)) = crcL (headP seq (L.map Pw.pt)) := rfl
          rw [EC] at hcrc
          have hbd := crcL_bd (headP seq (L.map Pw.pt)) (headP_isB _ _)
          have hHL0 : headP seq (L.map Pw.pt) ++ bytesLe 4 (crcL (headP seq (L.map Pw.pt))) = headL seq (L.map Pw.pt) := rfl
          obtain ⟨q, hq⟩ : ∃ q, q = crcL (headP seq (L.map Pw.pt)) := ⟨_, rfl⟩
          rw [← hq] at hcrc hbd hHL0
          have hq0 := hbd.1
          have hq1 := hbd.2
          obtain ⟨HL, hHL⟩ : ∃ HL, HL = headL seq (L.map Pw.pt) := ⟨_, rfl⟩
          rw [← hHL] at hHL0
          have hHLl : HL.length = 512 := by rw [hHL]; exact headL_len _ _ (by rw [HPL.out]; exact hn64)
          have HHL := hid hHL
          have HHI : Hid (∀ x ∈ HL, IsB x) := hid (by rw [hHL]; exact headL_isB _ _)
          have HHLl := hid hHLl
          have HCR := hid hcrc
          have HC2 := hid (Low' w4 V.heap.size _ _ hg5 HB5.out.size 4 4 q rfl (.inl rfl) hq0 (by omega) (by rw [hpl]; omega) 512 (by rw [hpl]) HL hHL0)
          clear hg5 ho5 hb5 hpl hc5 hy5 hcrc EC hbd hHL0 hq hHL hHLl HC1 HBq
          go_wp2_with (first | (go_at_call 47; refine HCR.out.mono ?_; rintro e w11 ⟨rfl, hw11⟩; rw [hw11]; clear hw11) | fail)
          refine HC2.out.mono ?_
          rintro e w5 ⟨a6, c6, rfl, hg6, ho6, hb6⟩
          have HB6 := hid (HB5.out.trans hb6)
          obtain ⟨_, _, e6, hc6, _, hy6⟩ := By.of_owns (S := New V) ho6 HHI.out (fun g hg => (owns_lt ho6 hg).2)
          simp only [Value.slice.injEq, true_and] at e6
          obtain ⟨rfl, rfl⟩ := e6
          obtain ⟨W7, hW7⟩ : ∃ W7, W7 = w5.alloc (.cells #[.int .i64 0, .slice a6 512 c6] 29) := ⟨_, rfl⟩
          have hb7 : Below w5.heap.size w5 W7 := by rw [hW7]; exact (Below.refl _ _).alloc (Nat.le_refl _) _
          have hh7 : W7.heap[w5.heap.size]? = some (.cells #[.int .i64 0, .slice a6 512 c6] 29 (0, 0)) := by rw [hW7]; exact alloc_new w5 _
          have hs7 : W7.heap.size = w5.heap.size + 1 := by rw [hW7]; simp
          obtain ⟨a8, c8, w8, hap8, hy8, hc8, hb8, ho8⟩ := twinB W7 (New V) a6 512 c6 HL HHLl.out (by omega) (by omega) (hy6.later hb7) 27
          have hVs : V.heap.size ≤ w5.heap.size := HB6.out.size
          rw [hs7] at hap8
          have HPO : Hid (PO w8 (fun b => V.heap.size ≤ b ∧ (Value.slice a8 512 c8).ownBlock ≠ some b) (.slice (some ⟨w5.heap.size, 0, none⟩) 1 1) [⟨0, a6, c6, HL⟩]) := hid (by
            refine ⟨⟨by simp [cellsP], .inr ⟨w5.heap.size, 1, #[.int .i64 0, .slice a6 512 c6], rfl, Nat.zero_le _, ?_, by simp, by simp [maxLen], rfl, by simp [cellsP, HHLl.out]⟩⟩, fun g hg => ?_, fun p hp => ?_⟩
            · exact (hb8.block _ (Array.getElem?_eq_some_iff.1 hh7).1).trans hh7
            · simp [Value.ownBlock] at hg
              refine ⟨by omega, fun e => ?_⟩
              have := (owns_lt ho8 e).2
              omega
            · simp at hp
              subst hp
              refine ⟨((hy6.later hb7).weak (fun b hb hl => ⟨hb, fun e => ?_⟩)).later hb8, by simp only; rw [HHLl.out]; exact hc6⟩
              have := (owns_lt ho8 e).2
              omega)
          have HO8 : Hid (w8.ownsRow V.heap.size 5 1 (.slice a8 512 c8) 512 (u8s HL)) := hid (owns_base ho8 (fun g hg => by have := (owns_lt ho8 hg).2; omega))
          have HB8 : Hid (Below V.heap.size V w8) := hid ((HB6.out.trans (hb7.mono hVs)).trans (hb8.mono (by omega)))
          clear hb6 hg6 ho6 hc6 hy6 hb7 hh7 hs7 hy8 hc8 hb8 ho8 hVs HC2 HCR HB5 HB6
          go_wp2_with (first | rw [← hW7] | (at_builtin; refine wpList_append_run rfl _ _ 27 rfl rfl rfl hap8 ?_))
          clear hap8 hW7
          go_loopw [12, 13, 14] (fun v12 v13 z wq => ∃ (i : Nat) (M : List Pw), i ≤ j ∧ z = .int .i64 i ∧ PO wq (fun b => V.heap.size ≤ b ∧ v13.ownBlock ≠ some b) v12 M ∧ M.map Pw.pt = ⟨0, HL⟩ :: rowsFrom 1 ((L.map Pw.pt).take i) ∧ M.length = i + 1 ∧ wq.ownsRow V.heap.size 5 1 v13 (512 + 512 * i) (u8s (HL ++ datL ((L.map Pw.pt).take i))) ∧ Below V.heap.size V wq) (fun _ _ z _ => j - (RowKit.intOf z).toNat)
          case atStart => exact ⟨0, _, Nat.zero_le _, rfl, HPO.out, rfl, rfl, by simpa [datL] using HO8.out, HB8.out⟩
          case round =>
            obtain ⟨i, M, hi, rfl, hpo, hM, hMl, ho, hb⟩ := hrel
            have HPO1 := hid hpo
            have HM1 := hid hM
            have HML := hid hMl
            have HO1 := hid ho
            have HBq := hid hb
            obtain ⟨a12, c12, e12, _, _⟩ := hpo.ps
            obtain ⟨a13, c13, e13⟩ := owns_slice ho
            rw [hMl] at e12
            obtain ⟨m2, hm2⟩ : ∃ m2, m2 = 512 + 512 * i := ⟨_, rfl⟩
            rw [← hm2] at e13 HO1
            subst e12 e13
            have HM2 := hid hm2
            have HLL : Hid ((HL ++ datL ((L.map Pw.pt).take i)).length = m2) := hid (by have := HO1.out.1; simpa using this)
            have HLI : Hid (∀ x ∈ HL ++ datL ((L.map Pw.pt).take i), IsB x) := hid (fun x hx => by
              rcases List.mem_append.1 hx with h | h
              · exact HHI.out x h
              · refine datL_isB _ (fun p hp => ?_) x h
                obtain ⟨p', hp', rfl⟩ := List.mem_map.1 (List.mem_of_mem_take hp)
                exact (HPr.out.1 p' hp').1.isB)
            clear hpo hM hMl ho hm2 HPO HO8 HB8
            by_cases hik : i < j
            · have hii : (i : Int) < j := by omega
              have hiL : i < L.length := by rw [← HN.out]; exact hik
              obtain ⟨gl, off, ha, _, hc0, hc1⟩ := HPr.out.at_ hiL
              subst ha
              have hPl := (HOK.out _ (getD_memP hiL)).2.2
              have HPD := hid (HPr.out.dat hiL)
              have HSN := hid (pts_snoc L i hiL)
              have HTL : Hid (((L.map Pw.pt).take i).length = i) := hid (by simp; omega)
              rw [hPl] at hc1
              generalize L.getD i default = P at *
              have HPL := hid hPl
              obtain ⟨bd, od, _, _, hPa, _⟩ := HPD.out.1.2 (by rw [hPl]; omega)
              rw [hPa] at hc1 HPD
              have HPa := hid hPa
              obtain ⟨W5, hW5⟩ : ∃ W5, W5 = wr.alloc (.cells #[] 5) := ⟨_, rfl⟩
              obtain ⟨a6', c6', w6, hap6, hy6, hc6, hb6, ho6⟩ := twinB wr S (some ⟨bd, od, none⟩) 512 P.c P.dat hPl (by omega) (by omega) (HPD.out.1.later hb) 27
              rw [← hW5] at hap6
              have hcA : (wr.alloc (.cells #[] 5)).cell? ⟨gl, off + i * 2 + 1, none⟩ = some (.slice (some ⟨bd, od, none⟩) 512 P.c) := by exact cell_later (hb.trans ((Below.refl _ _).alloc hb.size _)) hc1
              have hcB : W5.cell? ⟨gl, off + i * 2 + 1, none⟩ = some (.slice (some ⟨bd, od, none⟩) 512 P.c) := by rw [hW5]; exact hcA
              obtain ⟨W7, hW7⟩ : ∃ W7, W7 = w6.alloc (.cells #[.int .i64 ((i : Int) + 1), .slice a6' 512 c6'] 29) := ⟨_, rfl⟩
              have hb7 : Below w6.heap.size w6 W7 := by rw [hW7]; exact (Below.refl _ _).alloc (Nat.le_refl _) _
              have hh7 : W7.heap[w6.heap.size]? = some (.cells #[.int .i64 ((i : Int) + 1), .slice a6' 512 c6'] 29 (0, 0)) := by rw [hW7]; exact alloc_new w6 _
              have hb07 : Below wr.heap.size wr W7 := hb6.trans (hb7.mono hb6.size)
              have hown13 : ∀ b, (Value.slice a13 m2 c13).ownBlock = some b → b < wr.heap.size ∧ V.heap.size ≤ b := fun b hb => owns_lt HO1.out hb
              have hown12 : ∀ b, (Value.slice a12 (i + 1) c12).ownBlock = some b → b < wr.heap.size ∧ V.heap.size ≤ b := fun b hb => ⟨(owns_lt HPO1.out.1 hb).1, (HPO1.out.2.1 b hb).1⟩
              have hVw : V.heap.size ≤ wr.heap.size := hb.size
              have hy7 : By W7 (fun b => V.heap.size ≤ b ∧ (Value.slice a13 m2 c13).ownBlock ≠ some b) a6' P.dat := (hy6.later hb7).weak (fun b hb2 _ => by
                have h2 : wr.heap.size ≤ b := hb2
                exact ⟨by omega, fun e => by have := (hown13 b e).1; omega⟩)
              obtain ⟨a8', n8, c8', w8, hap8, hn8, hpo8, hm8, hob8⟩ := PO.push (HPO1.out.later hb07) ⟨(i : Int) + 1, a6', c6', P.dat⟩ hy7 (by simp only; rw [HPL.out]; exact hc6) w6.heap.size 0 (cell_of hh7 rfl) (by simp only; rw [HPL.out]; exact cell_of hh7 rfl) 1 (by rw [HML.out]; omega) 25
              have hm8' : Mods (fun b => (Value.slice a12 (i + 1) c12).ownBlock = some b) W7 w8 := hm8
              have hb8 : Below V.heap.size V w8 := hm8'.to_below (hb.trans (hb07.mono hb.size)) (Nat.le_trans hVw hb07.size) (fun b hb => (hown12 b hb).2)
              have ho7 := owns_keep HO1.out (fun g hg => hb07.block g (hown13 g hg).1)
              have hpo7 := HPO1.out.later hb07
              have ho8 : w8.ownsRow V.heap.size 5 1 (.slice a13 m2 c13) m2 (u8s (HL ++ datL ((L.map Pw.pt).take i))) := owns_keep ho7 (fun g hg => hm8'.block g (owns_lt ho7 hg).1 (fun e => by
                obtain ⟨cur, hk⟩ := owns_kind hpo7.1 e
                exact owns_other ho7 (t := 29) (by decide) g cur _ hg hk))
              have hyP8 := HPD.out.1.later hb8
              have hc18 := cell_later hb8 hc1
              have hg8 : Gr w8 V.heap.size (.slice a13 m2 c13) (HL ++ datL ((L.map Pw.pt).take i)) := ⟨HLI.out, .inl (by rw [HLL.out]; exact ho8)⟩
              obtain ⟨a9, c9, w9, hap9, hg9, ho9, hb9, hm9, hob9⟩ := hg8.push hb8.size P.dat hyP8.isB (by rw [hPl]; omega) ⟨bd, od, none⟩ 512 P.c hPl hyP8.cells (by rw [HLL.out]; have := HM2.out; omega) 27
              rw [HLL.out] at hap9 ho9 hob9
              have hs78 : W7.heap.size ≤ w8.heap.size := hm8.size
              have hs07 : wr.heap.size ≤ W7.heap.size := hb07.size
              have hpo8' := hpo8.weak (S' := fun b => V.heap.size ≤ b ∧ (Value.slice a13 m2 c13).ownBlock ≠ some b ∧ (Value.slice a9 (m2 + 512) c9).ownBlock ≠ some b) (fun b hb2 hl => by
                have h1 : V.heap.size ≤ b ∧ (Value.slice a13 m2 c13).ownBlock ≠ some b := by
                  rcases hb2 with h | h
                  · exact h
                  · exact ⟨by omega, fun e => by have := (hown13 b e).1; omega⟩
                refine ⟨h1.1, h1.2, fun e => ?_⟩
                rcases hob9 with e2 | ⟨g, hg, e2⟩
                · exact h1.2 (by rw [← e2]; exact e)
                · rw [e2] at e; simp at e; omega)
              have HPO9 : Hid (PO w9 (fun b => V.heap.size ≤ b ∧ (Value.slice a9 (m2 + 512) c9).ownBlock ≠ some b) (.slice a8' n8 c8') (M ++ [⟨(i : Int) + 1, a6', c6', P.dat⟩])) := hid ((hpo8'.keep (fun b hb2 hl => hm9.block b hl hb2.2.1)).weak (fun b hb2 _ => ⟨hb2.1, hb2.2.2⟩))
              have HO9 : Hid (w9.ownsRow V.heap.size 5 1 (.slice a9 (m2 + 512) c9) (512 + 512 * (i + 1)) (u8s (HL ++ datL ((L.map Pw.pt).take (i + 1))))) := hid (by
                have e : 512 + 512 * (i + 1) = m2 + 512 := by have := HM2.out; omega
                rw [e, HSN.out, datL_snoc, ← List.append_assoc]
                exact ho9)
              have HB9 : Hid (Below V.heap.size V w9) := hid (hb8.trans hb9)
              have HN8 := hid hn8
              clear hb hc0 hc1 hPl hPa hy6 hc6 hb6 ho6 hb7 hh7 hb07 hown13 hown12 hVw hy7 hpo8 hm8 hm8' hob8 hn8 hb8 ho7 hpo7 ho8 hyP8 hg8 hg9 ho9 hb9 hm9 hob9 hs78 hs07 hpo8'
              go_wp2_with (first | (rw [← hW5]; clear hW5) | (at_builtin; refine wpList_append_run rfl _ _ 27 rfl rfl rfl hap6 ?_; clear hap6) | (rw [← hW7]; clear hW7) | (at_builtin; refine wpList_append_run rfl _ _ 25 rfl rfl rfl hap8 ?_; clear hap8) | (at_builtin; refine wpList_append_run rfl _ _ 27 rfl rfl rfl hap9 ?_; clear hap9))
              go_roundw
              case rel =>
                refine ⟨i + 1, _, by omega, by go_num, HPO9.out, ?_, by simp [HML.out], HO9.out, HB9.out⟩
                rw [List.map_append, HM1.out, HSN.out, rowsFrom_snoc, HTL.out]
                simp [Pw.pt]
                omega
              case measure => simp [RowKit.intOf]; omega
            · have hii : ¬ ((i : Int) < j) := by omega
              obtain rfl : i = j := by omega
              have e1 : (L.map Pw.pt).take i = L.map Pw.pt := List.take_of_length_le (by rw [HPL.out]; exact Nat.le_refl _)
              have hM := HM1.out
              have ho := HO1.out
              have hll := HLL.out
              have hli := HLI.out
              rw [e1] at hM ho hll hli
              have HEM : Hid (M.map Pw.pt = recL seq (L.map Pw.pt)) := hid (by rw [hM, HHL.out]; rfl)
              have kc := fun (w : World) (C : Array Value) (n c : Nat) => Lib.run_convert_bytes_const (P := Tryd.prog) w 27 5 C n c Tryd.underlying27 Tryd.underlying5
              obtain ⟨W1, hW1⟩ : ∃ W1, W1 = wr.alloc (.cells (u8s endW).toArray 5 (8, 9)) := ⟨_, rfl⟩
              have hb1 : Below wr.heap.size wr W1 := by rw [hW1]; exact (Below.refl _ _).alloc (Nat.le_refl _) _
              have hg1 : Gr W1 wr.heap.size (.slice (some ⟨wr.heap.size, 0, none⟩) 8 8) endW := by rw [hW1]; exact Gr.of_const wr _ endW 8 (8, 9) rfl endW_isB
              have HC1 := hid (Low' W1 wr.heap.size _ endW hg1 hb1.size 8 8 seq rfl (.inr rfl) h0 h1 (by decide) 16 rfl _ rfl)
              have HB1 := hid hb1
              have hWW : W1 = wr.alloc (.cells #[.int .u8 71, .int .u8 82, .int .u8 78, .int .u8 84, .int .u8 65, .int .u8 73, .int .u8 76, .int .u8 49] 5 (8, 9)) := hW1
              obtain ⟨_, _, e13, hc13, _, hy13⟩ := By.of_owns (S := fun _ => True) ho hli (fun _ _ => trivial)
              simp only [Value.slice.injEq, true_and] at e13
              obtain ⟨rfl, rfl⟩ := e13
              have hbd := crcL_bd _ hli
              have ESM : crcL (HL ++ datL (L.map Pw.pt)) = sumL seq (L.map Pw.pt) := by unfold sumL; rw [← HHL.out]
              rw [ESM] at hbd
              have HCRC : Hid (∀ W, Below wr.heap.size wr W → Calls Tryd.prog 47 #[.slice a13 m2 c13] W fun e w' => e = .returned (.int .u32 (sumL seq (L.map Pw.pt))) ∧ w' = W) := hid (fun W hbW => by
                have := refCrc_any a13 c13 (HL ++ datL (L.map Pw.pt)) W (by rw [hll]; have := HM2.out; omega) (hy13.later hbW).bytes
                rw [hll] at this
                rw [← ESM]
                exact this)
              obtain ⟨sm, hsm⟩ : ∃ sm, sm = sumL seq (L.map Pw.pt) := ⟨_, rfl⟩
              rw [← hsm] at hbd HCRC
              have hsm0 := hbd.1
              have hsm1 := hbd.2
              have HSM := hid hsm
              have HVw : Hid (V.heap.size ≤ wr.heap.size) := hid hb.size
              clear hb hb1 hg1 hW1 e1 hM ho hll hli hc13 hy13 hbd ESM hsm HM1 HO1 HLL HLI
              go_wp2_with fail
              rw [← hWW]
              clear hWW kc
              refine HC1.out.mono ?_
              rintro e w2 ⟨a2, c2, rfl, hg2, _, hb2⟩
              have HB2 : Hid (Below wr.heap.size wr w2) := hid (HB1.out.trans hb2)
              have HC2 := hid (Low' w2 wr.heap.size _ _ hg2 HB2.out.size 4 4 sm rfl (.inl rfl) hsm0 (by omega) (by simp [len_le, endW]) 20 (by simp [len_le, endW]) (endB seq sm) rfl)
              have HCR := hid (HCRC.out w2 HB2.out)
              clear hg2 hb2 HC1 HB1 HCRC
              go_wp2_with (first | (go_at_call 47; refine HCR.out.mono ?_; rintro e w11 ⟨rfl, hw11⟩; rw [hw11]; clear hw11) | fail)
              refine HC2.out.mono ?_
              rintro e w3 ⟨a3, c3, rfl, hg3, _, hb3⟩
              have HB3 : Hid (Below wr.heap.size wr w3) := hid (HB2.out.trans hb3)
              have HC3 := hid (Noughts' w3 wr.heap.size _ _ hg3 HB3.out.size 492 492 rfl (by omega) (by rw [endB_len]; omega) 512 (by rw [endB_len]) (endL seq sm) (by unfold endL pad; rw [endB_len]))
              clear hg3 hb3 HC2 HB2 HCR
              go_wp2_with fail
              refine HC3.out.mono ?_
              rintro e w4 ⟨a4, c4, rfl, _, ho4, hb4⟩
              have hb4' : Below wr.heap.size wr w4 := HB3.out.trans hb4
              obtain ⟨_, _, e4, hc4, _, hy4⟩ := By.of_owns (S := New w) ho4 (endL_isB _ _) (fun g hg => by have h1 := (owns_lt ho4 hg).2; have h2 := HVw.out; show w.heap.size ≤ g; omega)
              simp only [Value.slice.injEq, true_and] at e4
              obtain ⟨rfl, rfl⟩ := e4
              have hBV : Below V.heap.size V w4 := HBq.out.trans (hb4'.mono HVw.out)
              have hh := HHX.out w4 (HBC.out w4 hBV)
              have k0 := cell_of (i := 0) hh rfl
              have k1 := cell_of (i := 1) hh rfl
              have kf := fun i => froz_of hh i
              have HW := hid (set2 hh (.int .i64 ((i : Int) + 1)) (.slice a4 512 c4))
              have HBX := hid (HBW.out w4 (.int .i64 ((i : Int) + 1)) (.slice a4 512 c4) (HBC.out w4 hBV))
              have hmo : Mods (fun b => b = w.heap.size) w4 ((w4.setCell ⟨w.heap.size, 0, none⟩ (.int .i64 ((i : Int) + 1))).setCell ⟨w.heap.size, 1, none⟩ (.slice a4 512 c4)) := ((Mods.refl (fun b => b = w.heap.size) w4).setCell w.heap.size 0 _ rfl).setCell w.heap.size 1 _ rfl
              have hk5 : ∀ g cur fr, g = w.heap.size → w4.heap[g]? = some (.cells cur 5 fr) → False := fun g cur fr e e2 => by subst e; rw [hh] at e2; simp at e2
              have HY := hid (hy4.mods hmo hk5)
              have HC44 := hid hc4
              have HPOz := hid (((HPO1.out.later hb4').keep (w' := (w4.setCell ⟨w.heap.size, 0, none⟩ (.int .i64 ((i : Int) + 1))).setCell ⟨w.heap.size, 1, none⟩ (.slice a4 512 c4)) (fun b hb hl => hmo.block b hl (by have := hb.1; omega))).weak (S' := New w) (fun b hb _ => by have := hb.1; show w.heap.size ≤ b; omega))
              clear ho4 hb4 hb4' hc4 hy4 hBV hh hmo hk5 HC3 HB3
              go_wp2
              refine bodyPost_ret (results_tct rfl _ _ _ _ _ _ rfl HW.out Tryd.underlying29 sizePut) rfl ⟨.inr ⟨HG.out, _, M, a4, c4, rfl, HPOz.out, HEM.out, by rw [← HSM.out]; exact HY.out, HC44.out⟩, HBX.out⟩
end Go.Proofs.YtoifeioijoancaaDoor
