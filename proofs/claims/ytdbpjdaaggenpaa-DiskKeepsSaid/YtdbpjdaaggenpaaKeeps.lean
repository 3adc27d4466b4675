/- DiskKeeps: for all calls and picks it returns true: behind a flush no crash changes anything; what was not flushed is, block by block, something that stood there. No condition. -/
import Derived.Test.YtdbpjdaaggenpaaKeepsR
namespace Go.Proofs.Ytdbpjdaaggenpaa.diskKeeps
open Go.RowKit

theorem below_drewN {B : Nat} {a w : World} (h : Below B a w) (n : Nat) : Below B a (w.drewN n) := ⟨h.os, h.tape, h.output, h.size, h.block⟩
theorem info51 : (Try.prog.info? 51).map (fun i => (i.zero, i.size, i.bytes)) = some (some (.slice none 0 0), 1, 24) := by kernel_rfl
set_option maxRecDepth 100000 in
set_option maxHeartbeats 1000000 in
theorem walkB (a0 a1 a2 : Option Addr) (c0 c1 c2 : Nat) (cs0 cs1 : List Cl) (picks : List Int) (w : World) (hcl0 : ClAt w a0 cs0) (hcl1 : ClAt w a1 cs1) (hp : Ints w a2 picks) :
    Calls Try.prog 5 #[.slice a0 cs0.length c0, .slice a1 cs1.length c1, .slice a2 picks.length c2] w fun e w' => e = .returned (.bool true) ∧ Below w.heap.size w w' := by
  have HC0 := hid hcl0
  have HC1 := hid hcl1
  have HP := hid hp
  clear hcl0 hcl1 hp
  go_enter Try.func5, Try.ntmps5
  go_wp2_with fail
  refine (known_any w).mono ?_
  rintro e w1 ⟨rfl, hb1⟩
  have HB1 := hid hb1
  clear hb1
  go_wp2_with fail
  refine (New_any 16 (by omega) w1).mono ?_
  rintro e w2 ⟨pd, al, rfl, hb2, hd2, ha2⟩
  have H2 : Hid (St w.heap.size w w2 pd (keepA (noDisk 16) cs0 0) 0 al) := hid ⟨hd2, fun b hb => Nat.le_trans HB1.out.size (ha2 b hb), HB1.out.trans (hb2.mono HB1.out.size), Nat.le_trans HB1.out.size hb2.size⟩
  clear hd2 ha2 hb2 HB1
  go_wp2_with fail
  go_loopw [9] (fun i wr => ∃ k : Nat, k ≤ cs0.length ∧ k ≤ 30 ∧ i = .int .i64 k ∧ ∃ al', St w.heap.size w wr pd (keepA (noDisk 16) cs0 k) k al') (fun i _ => 30 - (RowKit.intOf i).toNat)
  case atStart => exact ⟨0, Nat.zero_le _, Nat.zero_le _, rfl, al, H2.out⟩
  case round =>
    obtain ⟨k, hk1, hk2, rfl, al', hst⟩ := hrel
    have H := hid hst
    clear hst H2
    by_cases hlt : k < cs0.length ∧ k < 30
    · obtain ⟨hlt, hl2⟩ := hlt
      obtain ⟨cb, co, ha0, _, hc1, _, hc3, _, _, _, _, hbB, _⟩ := HC0.out k hlt
      subst ha0
      have hki : (k : Int) < (cs0.length : Int) := by omega
      have hki2 : (k : Int) < 30 := by omega
      have hst1 : ∀ w' : World, Below w.heap.size w w' → w'.cell? ⟨cb, co + k * 5 + 1, none⟩ = some (.int .i64 (cs0.getD k default).at_) ∧ w'.cell? ⟨cb, co + k * 5 + 3, none⟩ = some (.int .u8 (cs0.getD k default).b) := fun w' hb => ⟨cell_later hb hc1, cell_later hb hc3⟩
      have HS := hid hst1
      have hS0 := hst1 wr.drew H.out.drew.bel
      have hnext : keepA (noDisk 16) cs0 (k + 1) = wr1 (keepA (noDisk 16) cs0 k) (wi (cs0.getD k default).at_ 16) (blk (cs0.getD k default).b) := rfl
      generalize (cs0.getD k default).at_ = at_ at hc1 hst1 HS hS0 hnext
      generalize (cs0.getD k default).b = b at hc3 hst1 HS hS0 hnext hbB
      have HNx := hid hnext
      clear hc1 hc3 hst1 hnext
      go_wp2_with fail
      go_region_held3 (fun w' => w'.cell? ⟨cb, co + k * 5 + 1, none⟩ = some (.int .i64 at_) ∧ w'.cell? ⟨cb, co + k * 5 + 3, none⟩ = some (.int .u8 b)) ((first | exact hS0 | exact HS.out _ hbw4 | exact HS.out _ hbw5))
        ((first
          | (go_at_call 13; refine (within_any at_ 16 (by omega) (by omega) _).mono ?_; rintro e w2 ⟨rfl, hw⟩; rw [hw]; clear hw w2)
          | (go_at_call 20; refine (block_f b wr.drew).mono ?_; rintro e w4 ⟨rfl, hb4, hf4⟩; have H4 := hid (H.out.drew.below hb4); have HF4 := hid hf4; have HN4 := hid (St.new H.out.disk (Nat.le_refl _)); have hbw4 := H4.out.bel; clear hb4 hf4)
          | (go_at_call 14; refine (WriteBlk w4 pd _ _ al' H4.out.disk (wi at_ 16) _ _ HF4.out (blk_len _) (blk_isB _) HN4.out (has16 _ rfl cs0 k _ (wi_bd at_ 16 (by omega))) (by omega)).mono ?_; rintro e w5 ⟨rfl, hst⟩; have hx := H4.out.step hst; obtain ⟨al5, s5, hsub, hmo⟩ := hx; have hbw5 := s5.bel; have H5 := hid s5; clear hst s5 hsub hmo)))
      go_wp2
      go_roundw
      case rel =>
        refine ⟨k + 1, by omega, by omega, by go_num, al5, ?_⟩
        rw [HNx.out]; exact H5.out
      case measure => simp [RowKit.intOf]; omega
    · have hcc : (decide ((k : Int) < (cs0.length : Int)) && decide ((k : Int) < 30)) = false := by
        by_cases h1 : k < cs0.length
        · simp; omega
        · simp; omega
      have hcc2 : ¬ ((k : Int) < (cs0.length : Int) ∧ (k : Int) < 30) := by omega
      obtain ⟨wx, rfl⟩ : ∃ wx, wx = wr := ⟨wr, rfl⟩
      have hA0N : (keepA (noDisk 16) cs0 k).N = 16 := keepA_N _ _ _
      obtain ⟨A0, hA0⟩ : ∃ A0, A0 = keepA (noDisk 16) cs0 k := ⟨_, rfl⟩
      rw [← hA0] at H hA0N
      clear hA0 hcc hlt
      obtain ⟨A2, hA2⟩ : ∃ A2 : Abs, A2 = { A0 with P := lastOf A0, V := fun _ => [] } := ⟨_, rfl⟩
      have hA2N : A2.N = 16 := by rw [hA2]; exact hA0N
      have HA2V : Hid (A2.V = fun _ => []) := hid (by rw [hA2])
      have HA2 := hid hA2
      clear hA2
      go_wp2_with fail
      all_goals
        refine (Flush_any wx pd _ _ al' H.out.disk (by omega)).mono ?_
        rintro e w3 ⟨rfl, hst⟩
        obtain ⟨al3, s3, _, _⟩ := H.out.step hst
        rw [← HA2.out] at s3
        have H3 := hid s3
        clear s3 hst H HA2
        go_wp2_with fail
        refine (read_f w3 pd _ _ al3 H3.out.disk 0 16 8192 rfl (by omega) (by rw [hA2N]; decide)).mono ?_
        rintro e w4 ⟨rfl, hb4, hf4, hl4⟩
        have H4 := hid (H3.out.below hb4)
        have HF4 := hid hf4
        have HL4 := hid hl4
        have HNw := hid (St.new H3.out.disk (Nat.le_refl _))
        have HBk : Hid (∀ i : Nat, i < 16 → (blockOf A2 (i : Int)).length = 512 ∧ ∀ j, j < 512 → (readTo A2 0 16).getD (512 * i + j) 0 = (blockOf A2 (i : Int)).getD j 0) := hid fun i hi => by
          obtain ⟨_, _, _, _, d⟩ := H3.out.disk
          have hbl : ∀ i : Nat, i < 16 → (blockOf A2 (0 + (i : Int))).length = 512 := fun i hi => d.block_len _ (isI_of (by omega) (by omega))
          have e0 : (0 : Int) + (i : Int) = i := by omega
          refine ⟨by rw [← e0]; exact hbl i hi, fun j hj => ?_⟩
          rw [readTo_get A2 0 16 hbl i j hi hj, e0]
        have HP4 := hid (HP.out.below H4.out.bel)
        have HO4 := hid (HP.out.off H4.out.size H4.out.own)
        clear hb4 hf4 hl4 H3
        go_wp2_with fail
        refine (Crash_any w4 pd _ _ al3 H4.out.disk (by omega) a2 c2 picks HP4.out HO4.out).mono ?_
        rintro e w5 ⟨L5, hL5, rfl, hst⟩
        have hL50 := dirty_none hL5 (fun k => by rw [HA2V.out])
        subst hL50
        obtain ⟨al5, s5, hsub5, hmo5⟩ := H4.out.step hst
        have eA : ({ A2 with P := crashTo A2 [] picks (min ([] : List Int).length picks.length), V := fun _ => [] } : Abs) = A2 := by
          have := HA2V.out
          cases A2
          simp only at this
          subst this
          simp [crashTo]
        rw [eA] at s5
        have H5 := hid s5
        have HF5 := hid (HF4.out.mods hmo5 HNw.out)
        clear s5 hst H4 hL5 HP4 HO4 HF4 hsub5 hmo5 eA HNw
        go_wp2_with fail
        refine (read_f w5 pd _ _ al5 H5.out.disk 0 16 8192 rfl (by omega) (by rw [hA2N]; decide)).mono ?_
        rintro e w6 ⟨rfl, hb6, hf6, hl6⟩
        have hcv1 := (HF5.out.below hb6).conv HL4.out
        have hcv2 := hf6.conv hl6
        have H6 := hid (H5.out.below hb6)
        have HF6 := hid (HF5.out.below hb6)
        clear hb6 hf6 hl6 H5 HF5
        have hmk := run_make_row' (P := Try.prog) 50 51 (.slice none 0 0) 24 Try.underlying50 info51 rfl .i64 .i64 16 (by omega) (by omega)
        rw [show ((16 : Nat) : Int) = 16 by omega] at hmk
        go_wp2_with fail
        clear hmk hcv1 hcv2
        go_loopw [15] (fun i wr => ∃ q : Nat, q ≤ 16 ∧ i = .int .i64 q ∧ wr.heap.size = w6.heap.size + 1 + q ∧ wr.rowIs w6.heap.size 51 16 (fun i => if i < q then .slice (some ⟨w6.heap.size + 1 + i, 0, none⟩) 1 1 else .slice none 0 0) ∧
            (∀ i, i < q → wr.heap[w6.heap.size + 1 + i]? = some (.cells #[.string (strOfNums (blockOf A2 (i : Int)))] 9 (0, 0))) ∧ Below w6.heap.size w6 wr) (fun i _ => 16 - (RowKit.intOf i).toNat)
        case atStart => exact ⟨0, by omega, rfl, by simp, (World.rowIs_made _ _ _ _).congr fun i hi => by simp, fun i hi => by omega, (Below.refl _ _).alloc (Nat.le_refl _) _⟩
        case round =>
          obtain ⟨q, hq, rfl, hsz, hrow, hcel, hbe⟩ := hrel
          have HZ := hid hsz
          have HR := hid hrow
          have HCe := hid hcel
          have HBe := hid hbe
          clear hsz hcel hbe
          by_cases hql : q < 16
          · have hqi : (q : Int) < 16 := by omega
            have hsl := cut_run2 w3.heap.size 8192 (512 * q) (512 * q + 512) (by omega) (by omega)
            rw [show 512 * q + 512 - 512 * q = 512 by omega, show ((512 * q + 512 : Nat) : Int) = 512 * (q : Int) + 512 by omega, show ((512 * q : Nat) : Int) = 512 * (q : Int) by omega] at hsl
            have e1 : IntKind.i64.wrap (512 * (q : Int)) = 512 * (q : Int) := IntWalk.i64_in _ (by omega)
            have e2 : IntKind.i64.wrap (512 * (q : Int) + 512) = 512 * (q : Int) + 512 := IntWalk.i64_in _ (by omega)
            have hcv : (convert 42 9 (.slice (some ⟨w3.heap.size, 512 * q, none⟩) 512 (8192 - 512 * q))).run Try.prog wr = .ok (.string (strOfNums (blockOf A2 (q : Int)))) wr :=
              Fresh.convAt (HF6.out.below HBe.out) q _ _ (HBk.out q hql).1 (by rw [HL4.out]; omega) (HBk.out q hql).2
            obtain ⟨s, hs⟩ : ∃ s, s = strOfNums (blockOf A2 (q : Int)) := ⟨_, rfl⟩
            rw [← hs] at hcv
            have HSs := hid hs
            have hgl := hrow.lt
            obtain ⟨v0, hc0⟩ : ∃ v, (wr.alloc (.cells #[.string s] 9)).cell? ⟨w6.heap.size, q, none⟩ = some v := ⟨_, (hrow.alloc _).cell hql⟩
            have hf0 := (hrow.alloc (.cells #[.string s] 9)).frozen q
            clear hs hrow
            go_wp2
            go_roundw
            case rel =>
              refine ⟨q + 1, by omega, by go_num, by simp [World.setCell, HZ.out]; omega, ?_, ?_, ?_⟩
              · refine ((HR.out.set q _).alloc _).congr fun i hi => ?_
                rw [HZ.out]
                by_cases e : i = q
                · subst e; simp
                · have : (i < q + 1) = (i < q) := by simp; omega
                  simp [e, this]
              · intro i hi
                have hss : (wr.setCell ⟨w6.heap.size, q, none⟩ (.slice (some ⟨wr.heap.size, 0, none⟩) 1 1)).heap.size = wr.heap.size := by simp [World.setCell]
                by_cases e : i = q
                · subst e
                  have := (MapKept.heap_alloc (wr.setCell ⟨w6.heap.size, i, none⟩ (.slice (some ⟨wr.heap.size, 0, none⟩) 1 1)) (.cells #[.string s] 9)).1
                  rw [hss, HZ.out, HSs.out] at this
                  rw [HSs.out, HZ.out]
                  exact this
                · rw [Below.heap_alloc _ _ _ (by rw [hss, HZ.out]; omega), Below.heap_setCell _ _ _ _ (by simp; omega)]
                  exact HCe.out i (by omega)
              · exact (HBe.out.setCell (p := ⟨w6.heap.size, q, none⟩) (Nat.le_refl _) _).alloc (by simp [World.setCell]; exact HBe.out.size) _
            case measure => simp [RowKit.intOf]; omega
          · have hqi : ¬ ((q : Int) < 16) := by omega
            obtain rfl : q = 16 := by omega
            obtain ⟨wy, rfl⟩ : ∃ wy, wy = wr := ⟨wr, rfl⟩
            have hse : SeenAt wy w6.heap.size (fun i => w6.heap.size + 1 + i) (fun _ => 1) (fun i => seenL A2 (keepA A2 cs1 0) i) (fun b => w6.heap.size ≤ b ∧ b < w6.heap.size + 17) := by
              have eS : ∀ i, seenL A2 (keepA A2 cs1 0) i = [strOfNums (blockOf A2 (i : Int))] := fun i => by simp [seenL, keepA, HA2V.out]
              refine { row := HR.out.congr fun i hi => by rw [eS]; simp [hi], own := fun i hi => ?_, ap := fun i j _ _ e => by omega, lt := fun b hb => by have := HZ.out; omega, sgs := by omega, sg := fun i hi => by omega }
              rw [eS]
              exact ⟨by simp, .inr ⟨w6.heap.size + 1 + i, 1, _, rfl, Nat.zero_le _, HCe.out i hi, Nat.le_refl _, by decide, by simp, by simp⟩⟩
            have HSe := hid hse
            have H7 := hid (H6.out.below HBe.out)
            have HAp : Hid (∀ b, al5 b → ¬ (w6.heap.size ≤ b ∧ b < w6.heap.size + 17)) := hid fun b h1 h2 => by have := H6.out.disk.lt b h1; omega
            have HW6 := hid H6.out.size
            clear hse HR HCe HBe HZ H6 HF6 hrow HBk HL4
            clear hcc2
            obtain ⟨n7, hn7⟩ : ∃ n7, n7 = k + 65536 + 65536 := ⟨_, rfl⟩
            rw [← hn7] at H7
            have hn7b : n7 ≤ 200000 := by omega
            clear hn7
            go_wp2_with fail
            go_loopw [16] (fun i wr => ∃ j : Nat, j ≤ cs1.length ∧ j ≤ 30 ∧ i = .int .i64 j ∧ ∃ al' G C se, St w.heap.size w wr pd (keepA A2 cs1 j) (n7 + j) al' ∧ SeenAt wr w6.heap.size G C (fun i => seenL A2 (keepA A2 cs1 j) i) se ∧ (∀ b, al' b → ¬ se b) ∧ ∀ b, se b → w.heap.size ≤ b) (fun i _ => 30 - (RowKit.intOf i).toNat)
            case atStart => exact ⟨0, Nat.zero_le _, Nat.zero_le _, rfl, al5, _, _, _, H7.out, HSe.out, HAp.out, fun b hb => Nat.le_trans HW6.out hb.1⟩
            case round =>
              obtain ⟨j, hj1, hj2, rfl, al', G, C, se, hst, hse, hap, hsB⟩ := hrel
              have H := hid hst
              have HSE := hid hse
              have HAP := hid hap
              have HSB := hid hsB
              clear hst hse hap hsB H7 HSe HAp
              obtain ⟨wk, rfl⟩ : ∃ wk, wk = wr := ⟨wr, rfl⟩
              by_cases hlj : j < cs1.length ∧ j < 30
              · obtain ⟨hlj, hl2⟩ := hlj
                obtain ⟨cb, co, ha0, _, hc1, _, hc3, _, _, _, _, hbB, _⟩ := HC1.out j hlj
                subst ha0
                have hki : (j : Int) < (cs1.length : Int) := by omega
                have hki2 : (j : Int) < 30 := by omega
                have hst1 : ∀ w' : World, Below w.heap.size w w' → w'.cell? ⟨cb, co + j * 5 + 3, none⟩ = some (.int .u8 (cs1.getD j default).b) := fun w' hb => cell_later hb hc3
                have hc1' := cell_later H.out.bel hc1
                have hc3' := cell_later H.out.bel hc3
                have hnext : keepA A2 cs1 (j + 1) = wr1 (keepA A2 cs1 j) (wi (cs1.getD j default).at_ 16) (blk (cs1.getD j default).b) := rfl
                generalize (cs1.getD j default).at_ = at_ at hc1' hnext
                generalize (cs1.getD j default).b = b at hc3' hst1 hnext
                obtain ⟨x, hxe⟩ : ∃ x : Nat, wi at_ 16 = (x : Int) := ⟨(wi at_ 16).toNat, by have := wi_bd at_ 16 (by omega); omega⟩
                have hx : x < 16 := by have := wi_bd at_ 16 (by omega); omega
                have hwn := hid (within_any at_ 16 (by omega) (by omega))
                rw [hxe] at hwn hnext
                have HSof := hid hst1
                have HNx := hid hnext
                clear hc1 hc3 hst1 hnext hxe
                go_wp2_with fail
                refine (hwn.out wk).mono ?_
                rintro e wk' ⟨rfl, hw⟩
                rw [hw]
                clear hw wk' hwn
                go_wp2_with fail
                refine (block_f b wk).mono ?_
                rintro e w4 ⟨rfl, hb4, hf4⟩
                have H4 := hid (H.out.below hb4)
                have HF4 := hid hf4
                have HN4 := hid (St.new H.out.disk (Nat.le_refl _))
                have HSE4 := hid (HSE.out.keep hb4.size (fun b hb => hb4.block b (HSE.out.lt b hb)))
                clear hb4 hf4 H HSE
                go_wp2_with fail
                refine (WriteBlk w4 pd _ _ al' H4.out.disk x _ _ HF4.out (blk_len _) (blk_isB _) HN4.out (has16 A2 hA2N cs1 j x (by omega)) (by omega)).mono ?_
                rintro e w5 ⟨rfl, hst⟩
                obtain ⟨al9, s5, hsub, hmo⟩ := H4.out.step hst
                have HSt := hid s5
                have HSe5 := hid (HSE4.out.keep hmo.size (fun b hb => hmo.block b (HSE4.out.lt b hb) (fun h => HAP.out b h hb)))
                have HAp5 : Hid (∀ b, al9 b → ¬ se b) := hid fun b h1 h2 => by
                  rcases hsub b h1 with h | h
                  · exact HAP.out b h h2
                  · have := HSE4.out.lt b h2; omega
                have HLen : Hid ((seenL A2 (keepA A2 cs1 j) x).length ≤ 1099511627776) := hid (by
                  obtain ⟨_, _, _, _, d⟩ := H4.out.disk
                  have := d.vL (x : Int)
                  simp only [seenL, List.length_cons, List.length_map]
                  omega)
                clear s5 hst hsub hmo H4 HF4 HN4 HSE4 HAP
                have hS1 := HSof.out w5.drew HSt.out.drew.bel
                have hcx0 : w5.cell? ⟨w6.heap.size, x, none⟩ = some (.slice (some ⟨G x, 0, none⟩) (seenL A2 (keepA A2 cs1 j) x).length (C x)) := HSe5.out.row.cell hx
                have hxi : (x : Int) < 16 := by omega
                have HBl : Hid (Calls Try.prog 20 #[.int .u8 b] w5.drew fun e w' => ∃ g _x : Nat, e = .returned (.slice (some ⟨g, 0, none⟩) 512 512) ∧ (Below w5.heap.size w5 w' ∧ Fresh w' g (blk b))) := hid ((block_f b w5.drew).mono fun e w' ⟨h1, h2, h3⟩ => ⟨_, 0, h1, ⟨h2.os, h2.tape, h2.output, h2.size, h2.block⟩, h3⟩)
                have HRel : Hid (∀ wE : World, (∃ G' C' se', St w.heap.size w wE pd (wr1 (keepA A2 cs1 j) (x : Int) (blk b)) (n7 + j + 1) al9 ∧ SeenAt wE w6.heap.size G' C' (fun i => if i = x then seenL A2 (keepA A2 cs1 j) i ++ [strOfNums (blk b)] else seenL A2 (keepA A2 cs1 j) i) se' ∧ (∀ b, al9 b → ¬ se' b) ∧ ∀ b, se' b → w.heap.size ≤ b) →
                    ∃ j' : Nat, j' ≤ cs1.length ∧ j' ≤ 30 ∧ Value.int .i64 ((j : Int) + 1) = .int .i64 j' ∧ ∃ al' G C se, St w.heap.size w wE pd (keepA A2 cs1 j') (n7 + j') al' ∧ SeenAt wE w6.heap.size G C (fun i => seenL A2 (keepA A2 cs1 j') i) se ∧ (∀ b, al' b → ¬ se b) ∧ ∀ b, se b → w.heap.size ≤ b) := hid fun wE ⟨G', C', se', h1, h2, h3, h4⟩ => by
                  refine ⟨j + 1, by omega, by omega, by go_num, al9, G', C', se', ?_, ?_, h3, h4⟩
                  · rw [HNx.out]; exact h1
                  · have e : (fun i => seenL A2 (keepA A2 cs1 (j + 1)) i) = fun i => if i = x then seenL A2 (keepA A2 cs1 j) i ++ [strOfNums (blk b)] else seenL A2 (keepA A2 cs1 j) i := by
                      funext i
                      rw [HNx.out, seen_step]
                      by_cases e : i = x
                      · simp [e]
                      · have e2 : ¬ ((i : Int) = (x : Int)) := by omega
                        rw [if_neg e2, if_neg e]
                    rw [e]; exact h2
                go_wp2_with fail
                refine wp_region_held_drew (S := fun w' => w'.cell? ⟨cb, co + j * 5 + 3, none⟩ = some (.int .u8 b)) (by kernel_rfl) hS1 (fun hS => ?_)
                refine any_take 0 125 (.slice (some ⟨w6.heap.size, 0, none⟩) 16 16) rfl rfl (by kernel_rfl) (by kernel_rfl) (by kernel_rfl) (fun _ _ _ h => h) (Or.inl ⟨by rfl, ?_⟩) hS ?_
                · rintro w' s1
                  go_simp
                simp only [List.setIfInBounds_toArray, List.set_cons_zero, List.set_cons_succ]
                refine any_take 1 126 (.int .i64 x) rfl rfl (by kernel_rfl) (by kernel_rfl) (by kernel_rfl) (fun _ _ _ h => h) (Or.inl ⟨by rfl, ?_⟩) hS ?_
                · rintro w' s1
                  go_simp
                simp only [List.setIfInBounds_toArray, List.set_cons_zero, List.set_cons_succ]
                refine any_take 2 127 (.slice (some ⟨w6.heap.size, 0, none⟩) 16 16) rfl rfl (by kernel_rfl) (by kernel_rfl) (by kernel_rfl) (fun _ _ _ h => h) (Or.inl ⟨by rfl, ?_⟩) hS ?_
                · rintro w' s1
                  go_simp
                simp only [List.setIfInBounds_toArray, List.set_cons_zero, List.set_cons_succ]
                refine any_take 3 128 (.int .i64 x) rfl rfl (by kernel_rfl) (by kernel_rfl) (by kernel_rfl) (fun _ _ _ h => h) (Or.inl ⟨by rfl, ?_⟩) hS ?_
                · rintro w' s1
                  go_simp
                simp only [List.setIfInBounds_toArray, List.set_cons_zero, List.set_cons_succ]
                refine any_take 4 129 (.pointer (some ⟨w6.heap.size, x, none⟩)) rfl rfl (by kernel_rfl) (by kernel_rfl) (by kernel_rfl) (fun _ _ _ h => h) (Or.inl ⟨by rfl, ?_⟩) hS ?_
                · rintro w' s1
                  go_simp
                simp only [List.setIfInBounds_toArray, List.set_cons_zero, List.set_cons_succ]
                refine any_take 6 131 (.slice (some ⟨cb, co, none⟩) cs1.length c1) rfl rfl (by kernel_rfl) (by kernel_rfl) (by kernel_rfl) (fun _ _ _ h => h) (Or.inl ⟨by rfl, ?_⟩) hS ?_
                · rintro w' s1
                  go_simp
                simp only [List.setIfInBounds_toArray, List.set_cons_zero, List.set_cons_succ]
                refine any_take 7 132 (.int .i64 j) rfl rfl (by kernel_rfl) (by kernel_rfl) (by kernel_rfl) (fun _ _ _ h => h) (Or.inl ⟨by rfl, ?_⟩) hS ?_
                · rintro w' s1
                  go_simp
                simp only [List.setIfInBounds_toArray, List.set_cons_zero, List.set_cons_succ]
                refine any_take 8 133 (.pointer (some ⟨cb, co + j * 5, none⟩)) rfl rfl (by kernel_rfl) (by kernel_rfl) (by kernel_rfl) (fun _ _ _ h => h) (Or.inl ⟨by rfl, ?_⟩) hS ?_
                · rintro w' s1
                  go_simp
                simp only [List.setIfInBounds_toArray, List.set_cons_zero, List.set_cons_succ]
                refine any_take 9 134 (.pointer (some ⟨cb, co + j * 5 + 3, none⟩)) rfl rfl (by kernel_rfl) (by kernel_rfl) (by kernel_rfl) (fun _ _ _ h => h) (Or.inl ⟨by rfl, ?_⟩) hS ?_
                · rintro w' s1
                  go_simp
                simp only [List.setIfInBounds_toArray, List.set_cons_zero, List.set_cons_succ]
                refine any_take 10 135 (.int .u8 b) rfl rfl (by kernel_rfl) (by kernel_rfl) (by kernel_rfl) (fun _ _ _ h => h) (Or.inl ⟨by rfl, ?_⟩) hS ?_
                · rintro w' s1
                  go_simp
                simp only [List.setIfInBounds_toArray, List.set_cons_zero, List.set_cons_succ]
                refine any_two 5 11 (by kernel_rfl) ?_ ?_
                · skip
                  refine op_value' 130 (v := .slice (some ⟨G x, 0, none⟩) (seenL A2 (keepA A2 cs1 j) x).length (C x)) (w' := w5.drew) rfl (by rfl) rfl (by have hcx := hcx0; go_simp) ⟨hS, ?_⟩
                  simp only [List.setIfInBounds_toArray, List.set_cons_zero, List.set_cons_succ]
                  refine any_one 11 (by kernel_rfl) ?_
                  refine op_call' 136 (f := 20) (args := #[.int .u8 b]) (val := fun g _ => .slice (some ⟨g, 0, none⟩) 512 512) rfl (by rfl) rfl (by go_simp) HBl.out (fun g _ w8 hr => ?_)
                  have hcv8 := hr.2.conv (blk_len b)
                  have hb8 := hr.1
                  have hS8 := HSof.out w8 (HSt.out.below hb8).bel
                  have hc8 : w8.cell? ⟨w6.heap.size, x, none⟩ = some (.slice (some ⟨G x, 0, none⟩) (seenL A2 (keepA A2 cs1 j) x).length (C x)) := cell_later hb8 hcx0
                  have hba : Below w5.heap.size w5 (w8.alloc (.cells #[.string (strOfNums (blk b))] 9)) := hb8.alloc hb8.size _
                  have hSa := HSof.out (w8.alloc (.cells #[.string (strOfNums (blk b))] 9)) (HSt.out.below hba).bel
                  have hca : (w8.alloc (.cells #[.string (strOfNums (blk b))] 9)).cell? ⟨w6.heap.size, x, none⟩ = some (.slice (some ⟨G x, 0, none⟩) (seenL A2 (keepA A2 cs1 j) x).length (C x)) := cell_later hba hcx0
                  refine Exists.elim (append_seen HSt.out HSe5.out HAp5.out HSB.out x hx HLen.out (strOfNums (blk b)) w8 hb8) (fun g' hT1 => Exists.elim hT1 (fun c' hT2 => Exists.elim hT2 (fun wb hT3 => ?_)))
                  have hrun1 := hT3.1
                  have hcb := hT3.2.1
                  have hfb := hT3.2.2.1
                  have hSb := HSof.out wb hT3.2.2.2.1
                  have hSe := HSof.out _ hT3.2.2.2.2.1
                  have HEnd := hT3.2.2.2.2.2
                  clear hr hT1 hT2 hT3 hb8 hba
                  refine ⟨hS8, ?_⟩
                  simp only [List.setIfInBounds_toArray, List.set_cons_zero, List.set_cons_succ]
                  refine any_one 12 (by kernel_rfl) ?_
                  refine op_value' 137 (v := .string (strOfNums (blk b))) (w' := w8) rfl (by rfl) rfl (by go_simp) ⟨hS8, ?_⟩
                  simp only [List.setIfInBounds_toArray, List.set_cons_zero, List.set_cons_succ]
                  refine any_one 13 (by kernel_rfl) ?_
                  refine op_value' 138 (v := .slice (some ⟨w8.heap.size, 0, none⟩) 1 1) (w' := w8.alloc (.cells #[.string (strOfNums (blk b))] 9)) rfl (by rfl) rfl (by go_simp) ⟨hSa, ?_⟩
                  simp only [List.setIfInBounds_toArray, List.set_cons_zero, List.set_cons_succ]
                  refine any_one 14 (by kernel_rfl) ?_
                  refine op_append' 139 (v := .slice (some ⟨G x, 0, none⟩) (seenL A2 (keepA A2 cs1 j) x).length (C x)) (y := .slice (some ⟨w8.heap.size, 0, none⟩) 1 1) (v' := .slice (some ⟨g', 0, none⟩) ((seenL A2 (keepA A2 cs1 j) x).length + 1) c') (w' := wb) rfl (by rfl) rfl (.tmp 130) (.tmp 138) 51 rfl rfl rfl 51 rfl hrun1 ⟨hSb, ?_⟩
                  simp only [List.setIfInBounds_toArray, List.set_cons_zero, List.set_cons_succ]
                  refine any_take 15 140 (.pointer (some ⟨w6.heap.size, x, none⟩)) rfl rfl (by kernel_rfl) (by kernel_rfl) (by kernel_rfl) (fun _ _ _ h => h) (Or.inl ⟨by rfl, ?_⟩) hSb ?_
                  · rintro w' s1
                    go_simp
                  simp only [List.setIfInBounds_toArray, List.set_cons_zero, List.set_cons_succ]
                  refine wpAnyH_ready (rs := [16]) (by kernel_rfl) (by simp) (AllReadyH.cons rfl (fun K hK => ?_) AllReadyH.nil)
                  rw [if_pos (by rfl)]
                  go_simp
                  refine hK.out _ _ hSe (fun _ => ?_)
                  clear hK K
                  refine wpAnyH_done (by kernel_rfl) ?_ _
                  go_wp2
                  go_roundw
                  case rel => exact HRel.out _ HEnd.out
                  case measure => simp [RowKit.intOf]; omega
                · skip
                  refine op_call' 136 (f := 20) (args := #[.int .u8 b]) (val := fun g _ => .slice (some ⟨g, 0, none⟩) 512 512) rfl (by rfl) rfl (by go_simp) HBl.out (fun g _ w8 hr => ?_)
                  have hcv8 := hr.2.conv (blk_len b)
                  have hb8 := hr.1
                  have hS8 := HSof.out w8 (HSt.out.below hb8).bel
                  have hc8 : w8.cell? ⟨w6.heap.size, x, none⟩ = some (.slice (some ⟨G x, 0, none⟩) (seenL A2 (keepA A2 cs1 j) x).length (C x)) := cell_later hb8 hcx0
                  have hba : Below w5.heap.size w5 (w8.alloc (.cells #[.string (strOfNums (blk b))] 9)) := hb8.alloc hb8.size _
                  have hSa := HSof.out (w8.alloc (.cells #[.string (strOfNums (blk b))] 9)) (HSt.out.below hba).bel
                  have hca : (w8.alloc (.cells #[.string (strOfNums (blk b))] 9)).cell? ⟨w6.heap.size, x, none⟩ = some (.slice (some ⟨G x, 0, none⟩) (seenL A2 (keepA A2 cs1 j) x).length (C x)) := cell_later hba hcx0
                  refine Exists.elim (append_seen HSt.out HSe5.out HAp5.out HSB.out x hx HLen.out (strOfNums (blk b)) w8 hb8) (fun g' hT1 => Exists.elim hT1 (fun c' hT2 => Exists.elim hT2 (fun wb hT3 => ?_)))
                  have hrun1 := hT3.1
                  have hcb := hT3.2.1
                  have hfb := hT3.2.2.1
                  have hSb := HSof.out wb hT3.2.2.2.1
                  have hSe := HSof.out _ hT3.2.2.2.2.1
                  have HEnd := hT3.2.2.2.2.2
                  clear hr hT1 hT2 hT3 hb8 hba
                  refine ⟨hS8, ?_⟩
                  simp only [List.setIfInBounds_toArray, List.set_cons_zero, List.set_cons_succ]
                  refine any_two 5 12 (by kernel_rfl) ?_ ?_
                  · skip
                    refine op_value' 130 (v := .slice (some ⟨G x, 0, none⟩) (seenL A2 (keepA A2 cs1 j) x).length (C x)) (w' := w8) rfl (by rfl) rfl (by have hcx := hc8; go_simp) ⟨hS8, ?_⟩
                    simp only [List.setIfInBounds_toArray, List.set_cons_zero, List.set_cons_succ]
                    refine any_one 12 (by kernel_rfl) ?_
                    refine op_value' 137 (v := .string (strOfNums (blk b))) (w' := w8) rfl (by rfl) rfl (by go_simp) ⟨hS8, ?_⟩
                    simp only [List.setIfInBounds_toArray, List.set_cons_zero, List.set_cons_succ]
                    refine any_one 13 (by kernel_rfl) ?_
                    refine op_value' 138 (v := .slice (some ⟨w8.heap.size, 0, none⟩) 1 1) (w' := w8.alloc (.cells #[.string (strOfNums (blk b))] 9)) rfl (by rfl) rfl (by go_simp) ⟨hSa, ?_⟩
                    simp only [List.setIfInBounds_toArray, List.set_cons_zero, List.set_cons_succ]
                    refine any_one 14 (by kernel_rfl) ?_
                    refine op_append' 139 (v := .slice (some ⟨G x, 0, none⟩) (seenL A2 (keepA A2 cs1 j) x).length (C x)) (y := .slice (some ⟨w8.heap.size, 0, none⟩) 1 1) (v' := .slice (some ⟨g', 0, none⟩) ((seenL A2 (keepA A2 cs1 j) x).length + 1) c') (w' := wb) rfl (by rfl) rfl (.tmp 130) (.tmp 138) 51 rfl rfl rfl 51 rfl hrun1 ⟨hSb, ?_⟩
                    simp only [List.setIfInBounds_toArray, List.set_cons_zero, List.set_cons_succ]
                    refine any_take 15 140 (.pointer (some ⟨w6.heap.size, x, none⟩)) rfl rfl (by kernel_rfl) (by kernel_rfl) (by kernel_rfl) (fun _ _ _ h => h) (Or.inl ⟨by rfl, ?_⟩) hSb ?_
                    · rintro w' s1
                      go_simp
                    simp only [List.setIfInBounds_toArray, List.set_cons_zero, List.set_cons_succ]
                    refine wpAnyH_ready (rs := [16]) (by kernel_rfl) (by simp) (AllReadyH.cons rfl (fun K hK => ?_) AllReadyH.nil)
                    rw [if_pos (by rfl)]
                    go_simp
                    refine hK.out _ _ hSe (fun _ => ?_)
                    clear hK K
                    refine wpAnyH_done (by kernel_rfl) ?_ _
                    go_wp2
                    go_roundw
                    case rel => exact HRel.out _ HEnd.out
                    case measure => simp [RowKit.intOf]; omega
                  · skip
                    refine op_value' 137 (v := .string (strOfNums (blk b))) (w' := w8) rfl (by rfl) rfl (by go_simp) ⟨hS8, ?_⟩
                    simp only [List.setIfInBounds_toArray, List.set_cons_zero, List.set_cons_succ]
                    refine any_two 5 13 (by kernel_rfl) ?_ ?_
                    · skip
                      refine op_value' 130 (v := .slice (some ⟨G x, 0, none⟩) (seenL A2 (keepA A2 cs1 j) x).length (C x)) (w' := w8) rfl (by rfl) rfl (by have hcx := hc8; go_simp) ⟨hS8, ?_⟩
                      simp only [List.setIfInBounds_toArray, List.set_cons_zero, List.set_cons_succ]
                      refine any_one 13 (by kernel_rfl) ?_
                      refine op_value' 138 (v := .slice (some ⟨w8.heap.size, 0, none⟩) 1 1) (w' := w8.alloc (.cells #[.string (strOfNums (blk b))] 9)) rfl (by rfl) rfl (by go_simp) ⟨hSa, ?_⟩
                      simp only [List.setIfInBounds_toArray, List.set_cons_zero, List.set_cons_succ]
                      refine any_one 14 (by kernel_rfl) ?_
                      refine op_append' 139 (v := .slice (some ⟨G x, 0, none⟩) (seenL A2 (keepA A2 cs1 j) x).length (C x)) (y := .slice (some ⟨w8.heap.size, 0, none⟩) 1 1) (v' := .slice (some ⟨g', 0, none⟩) ((seenL A2 (keepA A2 cs1 j) x).length + 1) c') (w' := wb) rfl (by rfl) rfl (.tmp 130) (.tmp 138) 51 rfl rfl rfl 51 rfl hrun1 ⟨hSb, ?_⟩
                      simp only [List.setIfInBounds_toArray, List.set_cons_zero, List.set_cons_succ]
                      refine any_take 15 140 (.pointer (some ⟨w6.heap.size, x, none⟩)) rfl rfl (by kernel_rfl) (by kernel_rfl) (by kernel_rfl) (fun _ _ _ h => h) (Or.inl ⟨by rfl, ?_⟩) hSb ?_
                      · rintro w' s1
                        go_simp
                      simp only [List.setIfInBounds_toArray, List.set_cons_zero, List.set_cons_succ]
                      refine wpAnyH_ready (rs := [16]) (by kernel_rfl) (by simp) (AllReadyH.cons rfl (fun K hK => ?_) AllReadyH.nil)
                      rw [if_pos (by rfl)]
                      go_simp
                      refine hK.out _ _ hSe (fun _ => ?_)
                      clear hK K
                      refine wpAnyH_done (by kernel_rfl) ?_ _
                      go_wp2
                      go_roundw
                      case rel => exact HRel.out _ HEnd.out
                      case measure => simp [RowKit.intOf]; omega
                    · skip
                      refine op_value' 138 (v := .slice (some ⟨w8.heap.size, 0, none⟩) 1 1) (w' := w8.alloc (.cells #[.string (strOfNums (blk b))] 9)) rfl (by rfl) rfl (by go_simp) ⟨hSa, ?_⟩
                      simp only [List.setIfInBounds_toArray, List.set_cons_zero, List.set_cons_succ]
                      refine any_one 5 (by kernel_rfl) ?_
                      refine op_value' 130 (v := .slice (some ⟨G x, 0, none⟩) (seenL A2 (keepA A2 cs1 j) x).length (C x)) (w' := w8.alloc (.cells #[.string (strOfNums (blk b))] 9)) rfl (by rfl) rfl (by have hcx := hca; go_simp) ⟨hSa, ?_⟩
                      simp only [List.setIfInBounds_toArray, List.set_cons_zero, List.set_cons_succ]
                      refine any_one 14 (by kernel_rfl) ?_
                      refine op_append' 139 (v := .slice (some ⟨G x, 0, none⟩) (seenL A2 (keepA A2 cs1 j) x).length (C x)) (y := .slice (some ⟨w8.heap.size, 0, none⟩) 1 1) (v' := .slice (some ⟨g', 0, none⟩) ((seenL A2 (keepA A2 cs1 j) x).length + 1) c') (w' := wb) rfl (by rfl) rfl (.tmp 130) (.tmp 138) 51 rfl rfl rfl 51 rfl hrun1 ⟨hSb, ?_⟩
                      simp only [List.setIfInBounds_toArray, List.set_cons_zero, List.set_cons_succ]
                      refine any_take 15 140 (.pointer (some ⟨w6.heap.size, x, none⟩)) rfl rfl (by kernel_rfl) (by kernel_rfl) (by kernel_rfl) (fun _ _ _ h => h) (Or.inl ⟨by rfl, ?_⟩) hSb ?_
                      · rintro w' s1
                        go_simp
                      simp only [List.setIfInBounds_toArray, List.set_cons_zero, List.set_cons_succ]
                      refine wpAnyH_ready (rs := [16]) (by kernel_rfl) (by simp) (AllReadyH.cons rfl (fun K hK => ?_) AllReadyH.nil)
                      rw [if_pos (by rfl)]
                      go_simp
                      refine hK.out _ _ hSe (fun _ => ?_)
                      clear hK K
                      refine wpAnyH_done (by kernel_rfl) ?_ _
                      go_wp2
                      go_roundw
                      case rel => exact HRel.out _ HEnd.out
                      case measure => simp [RowKit.intOf]; omega
              · have hcc3 : ¬ ((j : Int) < (cs1.length : Int) ∧ (j : Int) < 30) := by omega
                clear hlj
                have hseen : Hid (∀ (L : List Int) (m i : Nat), strOfNums (blockOf { keepA A2 cs1 j with P := crashTo (keepA A2 cs1 j) L picks m, V := fun _ => [] } (i : Int)) ∈ seenL A2 (keepA A2 cs1 j) i) := hid fun L m i => seen_has A2 HA2V.out cs1 j L picks m i
                have hBN : (keepA A2 cs1 j).N = 16 := by rw [keepA_N]; exact hA2N
                obtain ⟨SS, hSS⟩ : ∃ SS, SS = fun i => seenL A2 (keepA A2 cs1 j) i := ⟨_, rfl⟩
                have hSS2 : ∀ i, seenL A2 (keepA A2 cs1 j) i = SS i := fun i => by rw [hSS]
                rw [← hSS] at HSE
                simp only [hSS2] at hseen
                obtain ⟨BA, hBA⟩ : ∃ BA, BA = keepA A2 cs1 j := ⟨_, rfl⟩
                rw [← hBA] at H hseen hBN
                clear hSS hSS2 hBA
                have HPk := hid (HP.out.below H.out.bel)
                have HOk := hid (HP.out.off H.out.size H.out.own)
                go_wp2_with fail
                all_goals
                  refine (Crash_any wk pd _ _ al' H.out.disk (by omega) a2 c2 picks HPk.out HOk.out).mono ?_
                  rintro e w7 ⟨L7, hL7, rfl, hst⟩
                  obtain ⟨al7, s7, hsub7, hmo7⟩ := H.out.step hst
                  have H7 := hid s7
                  have HSE7 := hid (HSE.out.keep hmo7.size (fun b hb => hmo7.block b (HSE.out.lt b hb) (fun h => HAP.out b h hb)))
                  have hsn : Hid (∀ i : Nat, strOfNums (blockOf { BA with P := crashTo BA L7 picks (min L7.length picks.length), V := fun _ => [] } (i : Int)) ∈ SS i) := hid fun i => hseen.out L7 _ i
                  obtain ⟨AE, hAE⟩ : ∃ AE : Abs, AE = { BA with P := crashTo BA L7 picks (min L7.length picks.length), V := fun _ => [] } := ⟨_, rfl⟩
                  have hAEN : AE.N = 16 := by rw [hAE]; exact hBN
                  have HAEV : Hid (∀ k, AE.V k = []) := hid fun k => by rw [hAE]
                  rw [← hAE] at H7 hsn
                  clear s7 hst hsub7 hmo7 hL7 hAE H HSE hseen HPk HOk hBN
                  go_wp2_with fail
                  refine (read_f w7 pd _ _ al7 H7.out.disk 0 16 8192 rfl (by omega) (by rw [hAEN]; decide)).mono ?_
                  rintro e w8 ⟨rfl, hb8, hf8, hl8⟩
                  have H8 := hid (H7.out.below hb8)
                  have HSE8 := hid (HSE7.out.keep hb8.size (fun b hb => hb8.block b (HSE7.out.lt b hb)))
                  have HF8 := hid hf8
                  have HL8 := hid hl8
                  have HBk8 : Hid (∀ i : Nat, i < 16 → (blockOf AE (i : Int)).length = 512 ∧ ∀ j, j < 512 → (readTo AE 0 16).getD (512 * i + j) 0 = (blockOf AE (i : Int)).getD j 0) := hid fun i hi => by
                    obtain ⟨_, _, _, _, d⟩ := H7.out.disk
                    have hbl : ∀ i : Nat, i < 16 → (blockOf AE (0 + (i : Int))).length = 512 := fun i hi => d.block_len _ (isI_of (by omega) (by omega))
                    have e0 : (0 : Int) + (i : Int) = i := by omega
                    refine ⟨by rw [← e0]; exact hbl i hi, fun j hj => ?_⟩
                    rw [readTo_get AE 0 16 hbl i j hi hj, e0]
                  clear hb8 hf8 hl8 H7 HSE7
                  go_wp2_with fail
                  refine (Dirty_any w8 pd _ _ al7 H8.out.disk (by omega)).mono ?_
                  rintro e w9 ⟨v9, L9, rfl, hL9, _, hnil9, hb9⟩
                  rw [hnil9.2 (dirty_none hL9 HAEV.out)]
                  have H9 := hid (H8.out.below hb9)
                  have HSE9 := hid (HSE8.out.keep hb9.size (fun b hb => hb9.block b (HSE8.out.lt b hb)))
                  have HF9 := hid (HF8.out.below hb9)
                  clear hL9 hnil9 hb9 H8 HSE8 HF8 HAEV
                  go_wp2_with fail
                  go_loopw [18] (fun i wr => ∃ q : Nat, q ≤ 16 ∧ i = .int .i64 q ∧ Below w9.heap.size w9 wr) (fun i _ => 16 - (RowKit.intOf i).toNat)
                  case atStart => exact ⟨0, by omega, rfl, Below.refl _ _⟩
                  case round =>
                    obtain ⟨q, hq, rfl, hbe⟩ := hrel
                    have HBE := hid hbe
                    clear hbe
                    obtain ⟨wl, rfl⟩ : ∃ wl, wl = wr := ⟨wr, rfl⟩
                    by_cases hql : q < 16
                    · have hqi : (q : Int) < 16 := by omega
                      have hmem := hsn.out q
                      obtain ⟨ts, hts⟩ : ∃ ts, ts = strOfNums (blockOf AE (q : Int)) := ⟨_, rfl⟩
                      rw [← hts] at hmem
                      have HMem := hid hmem
                      have HTs := hid hts
                      clear hmem hts
                      go_wp2_with fail
                      go_loopw [20, 19] (fun i th wr => ∃ t : Nat, t ≤ (SS q).length ∧ i = .int .i64 t ∧ (∃ bt : Bool, th = .bool bt ∧ (bt = true ↔ ts ∈ (SS q).take t)) ∧ Below w9.heap.size w9 wr) (fun i _ _ => (SS q).length - (RowKit.intOf i).toNat)
                      case atStart => exact ⟨0, by omega, rfl, ⟨false, rfl, by simp⟩, HBE.out⟩
                      case round =>
                        obtain ⟨t, ht, rfl, ⟨bt, rfl, hbiff⟩, hbt⟩ := hrel
                        obtain ⟨wp, rfl⟩ : ∃ wp, wp = wr := ⟨wr, rfl⟩
                        have hc1 := cell_later hbt (HSE9.out.row.cell hql)
                        have HBt := hid hbt
                        by_cases htl : t < (SS q).length
                        · have hti : (t : Int) < ((SS q).length : Int) := by omega
                          have hc2 := cell_later hbt (HSE9.out.cell hql htl)
                          have hlq : ((SS q).length : Int) ≤ 9223372036854775807 := by
                            rcases (HSE9.out.own q hql).2 with ⟨e, _⟩ | ⟨g, cap, cur, e, _, hh, h1, h2, _⟩
                            · cases e
                            · unfold maxLen at h2; omega
                          have hsl := cut_run2 w7.heap.size 8192 (512 * q) (512 * q + 512) (by omega) (by omega)
                          rw [show 512 * q + 512 - 512 * q = 512 by omega, show ((512 * q + 512 : Nat) : Int) = 512 * (q : Int) + 512 by omega, show ((512 * q : Nat) : Int) = 512 * (q : Int) by omega] at hsl
                          have e1 : IntKind.i64.wrap (512 * (q : Int)) = 512 * (q : Int) := IntWalk.i64_in _ (by omega)
                          have e2 : IntKind.i64.wrap (512 * (q : Int) + 512) = 512 * (q : Int) + 512 := IntWalk.i64_in _ (by omega)
                          have hcv : ∀ n : Nat, (convert 42 9 (.slice (some ⟨w7.heap.size, 512 * q, none⟩) 512 (8192 - 512 * q))).run Try.prog (wp.drewN n) = .ok (.string ts) (wp.drewN n) := fun n => by
                            rw [HTs.out]
                            exact Fresh.convAt (w := wp.drewN n) (HF9.out.below (below_drewN HBt.out n)) q _ _ (HBk8.out q hql).1 (by rw [HL8.out]; omega) (HBk8.out q hql).2
                          have htk : (SS q).take (t + 1) = (SS q).take t ++ [(SS q)[t]] := by rw [List.take_add_one, List.getElem?_eq_getElem htl]; rfl
                          have HTk := hid htk
                          obtain ⟨u, hu⟩ : ∃ u, u = (SS q)[t] := ⟨_, rfl⟩
                          rw [← hu] at hc2 HTk
                          have HIff := hid hbiff
                          clear hbt hbiff htk hu
                          cases bt with
                          | true =>
                            go_wp2_with fail
                            go_quiet (fail)
                            go_wp2
                            go_roundw
                            case rel => exact ⟨t + 1, by omega, by go_num, ⟨true, rfl, by rw [HTk.out]; simp [HIff.out.1 (by trivial)]⟩, below_drewN HBt.out _⟩
                            case measure => simp [RowKit.intOf]; omega
                          | false =>
                            by_cases hab : u = ts
                            · subst hab
                              go_wp2_with fail
                              go_quiet (fail)
                              go_wp2
                              go_roundw
                              case rel => exact ⟨t + 1, by omega, by go_num, ⟨true, rfl, by rw [HTk.out]; simp⟩, below_drewN HBt.out _⟩
                              case measure => simp [RowKit.intOf]; omega
                            · have hnot : ¬ (ts ∈ (SS q).take t) := fun h => by have := HIff.out.2 h; cases this
                              have hab2 : ¬ (ts = u) := fun e => hab e.symm
                              have hab3 : ¬ (u.toList = ts.toList) := fun e => hab (WideShapes.bytes_inj (by rw [ByteArray.toList_eq, ByteArray.toList_eq] at e; exact e))
                              go_wp2_with fail
                              go_quiet (fail)
                              go_wp2
                              go_roundw
                              case rel => exact ⟨t + 1, by omega, by go_num, ⟨false, by simp [hab3], by rw [HTk.out]; simp [hnot, hab2]⟩, below_drewN HBt.out _⟩
                              case measure => simp [RowKit.intOf]; omega
                        · have hti : ¬ ((t : Int) < ((SS q).length : Int)) := by omega
                          obtain rfl : bt = true := hbiff.2 (by rw [List.take_of_length_le (by omega)]; exact HMem.out)
                          clear hbt hbiff
                          go_wp2
                          go_roundw
                          case rel => exact ⟨q + 1, by omega, by go_num, HBt.out⟩
                          case measure => simp [RowKit.intOf]; omega
                    · have hqi : ¬ ((q : Int) < 16) := by omega
                      go_wp2
                      go_ret
                      exact ⟨rfl, (H9.out.below HBE.out).bel⟩
end Go.Proofs.Ytdbpjdaaggenpaa.diskKeeps
