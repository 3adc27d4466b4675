/- DiskOwn: for every list of calls it returns true: what is told is the caller's own; two disks do not see one another. No condition. -/
import Derived.Test.YtdbpjdaaggenpaaKnown
namespace Go.Proofs.Ytdbpjdaaggenpaa
open Go.RowKit

/-- A list of calls in memory: five cells each. -/
structure Cl where
  kind : Int
  at_ : Int
  n : Int
  b : Int
  pa : Option Addr
  pc : Nat
  pl : List Int
instance : Inhabited Cl := ⟨⟨0, 0, 0, 0, none, 0, []⟩⟩
def ClAt (w : World) (a : Option Addr) (cs : List Cl) : Prop :=
  ∀ i, i < cs.length → ∃ b off, a = some ⟨b, off, none⟩ ∧ w.cell? ⟨b, off + i * 5 + 0, none⟩ = some (.int .i64 (cs.getD i default).kind) ∧ w.cell? ⟨b, off + i * 5 + 1, none⟩ = some (.int .i64 (cs.getD i default).at_) ∧
    w.cell? ⟨b, off + i * 5 + 2, none⟩ = some (.int .i64 (cs.getD i default).n) ∧ w.cell? ⟨b, off + i * 5 + 3, none⟩ = some (.int .u8 (cs.getD i default).b) ∧
    w.cell? ⟨b, off + i * 5 + 4, none⟩ = some (.slice (cs.getD i default).pa (cs.getD i default).pl.length (cs.getD i default).pc) ∧
    IsI (cs.getD i default).kind ∧ IsI (cs.getD i default).at_ ∧ IsI (cs.getD i default).n ∧ IsB (cs.getD i default).b ∧ Ints w (cs.getD i default).pa (cs.getD i default).pl

/-- Block g is a row of N bytes. -/
def Blk (w : World) (g N : Nat) : Prop := ∃ c, w.heap[g]? = some (.cells c 5 (0, 0)) ∧ c.size = N
theorem Fresh.blk {w : World} {g : Nat} {l : List Int} {N : Nat} (h : Fresh w g l) (hl : l.length = N) : Blk w g N := by
  rcases h.2 with ⟨e, _⟩ | ⟨g', cap, cur, e, _, hh, hc1, _, hcs, ht⟩
  · cases e
  · simp only [Value.slice.injEq, Option.some.injEq, Addr.mk.injEq] at e
    obtain ⟨⟨rfl, _⟩, _, rfl⟩ := e
    exact ⟨cur, hh, by omega⟩
theorem Blk.cell {w : World} {g N i : Nat} (h : Blk w g N) (hi : i < N) : ∃ v, w.cell? ⟨g, i, none⟩ = some v := by
  obtain ⟨c, h1, h2⟩ := h
  exact ⟨c[i], by simp [World.cell?, h1, h2, hi]⟩
theorem Blk.frozen {w : World} {g N i : Nat} (h : Blk w g N) : w.frozen? ⟨g, i, none⟩ = false := by
  obtain ⟨c, h1, h2⟩ := h
  simp [World.frozen?, h1]
theorem Blk.set {w : World} {g N i : Nat} (h : Blk w g N) (v : Value) : Blk (w.setCell ⟨g, i, none⟩ v) g N := by
  obtain ⟨c, h1, h2⟩ := h
  have hl : g < w.heap.size := (Array.getElem?_eq_some_iff.1 h1).1
  have h' : w.heap[g] = .cells c 5 (0, 0) := (Array.getElem?_eq_some_iff.1 h1).2
  refine ⟨c.setIfInBounds i v, ?_, by simp [h2]⟩
  simp [World.setCell, hl, Array.getElem_modify, h']
theorem Blk.owns {w : World} {g N : Nat} (h : Blk w g N) (hN : N ≤ maxLen) : ∃ xs, w.ownsRow 0 5 1 (.slice (some ⟨g, 0, none⟩) N N) N xs := by
  obtain ⟨c, h1, h2⟩ := h
  exact ⟨c.toList, by simp [h2], .inr ⟨g, N, c, rfl, Nat.zero_le _, h1, Nat.le_refl _, hN, by omega, by rw [List.take_of_length_le]; simp [h2]⟩⟩
theorem Mods.set {al : Nat → Prop} {w w' : World} {g i : Nat} (h : Mods al w w') (hg : al g) (v : Value) : Mods al w (w'.setCell ⟨g, i, none⟩ v) :=
  ⟨h.os, h.tape, h.output, by simpa [World.setCell] using h.size, fun b hb hn => (Below.heap_setCell _ _ _ _ (fun e => hn (by rw [e]; exact hg))).trans (h.block b hb hn)⟩

namespace diskOwn

def ownA (cs : List Cl) : Nat → Abs
  | 0 => noDisk 8
  | k + 1 => wr1 (ownA cs k) (wi (cs.getD k default).at_ 8) (blk (cs.getD k default).b)
theorem ownA_N (cs : List Cl) : ∀ k, (ownA cs k).N = 8
  | 0 => rfl
  | k + 1 => ownA_N cs k
theorem has8 (cs : List Cl) (k : Nat) (x : Int) (h : 0 ≤ x ∧ x < 8) : hasB (ownA cs k).N x 1 = true := by
  simp [hasB, ownA_N]; omega

set_option maxRecDepth 100000 in
set_option maxHeartbeats 1000000 in
theorem walkB (a0 : Option Addr) (cap : Nat) (cs : List Cl) (w : World) (hcl : ClAt w a0 cs) :
    Calls Try.prog 7 #[.slice a0 cs.length cap] w fun e w' => e = .returned (.bool true) ∧ Below w.heap.size w w' := by
  have HC := hid hcl
  clear hcl
  go_enter Try.func7, Try.ntmps7
  go_wp2_with fail
  refine (known_any w).mono ?_
  rintro e w1 ⟨rfl, hb1⟩
  have HB1 := hid hb1
  clear hb1
  go_wp2_with fail
  refine (New_any 8 (by omega) w1).mono ?_
  rintro e w2 ⟨pa, al, rfl, hb2, hd2, ha2⟩
  have HA2 : Hid (St w.heap.size w w2 pa (ownA cs 0) 0 al) := hid ⟨hd2, fun b hb => Nat.le_trans HB1.out.size (ha2 b hb), HB1.out.trans (hb2.mono HB1.out.size), Nat.le_trans HB1.out.size hb2.size⟩
  clear hd2 ha2 hb2
  go_wp2_with fail
  refine (New_any 8 (by omega) w2).mono ?_
  rintro e w3 ⟨pb, be, rfl, hb3, hd3, hbe3⟩
  have HA3 := hid (HA2.out.below hb3)
  have HD3 : Hid (∀ b, be b → ¬ al b) := hid fun b h1 h2 => by have := hbe3 b h1; have := HA2.out.disk.lt b h2; omega
  have HB3 := hid hd3
  clear hd3 hbe3 hb3 HA2 HB1
  go_wp2_with fail
  go_loopw [7] (fun i wr => ∃ k : Nat, k ≤ cs.length ∧ k ≤ 20 ∧ i = .int .i64 k ∧ ∃ al', St w.heap.size w wr pa (ownA cs k) k al' ∧ Disk wr pb (noDisk 8) 0 be ∧ ∀ b, be b → ¬ al' b) (fun i _ => 20 - (RowKit.intOf i).toNat)
  case atStart => exact ⟨0, Nat.zero_le _, Nat.zero_le _, rfl, al, HA3.out, HB3.out, HD3.out⟩
  case round =>
    obtain ⟨k, hk1, hk2, rfl, al', hst, hdb, hap⟩ := hrel
    have H := hid hst
    have HB := hid hdb
    have HA := hid hap
    clear hst hdb hap HA3 HB3 HD3
    by_cases hlt : k < cs.length
    · by_cases hl2 : k < 20
      · obtain ⟨cb, co, ha0, _, hc1, _, hc3, _, _, _, _, hbB, _⟩ := HC.out k hlt
        subst ha0
        have hki : (k : Int) < (cs.length : Int) := by omega
        have hki2 : (k : Int) < 20 := by omega
        have hst1 : ∀ w' : World, Below w.heap.size w w' → w'.cell? ⟨cb, co + k * 5 + 1, none⟩ = some (.int .i64 (cs.getD k default).at_) ∧ w'.cell? ⟨cb, co + k * 5 + 3, none⟩ = some (.int .u8 (cs.getD k default).b) := fun w' hb => ⟨cell_later hb hc1, cell_later hb hc3⟩
        have HS := hid hst1
        have hS0 := hst1 wr.drew H.out.drew.bel
        have hnext : ownA cs (k + 1) = wr1 (ownA cs k) (wi (cs.getD k default).at_ 8) (blk (cs.getD k default).b) := rfl
        generalize (cs.getD k default).at_ = at_ at hc1 hst1 HS hS0 hnext
        generalize (cs.getD k default).b = b at hc3 hst1 HS hS0 hnext hbB
        have HNx := hid hnext
        clear hc1 hc3 hst1 hnext
        go_wp2_with fail
        go_region_held3 (fun w' => w'.cell? ⟨cb, co + k * 5 + 1, none⟩ = some (.int .i64 at_) ∧ w'.cell? ⟨cb, co + k * 5 + 3, none⟩ = some (.int .u8 b)) ((first | exact hS0 | exact HS.out _ hbw4 | exact HS.out _ hbw5))
          ((first
            | (go_at_call 13; refine (within_any at_ 8 (by omega) (by omega) _).mono ?_; rintro e w2 ⟨rfl, hw⟩; rw [hw]; clear hw w2)
            | (go_at_call 20; refine (block_f b wr.drew).mono ?_; rintro e w4 ⟨rfl, hb4, hf4⟩; have H4 := hid (H.out.drew.below hb4); have HF4 := hid hf4; have HN4 := hid (St.new H.out.disk (Nat.le_refl _)); have hbw4 := H4.out.bel; have HBl4 := hid hb4; clear hb4 hf4)
            | (go_at_call 14; refine (WriteBlk w4 pa _ _ al' H4.out.disk (wi at_ 8) _ _ HF4.out (blk_len _) (blk_isB _) HN4.out (has8 cs k _ (wi_bd at_ 8 (by omega))) (by omega)).mono ?_; rintro e w5 ⟨rfl, hst⟩; have hx := H4.out.step hst; obtain ⟨al5, s5, hsub, hmo⟩ := hx; have hbw5 := s5.bel; have H5 := hid s5; have HSub := hid hsub; have HMo := hid hmo; clear hst s5 hsub hmo)))
        go_wp2
        go_roundw
        case rel =>
          refine ⟨k + 1, by omega, by omega, by go_num, al5, ?_, ?_, ?_⟩
          · rw [HNx.out]; exact H5.out
          · exact ((HB.out.below ((Below.refl _ wr).drew)).below HBl4.out).apart HMo.out HA.out
          · intro g hg h2
            rcases HSub.out g h2 with h | h
            · exact HA.out g hg h
            · have := HB.out.lt g hg; have := HBl4.out.size; simp at this; omega
        case measure => simp [RowKit.intOf]; omega
      · have hki : (k : Int) < (cs.length : Int) := by omega
        have hki2 : ¬ ((k : Int) < 20) := by omega
        obtain ⟨wx, rfl⟩ : ∃ wx, wx = wr := ⟨wr, rfl⟩
        go_wp2_with fail
        refine (read_f wx pa _ _ al' H.out.disk 0 8 4096 rfl (by omega) (by simp [hasB, ownA_N])).mono ?_
        rintro e w5 ⟨rfl, hb5, hf5, hl5⟩
        have H5 := hid (H.out.below hb5)
        have HB5 := hid (HB.out.below hb5)
        have HF5 := hid hf5
        have HNx : Hid (¬ al' wx.heap.size) := hid (St.new H.out.disk (Nat.le_refl _))
        have HNb : Hid (¬ be wx.heap.size) := hid (St.new HB.out (Nat.le_refl _))
        have HgB := hid H.out.size
        have hgl := hf5.lt
        clear hb5 hf5 H HB
        go_wp2_with fail
        refine (read_f w5 pa _ _ al' H5.out.disk 0 8 4096 rfl (by omega) (by simp [hasB, ownA_N])).mono ?_
        rintro e w6 ⟨rfl, hb6, hf6, hl6⟩
        have hcy := hf6.conv hl6
        obtain ⟨s, hs⟩ : ∃ s, s = strOfNums (readTo (ownA cs k) 0 8) := ⟨_, rfl⟩
        rw [← hs] at hcy
        have HSs := hid hs
        have H6 := hid (H5.out.below hb6)
        have HB6 := hid (HB5.out.below hb6)
        have HF6 := hid hf6
        have HL6 := hid hl6
        have HX6 := hid (Fresh.blk (HF5.out.below hb6) hl5)
        clear hb6 hf6 HF5 H5 HB5 hs hl6 hl5
        go_wp2_with fail
        go_loopw [13] (fun i wz => ∃ j : Nat, j ≤ 4096 ∧ i = .int .i64 j ∧ Blk wz wx.heap.size 4096 ∧ Mods (fun b => b = wx.heap.size) w6 wz) (fun i _ => 4096 - (RowKit.intOf i).toNat)
        case atStart => exact ⟨0, by omega, rfl, HX6.out, Mods.refl _ _⟩
        case round =>
          obtain ⟨wz, rfl⟩ : ∃ wz, wz = wr := ⟨wr, rfl⟩
          obtain ⟨j, hj, rfl, hbl, hmo⟩ := hrel
          have HBl := hid hbl
          have HMo := hid hmo
          clear hmo HX6
          by_cases hjl : j < 4096
          · have hji : (j : Int) < 4096 := by omega
            obtain ⟨vv, hcv⟩ := hbl.cell hjl
            have hfv := hbl.frozen (i := j)
            clear hbl
            go_wp2
            go_roundw
            case rel => exact ⟨j + 1, by omega, by go_num, HBl.out.set _, HMo.out.set rfl _⟩
            case measure => simp [RowKit.intOf]; omega
          · have hji : ¬ ((j : Int) < 4096) := by omega
            clear hbl
            obtain ⟨i0, hi, hz0, hz1, hz2⟩ := info5b
            go_wp2_with fail
            go_loopw [14, 8] (fun i x wq => ∃ q : Nat, q ≤ 20 ∧ i = .int .i64 q ∧ ∃ xs, wq.ownsRow 0 5 1 x (4096 + q) xs ∧ (∀ g, x.ownBlock = some g → g = wx.heap.size ∨ w6.heap.size ≤ g) ∧ Mods (fun b => b = wx.heap.size) w6 wq) (fun i _ _ => 20 - (RowKit.intOf i).toNat)
            case atStart =>
              obtain ⟨xs, hxs⟩ := HBl.out.owns (by decide)
              exact ⟨0, by omega, rfl, xs, hxs, fun g hg => by have hg : some wx.heap.size = some g := hg; simp at hg; exact .inl hg.symm, HMo.out⟩
            case round =>
              obtain ⟨q, hq, rfl, xs, hox, hbx, hmx⟩ := hrel
              obtain ⟨wq, rfl⟩ : ∃ wq, wq = wr := ⟨wr, rfl⟩
              have HMx := hid hmx
              have HBx := hid hbx
              have HOx := hid hox
              clear hmx hbx hox HBl HMo
              by_cases hql : q < 20
              · have hqi : (q : Int) < 20 := by omega
                have hsz1 := HMx.out.size
                have HOA : Hid ((wq.alloc (.cells #[.int .u8 1] 5)).ownsRow 0 5 1 u8 (4096 + q) xs) := hid (HOx.out.alloc _)
                go_wp2_with (at_builtin; refine wpList_append_own_at _ rfl _ _ 42 rfl 0 5 i0 (.int .u8 0) 1 1 Try.underlying42 hi hz0 hz1 hz2 rfl (by decide) _ _ _ rfl HOA.out ⟨wq.heap.size, 0, none⟩ 1 1 [.int .u8 1] rfl (by simp) (cell_one_new _ _ _) (by simp [Value.oneCell']) (by unfold maxLen; omega) (by omega) (Nat.zero_le _) ?_; intro v' w8 hown' hgrow hnil hat)
                go_roundw
                case rel =>
                  refine ⟨q + 1, by omega, by go_num, _, hown', fun g hg => ?_, ?_⟩
                  · rcases hat with e | e
                    · exact HBx.out g (e ▸ hg)
                    · rw [hg] at e; simp at e; exact .inr (by omega)
                  · refine (HMx.out.grown (World.grownBy_alloc wq _ none) (fun b e => by cases e)).grown hgrow (fun b e => ?_)
                    exact HBx.out b e
                case measure => simp [RowKit.intOf]; omega
              · have hqi : ¬ ((q : Int) < 20) := by omega
                have HAq : Hid (St w.heap.size w wq pa (ownA cs k) k al') := hid ⟨H6.out.disk.apart HMx.out (fun b hb e => HNx.out (e ▸ hb)), H6.out.own, HMx.out.below H6.out.bel H6.out.size (fun b e => by rw [e]; exact HgB.out), Nat.le_trans H6.out.size HMx.out.size⟩
                have HBq := hid (HB6.out.apart HMx.out (fun b hb e => HNb.out (e ▸ hb)))
                have HFq := hid (HF6.out.mods HMx.out (by omega))
                clear HOx HBx H6 HB6 HF6 HNx HNb HgB HMx
                go_wp2_with fail
                refine (read_f wq pa _ _ al' HAq.out.disk 0 8 4096 rfl (by omega) (by simp [hasB, ownA_N])).mono ?_
                rintro e wy ⟨rfl, hby, hfy, hly⟩
                have HAy := hid (HAq.out.below hby)
                have HBy := hid (HBq.out.below hby)
                have HFy1 := hid (HFq.out.below hby)
                have HFy2 := hid hfy
                have HLy := hid hly
                clear hby hfy hly HAq HBq HFq
                go_wp2_with fail
                refine (read_f wy pb _ _ be HBy.out 0 8 4096 rfl (by omega) (by decide)).mono ?_
                rintro e wv ⟨rfl, hbv, hfv, hlv⟩
                have hzz : readTo (noDisk 8) 0 8 = List.replicate 4096 0 := by
                  simp only [readTo, blockOf, lastOf, noDisk, if_true, Option.getD_none, List.nil_append, zeros]
                  simp only [List.replicate_append_replicate]
                rw [hzz] at hfv hlv
                obtain ⟨sz, hsz⟩ : ∃ sz, sz = strOfNums (List.replicate 4096 0) := ⟨_, rfl⟩
                have HSof : Hid (∀ w' : World, Below wv.heap.size wv w' → ((convert 42 9 (.slice (some ⟨w5.heap.size, 0, none⟩) 4096 4096)).run Try.prog w' = .ok (.string s) w' ∧ (convert 42 9 (.slice (some ⟨wq.heap.size, 0, none⟩) 4096 4096)).run Try.prog w' = .ok (.string s) w' ∧ (convert 42 9 (.slice (some ⟨wy.heap.size, 0, none⟩) 4096 4096)).run Try.prog w' = .ok (.string sz) w')) := hid fun w' hb => by
                  rw [HSs.out, hsz]
                  exact ⟨((HFy1.out.below hbv).below hb).conv HL6.out, ((HFy2.out.below hbv).below hb).conv HLy.out, (hfv.below hb).conv hlv⟩
                have hS1 := HSof.out wv.drew ((Below.refl _ wv).drew)
                have hbm : Below wv.heap.size wv (wv.drew.alloc (.cells (madeCells #[.int .u8 0] 4096) 5)) := ((Below.refl _ wv).drew).alloc (Nat.le_refl _) _
                have hSm := HSof.out _ hbm
                have hcm : (convert 42 9 (.slice (some ⟨wv.heap.size, 0, none⟩) 4096 4096)).run Try.prog (wv.drew.alloc (.cells (madeCells #[.int .u8 0] 4096) 5)) = .ok (.string sz) (wv.drew.alloc (.cells (madeCells #[.int .u8 0] 4096) 5)) := by
                  rw [hsz]
                  refine Fresh.conv (g := wv.heap.size) (l := List.replicate 4096 0) (Fresh.of_rowIs ?_ (by rw [List.length_replicate]; decide)) List.length_replicate
                  rw [List.length_replicate]
                  refine (World.rowIs_made wv.drew (.int .u8 0) 4096 5).congr fun i hi => ?_
                  simp only [List.getD, List.getElem?_replicate]
                  rw [if_pos hi]; rfl
                have hcm2 : (convert 42 9 (.slice (some ⟨wv.heap.size, 0, none⟩) 4096 4096)).run Try.prog (wv.alloc (.cells (madeCells #[.int .u8 0] 4096) 5)).drew = .ok (.string sz) (wv.alloc (.cells (madeCells #[.int .u8 0] 4096) 5)).drew := hcm
                have hmk := run_make_row' (P := Try.prog) 42 5 (.int .u8 0) 1 Try.underlying42 info5 rfl .i64 .i64 4096 (by omega) (by omega)
                rw [show ((4096 : Nat) : Int) = 4096 by omega] at hmk
                have HDty : Hid (Calls Try.prog 17 #[.pointer (some ⟨pb, 0, none⟩)] (wv.drew.alloc (.cells (madeCells #[.int .u8 0] 4096) 5)) fun e w' => ∃ _x _y : Nat, e = .returned (.slice none 0 0) ∧ Below wv.heap.size wv w') := hid ((Dirty_any _ pb (noDisk 8) 0 be ((HBy.out.below hbv).below hbm) (by omega)).mono fun e w' ⟨v, L, h1, h2, _, h4, h5⟩ => by
                  have hL0 : L = [] := dirty_none h2 (fun k => rfl)
                  rw [h4.2 hL0] at h1
                  exact ⟨0, 0, h1, hbm.trans (h5.mono hbm.size)⟩)
                have HEnd := hid (HAy.out.below hbv)
                clear hfv hlv hbv hbm hzz hsz HFy1 HFy2 HAy HBy HLy
                go_wp2_with fail
                refine wp_region_held_drew (S := fun w' => (convert 42 9 (.slice (some ⟨w5.heap.size, 0, none⟩) 4096 4096)).run Try.prog w' = .ok (.string s) w' ∧ (convert 42 9 (.slice (some ⟨wq.heap.size, 0, none⟩) 4096 4096)).run Try.prog w' = .ok (.string s) w' ∧ (convert 42 9 (.slice (some ⟨wy.heap.size, 0, none⟩) 4096 4096)).run Try.prog w' = .ok (.string sz) w') (by kernel_rfl) hS1 (fun hS => ?_)
                refine any_take 0 97 (.slice (some ⟨w5.heap.size, 0, none⟩) 4096 4096) rfl rfl (by kernel_rfl) (by kernel_rfl) (by kernel_rfl) (fun _ _ _ h => h) (Or.inl ⟨by rfl, ?_⟩) hS ?_
                · rintro w' ⟨s1, s2, s3⟩
                  go_simp
                simp only [List.setIfInBounds_toArray, List.set_cons_zero, List.set_cons_succ]
                refine any_take 1 98 (.string s) rfl rfl (by kernel_rfl) (by kernel_rfl) (by kernel_rfl) (fun _ _ _ h => h) (Or.inl ⟨by rfl, ?_⟩) hS ?_
                · rintro w' ⟨s1, s2, s3⟩
                  go_simp
                simp only [List.setIfInBounds_toArray, List.set_cons_zero, List.set_cons_succ]
                refine any_take 2 99 (.string s) rfl rfl (by kernel_rfl) (by kernel_rfl) (by kernel_rfl) (fun _ _ _ h => h) (Or.inl ⟨by rfl, ?_⟩) hS ?_
                · rintro w' ⟨s1, s2, s3⟩
                  go_simp
                simp only [List.setIfInBounds_toArray, List.set_cons_zero, List.set_cons_succ]
                refine any_take 3 100 (.bool true) rfl rfl (by kernel_rfl) (by kernel_rfl) (by kernel_rfl) (fun _ _ _ h => h) (Or.inl ⟨by rfl, ?_⟩) hS ?_
                · rintro w' ⟨s1, s2, s3⟩
                  go_simp
                simp only [List.setIfInBounds_toArray, List.set_cons_zero, List.set_cons_succ]
                refine any_take 4 101 (.bool true) rfl rfl (by kernel_rfl) (by kernel_rfl) (by kernel_rfl) (fun _ _ _ h => h) (Or.inl ⟨by rfl, ?_⟩) hS ?_
                · rintro w' ⟨s1, s2, s3⟩
                  go_simp
                simp only [List.setIfInBounds_toArray, List.set_cons_zero, List.set_cons_succ]
                refine any_take 5 102 (.slice (some ⟨wq.heap.size, 0, none⟩) 4096 4096) rfl rfl (by kernel_rfl) (by kernel_rfl) (by kernel_rfl) (fun _ _ _ h => h) (Or.inl ⟨by rfl, ?_⟩) hS ?_
                · rintro w' ⟨s1, s2, s3⟩
                  go_simp
                simp only [List.setIfInBounds_toArray, List.set_cons_zero, List.set_cons_succ]
                refine any_take 6 103 (.string s) rfl rfl (by kernel_rfl) (by kernel_rfl) (by kernel_rfl) (fun _ _ _ h => h) (Or.inl ⟨by rfl, ?_⟩) hS ?_
                · rintro w' ⟨s1, s2, s3⟩
                  go_simp
                simp only [List.setIfInBounds_toArray, List.set_cons_zero, List.set_cons_succ]
                refine any_take 7 104 (.string s) rfl rfl (by kernel_rfl) (by kernel_rfl) (by kernel_rfl) (fun _ _ _ h => h) (Or.inl ⟨by rfl, ?_⟩) hS ?_
                · rintro w' ⟨s1, s2, s3⟩
                  go_simp
                simp only [List.setIfInBounds_toArray, List.set_cons_zero, List.set_cons_succ]
                refine any_take 8 105 (.bool true) rfl rfl (by kernel_rfl) (by kernel_rfl) (by kernel_rfl) (fun _ _ _ h => h) (Or.inl ⟨by rfl, ?_⟩) hS ?_
                · rintro w' ⟨s1, s2, s3⟩
                  go_simp
                simp only [List.setIfInBounds_toArray, List.set_cons_zero, List.set_cons_succ]
                refine any_take 9 106 (.bool true) rfl rfl (by kernel_rfl) (by kernel_rfl) (by kernel_rfl) (fun _ _ _ h => h) (Or.inl ⟨by rfl, ?_⟩) hS ?_
                · rintro w' ⟨s1, s2, s3⟩
                  go_simp
                simp only [List.setIfInBounds_toArray, List.set_cons_zero, List.set_cons_succ]
                refine any_take 10 107 (.bool true) rfl rfl (by kernel_rfl) (by kernel_rfl) (by kernel_rfl) (fun _ _ _ h => h) (Or.inl ⟨by rfl, ?_⟩) hS ?_
                · rintro w' ⟨s1, s2, s3⟩
                  go_simp
                simp only [List.setIfInBounds_toArray, List.set_cons_zero, List.set_cons_succ]
                refine any_take 11 108 (.slice (some ⟨wy.heap.size, 0, none⟩) 4096 4096) rfl rfl (by kernel_rfl) (by kernel_rfl) (by kernel_rfl) (fun _ _ _ h => h) (Or.inl ⟨by rfl, ?_⟩) hS ?_
                · rintro w' ⟨s1, s2, s3⟩
                  go_simp
                simp only [List.setIfInBounds_toArray, List.set_cons_zero, List.set_cons_succ]
                refine any_take 12 109 (.string sz) rfl rfl (by kernel_rfl) (by kernel_rfl) (by kernel_rfl) (fun _ _ _ h => h) (Or.inl ⟨by rfl, ?_⟩) hS ?_
                · rintro w' ⟨s1, s2, s3⟩
                  go_simp
                simp only [List.setIfInBounds_toArray, List.set_cons_zero, List.set_cons_succ]
                refine any_one 13 (by kernel_rfl) ?_
                refine op_value' 110 (v := .slice (some ⟨wv.heap.size, 0, none⟩) 4096 4096) (w' := wv.drew.alloc (.cells (madeCells #[.int .u8 0] 4096) 5)) rfl (by rfl) rfl (by go_simp) ⟨hSm, ?_⟩
                simp only [List.setIfInBounds_toArray, List.set_cons_zero, List.set_cons_succ]
                refine any_one 14 (by kernel_rfl) ?_
                refine op_value' 111 (v := .string sz) (w' := wv.drew.alloc (.cells (madeCells #[.int .u8 0] 4096) 5)) rfl (by rfl) rfl (by go_simp) ⟨hSm, ?_⟩
                simp only [List.setIfInBounds_toArray, List.set_cons_zero, List.set_cons_succ]
                refine any_take 15 112 (.bool true) rfl rfl (by kernel_rfl) (by kernel_rfl) (by kernel_rfl) (fun _ _ _ h => h) (Or.inl ⟨by rfl, ?_⟩) hSm ?_
                · rintro w' ⟨s1, s2, s3⟩
                  go_simp
                simp only [List.setIfInBounds_toArray, List.set_cons_zero, List.set_cons_succ]
                refine any_take 16 113 (.bool true) rfl rfl (by kernel_rfl) (by kernel_rfl) (by kernel_rfl) (fun _ _ _ h => h) (Or.inl ⟨by rfl, ?_⟩) hSm ?_
                · rintro w' ⟨s1, s2, s3⟩
                  go_simp
                simp only [List.setIfInBounds_toArray, List.set_cons_zero, List.set_cons_succ]
                refine any_take 17 114 (.bool true) rfl rfl (by kernel_rfl) (by kernel_rfl) (by kernel_rfl) (fun _ _ _ h => h) (Or.inl ⟨by rfl, ?_⟩) hSm ?_
                · rintro w' ⟨s1, s2, s3⟩
                  go_simp
                simp only [List.setIfInBounds_toArray, List.set_cons_zero, List.set_cons_succ]
                refine any_take 18 115 (.pointer (some ⟨pb, 0, none⟩)) rfl rfl (by kernel_rfl) (by kernel_rfl) (by kernel_rfl) (fun _ _ _ h => h) (Or.inl ⟨by rfl, ?_⟩) hSm ?_
                · rintro w' ⟨s1, s2, s3⟩
                  go_simp
                simp only [List.setIfInBounds_toArray, List.set_cons_zero, List.set_cons_succ]
                refine any_one 19 (by kernel_rfl) ?_
                refine op_call' 116 (f := 17) (args := #[.pointer (some ⟨pb, 0, none⟩)]) (val := fun _ _ => .slice none 0 0) rfl (by rfl) rfl (by go_simp) HDty.out (fun _ _ w9 hr => ?_)
                have hS9 := HSof.out w9 hr
                have HB9 := hid hr
                clear hr
                refine ⟨hS9, ?_⟩
                simp only [List.setIfInBounds_toArray, List.set_cons_zero, List.set_cons_succ]
                refine any_one 20 (by kernel_rfl) ?_
                refine op_value' 117 (v := .int .i64 0) (w' := w9) rfl (by rfl) rfl (by go_simp) ⟨hS9, ?_⟩
                simp only [List.setIfInBounds_toArray, List.set_cons_zero, List.set_cons_succ]
                refine any_take 21 118 (.bool true) rfl rfl (by kernel_rfl) (by kernel_rfl) (by kernel_rfl) (fun _ _ _ h => h) (Or.inl ⟨by rfl, ?_⟩) hS9 ?_
                · rintro w' ⟨s1, s2, s3⟩
                  go_simp
                simp only [List.setIfInBounds_toArray, List.set_cons_zero, List.set_cons_succ]
                refine any_take 22 119 (.bool true) rfl rfl (by kernel_rfl) (by kernel_rfl) (by kernel_rfl) (fun _ _ _ h => h) (Or.inl ⟨by rfl, ?_⟩) hS9 ?_
                · rintro w' ⟨s1, s2, s3⟩
                  go_simp
                simp only [List.setIfInBounds_toArray, List.set_cons_zero, List.set_cons_succ]
                refine any_take 23 2 (.bool true) rfl rfl (by kernel_rfl) (by kernel_rfl) (by kernel_rfl) (fun _ _ _ h => h) (Or.inl ⟨by rfl, ?_⟩) hS9 ?_
                · rintro w' ⟨s1, s2, s3⟩
                  go_simp
                simp only [List.setIfInBounds_toArray, List.set_cons_zero, List.set_cons_succ]
                refine wpAnyH_done (by kernel_rfl) ?_ _
                go_wp2
                go_ret
                exact ⟨rfl, (HEnd.out.below HB9.out).bel⟩
    · have hki : ¬ ((k : Int) < (cs.length : Int)) := by omega
      obtain ⟨wx, rfl⟩ : ∃ wx, wx = wr := ⟨wr, rfl⟩
      go_wp2_with fail
      refine (read_f wx pa _ _ al' H.out.disk 0 8 4096 rfl (by omega) (by simp [hasB, ownA_N])).mono ?_
      rintro e w5 ⟨rfl, hb5, hf5, hl5⟩
      have H5 := hid (H.out.below hb5)
      have HB5 := hid (HB.out.below hb5)
      have HF5 := hid hf5
      have HNx : Hid (¬ al' wx.heap.size) := hid (St.new H.out.disk (Nat.le_refl _))
      have HNb : Hid (¬ be wx.heap.size) := hid (St.new HB.out (Nat.le_refl _))
      have HgB := hid H.out.size
      have hgl := hf5.lt
      clear hb5 hf5 H HB
      go_wp2_with fail
      refine (read_f w5 pa _ _ al' H5.out.disk 0 8 4096 rfl (by omega) (by simp [hasB, ownA_N])).mono ?_
      rintro e w6 ⟨rfl, hb6, hf6, hl6⟩
      have hcy := hf6.conv hl6
      obtain ⟨s, hs⟩ : ∃ s, s = strOfNums (readTo (ownA cs k) 0 8) := ⟨_, rfl⟩
      rw [← hs] at hcy
      have HSs := hid hs
      have H6 := hid (H5.out.below hb6)
      have HB6 := hid (HB5.out.below hb6)
      have HF6 := hid hf6
      have HL6 := hid hl6
      have HX6 := hid (Fresh.blk (HF5.out.below hb6) hl5)
      clear hb6 hf6 HF5 H5 HB5 hs hl6 hl5
      go_wp2_with fail
      go_loopw [13] (fun i wz => ∃ j : Nat, j ≤ 4096 ∧ i = .int .i64 j ∧ Blk wz wx.heap.size 4096 ∧ Mods (fun b => b = wx.heap.size) w6 wz) (fun i _ => 4096 - (RowKit.intOf i).toNat)
      case atStart => exact ⟨0, by omega, rfl, HX6.out, Mods.refl _ _⟩
      case round =>
        obtain ⟨wz, rfl⟩ : ∃ wz, wz = wr := ⟨wr, rfl⟩
        obtain ⟨j, hj, rfl, hbl, hmo⟩ := hrel
        have HBl := hid hbl
        have HMo := hid hmo
        clear hmo HX6
        by_cases hjl : j < 4096
        · have hji : (j : Int) < 4096 := by omega
          obtain ⟨vv, hcv⟩ := hbl.cell hjl
          have hfv := hbl.frozen (i := j)
          clear hbl
          go_wp2
          go_roundw
          case rel => exact ⟨j + 1, by omega, by go_num, HBl.out.set _, HMo.out.set rfl _⟩
          case measure => simp [RowKit.intOf]; omega
        · have hji : ¬ ((j : Int) < 4096) := by omega
          clear hbl
          obtain ⟨i0, hi, hz0, hz1, hz2⟩ := info5b
          go_wp2_with fail
          go_loopw [14, 8] (fun i x wq => ∃ q : Nat, q ≤ 20 ∧ i = .int .i64 q ∧ ∃ xs, wq.ownsRow 0 5 1 x (4096 + q) xs ∧ (∀ g, x.ownBlock = some g → g = wx.heap.size ∨ w6.heap.size ≤ g) ∧ Mods (fun b => b = wx.heap.size) w6 wq) (fun i _ _ => 20 - (RowKit.intOf i).toNat)
          case atStart =>
            obtain ⟨xs, hxs⟩ := HBl.out.owns (by decide)
            exact ⟨0, by omega, rfl, xs, hxs, fun g hg => by have hg : some wx.heap.size = some g := hg; simp at hg; exact .inl hg.symm, HMo.out⟩
          case round =>
            obtain ⟨q, hq, rfl, xs, hox, hbx, hmx⟩ := hrel
            obtain ⟨wq, rfl⟩ : ∃ wq, wq = wr := ⟨wr, rfl⟩
            have HMx := hid hmx
            have HBx := hid hbx
            have HOx := hid hox
            clear hmx hbx hox HBl HMo
            by_cases hql : q < 20
            · have hqi : (q : Int) < 20 := by omega
              have hsz1 := HMx.out.size
              have HOA : Hid ((wq.alloc (.cells #[.int .u8 1] 5)).ownsRow 0 5 1 u8 (4096 + q) xs) := hid (HOx.out.alloc _)
              go_wp2_with (at_builtin; refine wpList_append_own_at _ rfl _ _ 42 rfl 0 5 i0 (.int .u8 0) 1 1 Try.underlying42 hi hz0 hz1 hz2 rfl (by decide) _ _ _ rfl HOA.out ⟨wq.heap.size, 0, none⟩ 1 1 [.int .u8 1] rfl (by simp) (cell_one_new _ _ _) (by simp [Value.oneCell']) (by unfold maxLen; omega) (by omega) (Nat.zero_le _) ?_; intro v' w8 hown' hgrow hnil hat)
              go_roundw
              case rel =>
                refine ⟨q + 1, by omega, by go_num, _, hown', fun g hg => ?_, ?_⟩
                · rcases hat with e | e
                  · exact HBx.out g (e ▸ hg)
                  · rw [hg] at e; simp at e; exact .inr (by omega)
                · refine (HMx.out.grown (World.grownBy_alloc wq _ none) (fun b e => by cases e)).grown hgrow (fun b e => ?_)
                  exact HBx.out b e
              case measure => simp [RowKit.intOf]; omega
            · have hqi : ¬ ((q : Int) < 20) := by omega
              have HAq : Hid (St w.heap.size w wq pa (ownA cs k) k al') := hid ⟨H6.out.disk.apart HMx.out (fun b hb e => HNx.out (e ▸ hb)), H6.out.own, HMx.out.below H6.out.bel H6.out.size (fun b e => by rw [e]; exact HgB.out), Nat.le_trans H6.out.size HMx.out.size⟩
              have HBq := hid (HB6.out.apart HMx.out (fun b hb e => HNb.out (e ▸ hb)))
              have HFq := hid (HF6.out.mods HMx.out (by omega))
              clear HOx HBx H6 HB6 HF6 HNx HNb HgB HMx
              go_wp2_with fail
              refine (read_f wq pa _ _ al' HAq.out.disk 0 8 4096 rfl (by omega) (by simp [hasB, ownA_N])).mono ?_
              rintro e wy ⟨rfl, hby, hfy, hly⟩
              have HAy := hid (HAq.out.below hby)
              have HBy := hid (HBq.out.below hby)
              have HFy1 := hid (HFq.out.below hby)
              have HFy2 := hid hfy
              have HLy := hid hly
              clear hby hfy hly HAq HBq HFq
              go_wp2_with fail
              refine (read_f wy pb _ _ be HBy.out 0 8 4096 rfl (by omega) (by decide)).mono ?_
              rintro e wv ⟨rfl, hbv, hfv, hlv⟩
              have hzz : readTo (noDisk 8) 0 8 = List.replicate 4096 0 := by
                simp only [readTo, blockOf, lastOf, noDisk, if_true, Option.getD_none, List.nil_append, zeros]
                simp only [List.replicate_append_replicate]
              rw [hzz] at hfv hlv
              obtain ⟨sz, hsz⟩ : ∃ sz, sz = strOfNums (List.replicate 4096 0) := ⟨_, rfl⟩
              have HSof : Hid (∀ w' : World, Below wv.heap.size wv w' → ((convert 42 9 (.slice (some ⟨w5.heap.size, 0, none⟩) 4096 4096)).run Try.prog w' = .ok (.string s) w' ∧ (convert 42 9 (.slice (some ⟨wq.heap.size, 0, none⟩) 4096 4096)).run Try.prog w' = .ok (.string s) w' ∧ (convert 42 9 (.slice (some ⟨wy.heap.size, 0, none⟩) 4096 4096)).run Try.prog w' = .ok (.string sz) w')) := hid fun w' hb => by
                rw [HSs.out, hsz]
                exact ⟨((HFy1.out.below hbv).below hb).conv HL6.out, ((HFy2.out.below hbv).below hb).conv HLy.out, (hfv.below hb).conv hlv⟩
              have hS1 := HSof.out wv.drew ((Below.refl _ wv).drew)
              have hbm : Below wv.heap.size wv (wv.drew.alloc (.cells (madeCells #[.int .u8 0] 4096) 5)) := ((Below.refl _ wv).drew).alloc (Nat.le_refl _) _
              have hSm := HSof.out _ hbm
              have hcm : (convert 42 9 (.slice (some ⟨wv.heap.size, 0, none⟩) 4096 4096)).run Try.prog (wv.drew.alloc (.cells (madeCells #[.int .u8 0] 4096) 5)) = .ok (.string sz) (wv.drew.alloc (.cells (madeCells #[.int .u8 0] 4096) 5)) := by
                rw [hsz]
                refine Fresh.conv (g := wv.heap.size) (l := List.replicate 4096 0) (Fresh.of_rowIs ?_ (by rw [List.length_replicate]; decide)) List.length_replicate
                rw [List.length_replicate]
                refine (World.rowIs_made wv.drew (.int .u8 0) 4096 5).congr fun i hi => ?_
                simp only [List.getD, List.getElem?_replicate]
                rw [if_pos hi]; rfl
              have hcm2 : (convert 42 9 (.slice (some ⟨wv.heap.size, 0, none⟩) 4096 4096)).run Try.prog (wv.alloc (.cells (madeCells #[.int .u8 0] 4096) 5)).drew = .ok (.string sz) (wv.alloc (.cells (madeCells #[.int .u8 0] 4096) 5)).drew := hcm
              have hmk := run_make_row' (P := Try.prog) 42 5 (.int .u8 0) 1 Try.underlying42 info5 rfl .i64 .i64 4096 (by omega) (by omega)
              rw [show ((4096 : Nat) : Int) = 4096 by omega] at hmk
              have HDty : Hid (Calls Try.prog 17 #[.pointer (some ⟨pb, 0, none⟩)] (wv.drew.alloc (.cells (madeCells #[.int .u8 0] 4096) 5)) fun e w' => ∃ _x _y : Nat, e = .returned (.slice none 0 0) ∧ Below wv.heap.size wv w') := hid ((Dirty_any _ pb (noDisk 8) 0 be ((HBy.out.below hbv).below hbm) (by omega)).mono fun e w' ⟨v, L, h1, h2, _, h4, h5⟩ => by
                have hL0 : L = [] := dirty_none h2 (fun k => rfl)
                rw [h4.2 hL0] at h1
                exact ⟨0, 0, h1, hbm.trans (h5.mono hbm.size)⟩)
              have HEnd := hid (HAy.out.below hbv)
              clear hfv hlv hbv hbm hzz hsz HFy1 HFy2 HAy HBy HLy
              go_wp2_with fail
              refine wp_region_held_drew (S := fun w' => (convert 42 9 (.slice (some ⟨w5.heap.size, 0, none⟩) 4096 4096)).run Try.prog w' = .ok (.string s) w' ∧ (convert 42 9 (.slice (some ⟨wq.heap.size, 0, none⟩) 4096 4096)).run Try.prog w' = .ok (.string s) w' ∧ (convert 42 9 (.slice (some ⟨wy.heap.size, 0, none⟩) 4096 4096)).run Try.prog w' = .ok (.string sz) w') (by kernel_rfl) hS1 (fun hS => ?_)
              refine any_take 0 97 (.slice (some ⟨w5.heap.size, 0, none⟩) 4096 4096) rfl rfl (by kernel_rfl) (by kernel_rfl) (by kernel_rfl) (fun _ _ _ h => h) (Or.inl ⟨by rfl, ?_⟩) hS ?_
              · rintro w' ⟨s1, s2, s3⟩
                go_simp
              simp only [List.setIfInBounds_toArray, List.set_cons_zero, List.set_cons_succ]
              refine any_take 1 98 (.string s) rfl rfl (by kernel_rfl) (by kernel_rfl) (by kernel_rfl) (fun _ _ _ h => h) (Or.inl ⟨by rfl, ?_⟩) hS ?_
              · rintro w' ⟨s1, s2, s3⟩
                go_simp
              simp only [List.setIfInBounds_toArray, List.set_cons_zero, List.set_cons_succ]
              refine any_take 2 99 (.string s) rfl rfl (by kernel_rfl) (by kernel_rfl) (by kernel_rfl) (fun _ _ _ h => h) (Or.inl ⟨by rfl, ?_⟩) hS ?_
              · rintro w' ⟨s1, s2, s3⟩
                go_simp
              simp only [List.setIfInBounds_toArray, List.set_cons_zero, List.set_cons_succ]
              refine any_take 3 100 (.bool true) rfl rfl (by kernel_rfl) (by kernel_rfl) (by kernel_rfl) (fun _ _ _ h => h) (Or.inl ⟨by rfl, ?_⟩) hS ?_
              · rintro w' ⟨s1, s2, s3⟩
                go_simp
              simp only [List.setIfInBounds_toArray, List.set_cons_zero, List.set_cons_succ]
              refine any_take 4 101 (.bool true) rfl rfl (by kernel_rfl) (by kernel_rfl) (by kernel_rfl) (fun _ _ _ h => h) (Or.inl ⟨by rfl, ?_⟩) hS ?_
              · rintro w' ⟨s1, s2, s3⟩
                go_simp
              simp only [List.setIfInBounds_toArray, List.set_cons_zero, List.set_cons_succ]
              refine any_take 5 102 (.slice (some ⟨wq.heap.size, 0, none⟩) 4096 4096) rfl rfl (by kernel_rfl) (by kernel_rfl) (by kernel_rfl) (fun _ _ _ h => h) (Or.inl ⟨by rfl, ?_⟩) hS ?_
              · rintro w' ⟨s1, s2, s3⟩
                go_simp
              simp only [List.setIfInBounds_toArray, List.set_cons_zero, List.set_cons_succ]
              refine any_take 6 103 (.string s) rfl rfl (by kernel_rfl) (by kernel_rfl) (by kernel_rfl) (fun _ _ _ h => h) (Or.inl ⟨by rfl, ?_⟩) hS ?_
              · rintro w' ⟨s1, s2, s3⟩
                go_simp
              simp only [List.setIfInBounds_toArray, List.set_cons_zero, List.set_cons_succ]
              refine any_take 7 104 (.string s) rfl rfl (by kernel_rfl) (by kernel_rfl) (by kernel_rfl) (fun _ _ _ h => h) (Or.inl ⟨by rfl, ?_⟩) hS ?_
              · rintro w' ⟨s1, s2, s3⟩
                go_simp
              simp only [List.setIfInBounds_toArray, List.set_cons_zero, List.set_cons_succ]
              refine any_take 8 105 (.bool true) rfl rfl (by kernel_rfl) (by kernel_rfl) (by kernel_rfl) (fun _ _ _ h => h) (Or.inl ⟨by rfl, ?_⟩) hS ?_
              · rintro w' ⟨s1, s2, s3⟩
                go_simp
              simp only [List.setIfInBounds_toArray, List.set_cons_zero, List.set_cons_succ]
              refine any_take 9 106 (.bool true) rfl rfl (by kernel_rfl) (by kernel_rfl) (by kernel_rfl) (fun _ _ _ h => h) (Or.inl ⟨by rfl, ?_⟩) hS ?_
              · rintro w' ⟨s1, s2, s3⟩
                go_simp
              simp only [List.setIfInBounds_toArray, List.set_cons_zero, List.set_cons_succ]
              refine any_take 10 107 (.bool true) rfl rfl (by kernel_rfl) (by kernel_rfl) (by kernel_rfl) (fun _ _ _ h => h) (Or.inl ⟨by rfl, ?_⟩) hS ?_
              · rintro w' ⟨s1, s2, s3⟩
                go_simp
              simp only [List.setIfInBounds_toArray, List.set_cons_zero, List.set_cons_succ]
              refine any_take 11 108 (.slice (some ⟨wy.heap.size, 0, none⟩) 4096 4096) rfl rfl (by kernel_rfl) (by kernel_rfl) (by kernel_rfl) (fun _ _ _ h => h) (Or.inl ⟨by rfl, ?_⟩) hS ?_
              · rintro w' ⟨s1, s2, s3⟩
                go_simp
              simp only [List.setIfInBounds_toArray, List.set_cons_zero, List.set_cons_succ]
              refine any_take 12 109 (.string sz) rfl rfl (by kernel_rfl) (by kernel_rfl) (by kernel_rfl) (fun _ _ _ h => h) (Or.inl ⟨by rfl, ?_⟩) hS ?_
              · rintro w' ⟨s1, s2, s3⟩
                go_simp
              simp only [List.setIfInBounds_toArray, List.set_cons_zero, List.set_cons_succ]
              refine any_one 13 (by kernel_rfl) ?_
              refine op_value' 110 (v := .slice (some ⟨wv.heap.size, 0, none⟩) 4096 4096) (w' := wv.drew.alloc (.cells (madeCells #[.int .u8 0] 4096) 5)) rfl (by rfl) rfl (by go_simp) ⟨hSm, ?_⟩
              simp only [List.setIfInBounds_toArray, List.set_cons_zero, List.set_cons_succ]
              refine any_one 14 (by kernel_rfl) ?_
              refine op_value' 111 (v := .string sz) (w' := wv.drew.alloc (.cells (madeCells #[.int .u8 0] 4096) 5)) rfl (by rfl) rfl (by go_simp) ⟨hSm, ?_⟩
              simp only [List.setIfInBounds_toArray, List.set_cons_zero, List.set_cons_succ]
              refine any_take 15 112 (.bool true) rfl rfl (by kernel_rfl) (by kernel_rfl) (by kernel_rfl) (fun _ _ _ h => h) (Or.inl ⟨by rfl, ?_⟩) hSm ?_
              · rintro w' ⟨s1, s2, s3⟩
                go_simp
              simp only [List.setIfInBounds_toArray, List.set_cons_zero, List.set_cons_succ]
              refine any_take 16 113 (.bool true) rfl rfl (by kernel_rfl) (by kernel_rfl) (by kernel_rfl) (fun _ _ _ h => h) (Or.inl ⟨by rfl, ?_⟩) hSm ?_
              · rintro w' ⟨s1, s2, s3⟩
                go_simp
              simp only [List.setIfInBounds_toArray, List.set_cons_zero, List.set_cons_succ]
              refine any_take 17 114 (.bool true) rfl rfl (by kernel_rfl) (by kernel_rfl) (by kernel_rfl) (fun _ _ _ h => h) (Or.inl ⟨by rfl, ?_⟩) hSm ?_
              · rintro w' ⟨s1, s2, s3⟩
                go_simp
              simp only [List.setIfInBounds_toArray, List.set_cons_zero, List.set_cons_succ]
              refine any_take 18 115 (.pointer (some ⟨pb, 0, none⟩)) rfl rfl (by kernel_rfl) (by kernel_rfl) (by kernel_rfl) (fun _ _ _ h => h) (Or.inl ⟨by rfl, ?_⟩) hSm ?_
              · rintro w' ⟨s1, s2, s3⟩
                go_simp
              simp only [List.setIfInBounds_toArray, List.set_cons_zero, List.set_cons_succ]
              refine any_one 19 (by kernel_rfl) ?_
              refine op_call' 116 (f := 17) (args := #[.pointer (some ⟨pb, 0, none⟩)]) (val := fun _ _ => .slice none 0 0) rfl (by rfl) rfl (by go_simp) HDty.out (fun _ _ w9 hr => ?_)
              have hS9 := HSof.out w9 hr
              have HB9 := hid hr
              clear hr
              refine ⟨hS9, ?_⟩
              simp only [List.setIfInBounds_toArray, List.set_cons_zero, List.set_cons_succ]
              refine any_one 20 (by kernel_rfl) ?_
              refine op_value' 117 (v := .int .i64 0) (w' := w9) rfl (by rfl) rfl (by go_simp) ⟨hS9, ?_⟩
              simp only [List.setIfInBounds_toArray, List.set_cons_zero, List.set_cons_succ]
              refine any_take 21 118 (.bool true) rfl rfl (by kernel_rfl) (by kernel_rfl) (by kernel_rfl) (fun _ _ _ h => h) (Or.inl ⟨by rfl, ?_⟩) hS9 ?_
              · rintro w' ⟨s1, s2, s3⟩
                go_simp
              simp only [List.setIfInBounds_toArray, List.set_cons_zero, List.set_cons_succ]
              refine any_take 22 119 (.bool true) rfl rfl (by kernel_rfl) (by kernel_rfl) (by kernel_rfl) (fun _ _ _ h => h) (Or.inl ⟨by rfl, ?_⟩) hS9 ?_
              · rintro w' ⟨s1, s2, s3⟩
                go_simp
              simp only [List.setIfInBounds_toArray, List.set_cons_zero, List.set_cons_succ]
              refine any_take 23 2 (.bool true) rfl rfl (by kernel_rfl) (by kernel_rfl) (by kernel_rfl) (fun _ _ _ h => h) (Or.inl ⟨by rfl, ?_⟩) hS9 ?_
              · rintro w' ⟨s1, s2, s3⟩
                go_simp
              simp only [List.setIfInBounds_toArray, List.set_cons_zero, List.set_cons_succ]
              refine wpAnyH_done (by kernel_rfl) ?_ _
              go_wp2
              go_ret
              exact ⟨rfl, (HEnd.out.below HB9.out).bel⟩
end diskOwn
end Go.Proofs.Ytdbpjdaaggenpaa
