/- R5N, R5O, R5P in one text. -/
import Derived.Test.YtdjghkngiicncaaGreatR5M
/- The document's card: NewCard. -/
namespace Go.Proofs.YtdjghkngiicncaaGreat
open Go.RowKit

def newS (H : Nh) (f : Nat → Int) (k : Nat) : Ns :=
  { f := (offN H.qi H.fi ⟨A0 H.n, cardF H f, 0, 0⟩ k).f, Ai := (offN H.qi H.fi ⟨A0 H.n, cardF H f, 0, 0⟩ k).A, Ao := A0 H.n, oi := 0, ui := 0, oo := 0, uo := 0 }
theorem newS_free (H : Nh) (f : Nat → Int) (k : Nat) (hk : k < H.n) : 0 < (newS H f k).Ai.free.length ∧ (newS H f k).Ai.free.getD 0 0 = k := by
  have h : (newS H f k).Ai.free = (List.range H.n).drop k := offN_free _ _ _ _
  rw [h]
  refine ⟨by simp; omega, ?_⟩
  simp [List.getD, hk]
theorem newS_hds (H : Nh) (f : Nat → Int) (k : Nat) (hk : k < H.n) : hds (newS H f (k + 1)).Ai = hds (newS H f k).Ai ++ [k] := by
  show hds (AddA (newS H f k).Ai 1) = _
  rw [hds_add, (newS_free H f k hk).2]
set_option maxRecDepth 100000 in
set_option maxHeartbeats 8000000 in
theorem rNewCard_ok (w : World) (H : Nh) (g : Nat) (f : Nat → Int) (hm : Mem w g H.N f) :
    Calls Tryz.prog 8 #[.slice (some ⟨g, 0, none⟩) H.N H.N, .int .i64 H.base, .int .i64 H.n] w fun e w' => ∃ B : Rb, e = .returned (.tuple #[.pointer (some ⟨B.pc, 0, none⟩), .int .i64 0]) ∧ B.g = g ∧ Mods (fun b => b = g) w w' ∧
      ∃ lab v1, RCrdAt w' lab B H (newS H f H.n) v1 (.slice none 0 0) (hds (newS H f H.n).Ai) [] ∧ ∀ b, b < w.heap.size → b ≠ g → lab b = 0 := by
  have hbd := H.bd
  have hfit := H.fit
  have hbig := H.big
  have HHA : Hid (Calls Tryz.prog 26 #[.slice (some ⟨g, 0, none⟩) H.N H.N, .int .i64 H.base, .int .i64 H.n] w fun e w' => e = .returned (.bool true) ∧ w' = w) := hid (by
    have h1 := rfits_any w (some ⟨g, 0, none⟩) H.N H.N H.base H.n hbig
    have h2 : hasB H.N H.base H.n = true := by
      unfold hasB areaI
      rw [if_pos H.p2]
      simp
      omega
    rw [h2] at h1
    exact h1)
  have hgl := hm.lt
  obtain ⟨W1, hW1⟩ : ∃ W1, W1 = w.alloc (.cells #[.pointer none, .pointer none, .slice (some ⟨g, 0, none⟩) H.N H.N, .int .i64 H.base, .int .i64 H.n, .slice none 0 0, .slice none 0 0] 60) := ⟨_, rfl⟩
  have hb1 : Below w.heap.size w W1 := by rw [hW1]; exact (Below.refl _ _).alloc (Nat.le_refl _) _
  have hsz1 : W1.heap.size = w.heap.size + 1 := by rw [hW1]; simp
  have hc1 : W1.heap[w.heap.size]? = some (.cells #[.pointer none, .pointer none, .slice (some ⟨g, 0, none⟩) H.N H.N, .int .i64 H.base, .int .i64 H.n, .slice none 0 0, .slice none 0 0] 60 (0, 0)) := by rw [hW1]; exact (MapKept.heap_alloc w _).1
  have HN1 := hid (rNewDriver_ok W1 H.qi g f (hm.below hb1) H.p2)
  have hwr : IntKind.i64.wrap ((H.base : Int) + (8 + 26 * (H.n : Int))) = (H.base : Int) + (8 + 26 * (H.n : Int)) := IntWalk.i64_in _ (by omega)
  have hbb : (0 : Int) ≤ (H.base : Int) + (8 + 26 * (H.n : Int)) ∧ (H.base : Int) + (8 + 26 * (H.n : Int)) ≤ 1099511627776 := by omega
  have HB1 := hid hb1
  have HC1 := hid hc1
  have HSZ := hid hsz1
  have HM := hid hm
  have HW1 := hid hW1
  clear hm hfit hb1 hc1 hsz1
  go_enter Tryz.func8, Tryz.ntmps8
  go_wp2_with (go_at_call 26; refine HHA.out.mono ?_; rintro e w1 ⟨rfl, hw1⟩; rw [hw1]; clear hw1)
  rw [← hW1]
  clear hW1
  refine HN1.out.mono ?_
  rintro e w2 ⟨di, rfl, hmo2, hm2, ar1, hd2, ha2⟩
  have hc2 : w2.heap[w.heap.size]? = some (.cells #[.pointer none, .pointer none, .slice (some ⟨g, 0, none⟩) H.N H.N, .int .i64 H.base, .int .i64 H.n, .slice none 0 0, .slice none 0 0] 60 (0, 0)) := (hmo2.block _ (by have := HSZ.out; omega) (by omega)).trans HC1.out
  have p0 : w2.cell? ⟨w.heap.size, 0, none⟩ = some (.pointer none) := cell_of hc2 rfl
  have z0 : w2.frozen? ⟨w.heap.size, 0, none⟩ = false := by unfold World.frozen?; simp [hc2]
  obtain ⟨W3, hW3⟩ : ∃ W3, W3 = w2.setCell ⟨w.heap.size, 0, none⟩ (.pointer (some ⟨di, 0, none⟩)) := ⟨_, rfl⟩
  have hmo3 : Mods (fun b => b = w.heap.size) w2 W3 := by rw [hW3]; exact (Mods.refl _ _).setCell _ _ _ rfl
  have hc3 : W3.heap[w.heap.size]? = some (.cells #[.pointer (some ⟨di, 0, none⟩), .pointer none, .slice (some ⟨g, 0, none⟩) H.N H.N, .int .i64 H.base, .int .i64 H.n, .slice none 0 0, .slice none 0 0] 60 (0, 0)) := by rw [hW3]; exact setc hc2 0 _
  have hm3 := hm2.mods hmo3 (by omega)
  have hsi : sizeI (H.n : Int) = 8 + 26 * (H.n : Int) := by
    rcases areaI_size (H.n : Int) with ⟨h1, h2⟩ | ⟨h1, _⟩
    · unfold areaI at h2
      rw [if_pos H.p2] at h2
      omega
    · exact h1
  have HSI := hid (refSize_any W3 H.n)
  rw [hsi] at HSI
  have hbs : ((H.base + (8 + 26 * H.n) : Nat) : Int) = (H.base : Int) + (8 + 26 * (H.n : Int)) := by omega
  have hN2 := rNewDriver_ok W3 H.qo g _ hm3 H.p2
  rw [show ((H.qo.base : Nat) : Int) = (H.base : Int) + (8 + 26 * (H.n : Int)) from hbs] at hN2
  have HN2 := hid hN2
  have HMO2 := hid hmo2
  have HMO3 := hid hmo3
  have HD2 := hid hd2
  have HA2 := hid ha2
  have HC3 := hid hc3
  have HW3 := hid hW3
  clear hmo2 hm2 hd2 ha2 hc2 hmo3 hc3 hm3 hN2 hsi hbs
  go_wp2_with fail
  rw [← hW3]
  clear hW3
  refine HSI.out.mono ?_
  rintro e w1 ⟨rfl, hw1⟩
  rw [hw1]
  clear hw1
  go_wp2_with fail
  refine HN2.out.mono ?_
  rintro e w4 ⟨dq, rfl, hmo4, hm4, ar2, hd4, ha4⟩
  have hs3 : W3.heap.size = w2.heap.size := by rw [HW3.out]; simp [World.setCell]
  have hs2 := HMO2.out.size
  have hs1 := HSZ.out
  have hc4 : w4.heap[w.heap.size]? = some (.cells #[.pointer (some ⟨di, 0, none⟩), .pointer none, .slice (some ⟨g, 0, none⟩) H.N H.N, .int .i64 H.base, .int .i64 H.n, .slice none 0 0, .slice none 0 0] 60 (0, 0)) := (hmo4.block _ (by omega) (by omega)).trans HC3.out
  have p1 : w4.cell? ⟨w.heap.size, 1, none⟩ = some (.pointer none) := cell_of hc4 rfl
  have z1 : w4.frozen? ⟨w.heap.size, 1, none⟩ = false := by unfold World.frozen?; simp [hc4]
  obtain ⟨W5, hW5⟩ : ∃ W5, W5 = w4.setCell ⟨w.heap.size, 1, none⟩ (.pointer (some ⟨dq, 0, none⟩)) := ⟨_, rfl⟩
  have hmo5 : Mods (fun b => b = w.heap.size) w4 W5 := by rw [hW5]; exact (Mods.refl _ _).setCell _ _ _ rfl
  have hc5 : W5.heap[w.heap.size]? = some (.cells #[.pointer (some ⟨di, 0, none⟩), .pointer (some ⟨dq, 0, none⟩), .slice (some ⟨g, 0, none⟩) H.N H.N, .int .i64 H.base, .int .i64 H.n, .slice none 0 0, .slice none 0 0] 60 (0, 0)) := by rw [hW5]; exact setc hc4 1 _
  have hs5 : W5.heap.size = w4.heap.size := by rw [hW5]; simp [World.setCell]
  have hs4 := hmo4.size
  have hl1 : ∀ b, ar1 b → w.heap.size < b ∧ b < w2.heap.size := fun b hb => ⟨by have := HA2.out b hb; omega, HD2.out.lt b hb⟩
  have hl2 : ∀ b, ar2 b → w2.heap.size ≤ b ∧ b < w4.heap.size := fun b hb => ⟨by have := ha4 b hb; omega, hd4.lt b hb⟩
  obtain ⟨B, hB⟩ : ∃ B : Rb, B = ⟨g, w.heap.size, 0, di, dq, 0, 0⟩ := ⟨_, rfl⟩
  have hcard : RCrdAt W5 (labC ar1 ar2 g w.heap.size) B H (newS H f 0) (.slice none 0 0) (.slice none 0 0) [] [] := by
    have h1 : ∀ b, ar1 b → labC ar1 ar2 g w.heap.size b = 1 := fun b hb => by unfold labC; rw [if_pos hb]
    have n1 : ∀ b, ar2 b → ¬ ar1 b := fun b hb e => by have := hl1 b e; have := hl2 b hb; omega
    have h2 : ∀ b, ar2 b → labC ar1 ar2 g w.heap.size b = 2 := fun b hb => by unfold labC; rw [if_neg (n1 b hb), if_pos hb]
    have h5 : labC ar1 ar2 g w.heap.size g = 5 := by
      unfold labC
      rw [if_neg (fun e => by have := hl1 _ e; omega), if_neg (fun e => by have := hl2 _ e; omega), if_pos rfl]
    have h6 : labC ar1 ar2 g w.heap.size w.heap.size = 6 := by
      unfold labC
      rw [if_neg (fun e => by have := hl1 _ e; omega), if_neg (fun e => by have := hl2 _ e; omega), if_neg (by omega), if_pos rfl]
    have hlt : ∀ b, labC ar1 ar2 g w.heap.size b ≠ 0 → b < W5.heap.size := fun b hb => by
      unfold labC at hb
      split at hb
      · rename_i h; have := hl1 b h; omega
      · split at hb
        · rename_i h; have := hl2 b h; omega
        · split at hb
          · omega
          · split at hb
            · omega
            · exact absurd rfl hb
    rw [hB]
    refine ⟨hlt, ?_, ?_, ?_, hc5, ⟨rfl, .inl ⟨rfl, rfl⟩⟩, ⟨rfl, .inl ⟨rfl, rfl⟩⟩, h5, h6, fun b hb => by simp [Value.ownBlock] at hb, fun b hb => by simp [Value.ownBlock] at hb, wf0 _, wf0 _, One.a0 _, One.a0 _⟩
    · exact (((HD2.out.mods HMO3.out (fun b hb e => by have := hl1 b hb; omega)).mods hmo4 (fun b hb e => by have := hl1 b hb; omega)).mods hmo5 (fun b hb e => by have := hl1 b hb; omega)).up h1 (fun b hb => hlt b (by rw [hb]; omega)) (by show ¬ _ = 1; rw [h5]; omega)
    · exact (hd4.mods hmo5 (fun b hb e => by have := hl2 b hb; omega)).up h2 (fun b hb => hlt b (by rw [hb]; omega)) (by show ¬ _ = 2; rw [h5]; omega)
    · exact hm4.mods hmo5 (by omega)
  have hl0 : ∀ b, labC ar1 ar2 g w.heap.size b ≠ 0 → b = g ∨ w.heap.size ≤ b := fun b hb => by
    unfold labC at hb
    split at hb
    · rename_i h; have := hl1 b h; omega
    · split at hb
      · rename_i h; have := hl2 b h; omega
      · split at hb
        · rename_i h; exact .inl h
        · split at hb
          · omega
          · exact absurd rfl hb
  have hmw : Mods (fun b => b = g) w W5 := (((((Mods.of_below HB1.out).tr HMO2.out).trans HMO3.out (fun b hb => .inr (by omega))).tr hmo4).trans hmo5 (fun b hb => .inr (by omega)))
  have hpc : B.pc = w.heap.size := by rw [hB]
  have hbg : B.g = g := by rw [hB]
  generalize labC ar1 ar2 g w.heap.size = lab0 at *
  have HCD := hid hcard
  have HL0 := hid hl0
  have HMW := hid hmw
  have HPC := hid hpc
  have HBG := hid hbg
  clear hcard hl0 hmw hpc hbg hB hc4 hmo4 hm4 hd4 ha4 hmo5 hc5 hs5 hs4 hs3 hs2 hs1 hl1 hl2
  go_wp2_with fail
  rw [← hW5]
  clear hW5
  go_loopw [9] (fun z wr => ∃ (k : Nat) (lab1 : Nat → Nat) (v1 : Value), k ≤ H.n ∧ z = .int .i64 k ∧ RCrdAt wr lab1 B H (newS H f k) v1 (.slice none 0 0) (hds (newS H f k).Ai) [] ∧ Keep lab0 W5 lab1 wr) (fun z _ => H.n - (RowKit.intOf z).toNat)
  case atStart => exact ⟨0, lab0, .slice none 0 0, Nat.zero_le _, rfl, HCD.out, Keep.refl _ _⟩
  case round =>
    obtain ⟨k, lab1, v1, hk, rfl, hR, hK⟩ := hrel
    have HR := hid hR
    have HK := hid hK
    by_cases hkn : k < H.n
    · have hki : (k : Int) < H.n := by omega
      obtain ⟨q1, q2⟩ := newS_free H f k hkn
      have hlen : (hds (newS H f k).Ai).length ≤ 65535 := by have := hds_len hR.wi hR.oi; omega
      have HOF := hid (coffer_any wr lab1 B H (newS H f k) v1 (.slice none 0 0) _ [] hR k hkn q1 q2 hlen)
      rw [HPC.out] at HOF
      clear hR hK q1 q2 hlen
      go_wp2_with (go_at_call 28; refine HOF.out.mono ?_; rintro e w6 ⟨rfl, lab6, v6, h6, hk6⟩; have HN6 := hid h6; have HK6 := hid (HK.out.trans hk6); clear h6 hk6)
      go_roundw
      case rel =>
        refine ⟨k + 1, lab6, v6, by omega, by go_num, ?_, HK6.out⟩
        rw [newS_hds H f k hkn]
        exact HN6.out
      case measure => simp [RowKit.intOf]; omega
    · have hki : ¬ ((k : Int) < H.n) := by omega
      obtain rfl : k = H.n := by omega
      clear hR hK
      go_wp2
      go_ret2
      refine ⟨B, by first | (rw [HPC.out]; done) | (rw [HPC.out]; rfl) | simp [HPC.out], HBG.out, HMW.out.trans HK.out.2 (fun b hb => ?_), lab1, ⟨v1, HR.out⟩, fun b hb hg => ?_⟩
      · rcases HL0.out b hb with e | e
        · exact .inl e
        · exact .inr e
      · rw [HK.out.1 b (Nat.lt_of_lt_of_le hb HMW.out.size)]
        exact Classical.byContradiction (fun e => by rcases HL0.out b e with e2 | e2 <;> omega)
end Go.Proofs.YtdjghkngiicncaaGreat

/- The document's port: NewPort. -/
namespace Go.Proofs.YtdjghkngiicncaaGreat
open Go.RowKit

set_option maxRecDepth 100000 in
set_option maxHeartbeats 8000000 in
theorem rNewPort_ok (w : World) (H : Nh) (g : Nat) (hgl : g < w.heap.size) :
    Calls Tryz.prog 10 #[.slice (some ⟨g, 0, none⟩) H.N H.N, .int .i64 H.base, .int .i64 H.n] w fun e w' => ∃ pp vi vo, e = .returned (.tuple #[.pointer (some ⟨pp, 0, none⟩), .int .i64 0]) ∧ Below w.heap.size w w' ∧ RDev w' vi g H.N H.N H.base H.n 0 0 ∧ RDev w' vo g H.N H.N (H.base + (8 + 26 * H.n)) H.n 0 0 ∧
      w'.heap[pp]? = some (.cells #[.pointer (some ⟨vi, 0, none⟩), .pointer (some ⟨vo, 0, none⟩), .slice (some ⟨g, 0, none⟩) H.N H.N] 73 (0, 0)) ∧ w.heap.size ≤ pp ∧ pp < vi ∧ vi < vo ∧ vo < w'.heap.size := by
  have hbd := H.bd
  have hfit := H.fit
  have hbig := H.big
  have HHA : Hid (Calls Tryz.prog 26 #[.slice (some ⟨g, 0, none⟩) H.N H.N, .int .i64 H.base, .int .i64 H.n] w fun e w' => e = .returned (.bool true) ∧ w' = w) := hid (by
    have h1 := rfits_any w (some ⟨g, 0, none⟩) H.N H.N H.base H.n hbig
    have h2 : hasB H.N H.base H.n = true := by
      unfold hasB areaI
      rw [if_pos H.p2]
      simp
      omega
    rw [h2] at h1
    exact h1)
  obtain ⟨W1, hW1⟩ : ∃ W1, W1 = w.alloc (.cells #[.pointer none, .pointer none, .slice (some ⟨g, 0, none⟩) H.N H.N] 73) := ⟨_, rfl⟩
  have hb1 : Below w.heap.size w W1 := by rw [hW1]; exact (Below.refl _ _).alloc (Nat.le_refl _) _
  have hsz1 : W1.heap.size = w.heap.size + 1 := by rw [hW1]; simp
  have hc1 : W1.heap[w.heap.size]? = some (.cells #[.pointer none, .pointer none, .slice (some ⟨g, 0, none⟩) H.N H.N] 73 (0, 0)) := by rw [hW1]; exact (MapKept.heap_alloc w _).1
  have hsi : sizeI (H.n : Int) = 8 + 26 * (H.n : Int) := by
    rcases areaI_size (H.n : Int) with ⟨h1, h2⟩ | ⟨h1, _⟩
    · unfold areaI at h2
      rw [if_pos H.p2] at h2
      omega
    · exact h1
  have hbs : ((H.base + (8 + 26 * H.n) : Nat) : Int) = (H.base : Int) + (8 + 26 * (H.n : Int)) := by omega
  have hwr : IntKind.i64.wrap ((H.base : Int) + (8 + 26 * (H.n : Int))) = (H.base : Int) + (8 + 26 * (H.n : Int)) := IntWalk.i64_in _ (by omega)
  have hbb : (0 : Int) ≤ (H.base : Int) + (8 + 26 * (H.n : Int)) ∧ (H.base : Int) + (8 + 26 * (H.n : Int)) ≤ 1099511627776 := by omega
  have HF2 : Hid (Fit H.N ((H.base + (8 + 26 * H.n) : Nat) : Int) H.n) := hid (by unfold Fit; rw [hsi]; refine ⟨by omega, by omega, by omega, by omega⟩)
  have HN1 := hid (refNewDevice_ok W1 g H.N H.N H.base H.n hbig (by unfold Fit; rw [hsi]; refine ⟨by omega, by omega, by omega, by omega⟩) (by omega))
  have HB1 := hid hb1
  have HC1 := hid hc1
  have HSZ := hid hsz1
  have HW1 := hid hW1
  have HSI0 := hid hsi
  have HBS := hid hbs
  clear hfit hb1 hc1 hsz1 hsi hbs
  go_enter Tryz.func10, Tryz.ntmps10
  go_wp2_with (go_at_call 26; refine HHA.out.mono ?_; rintro e w1 ⟨rfl, hw1⟩; rw [hw1]; clear hw1)
  rw [← hW1]
  clear hW1
  refine HN1.out.mono ?_
  rintro e w2 ⟨vi, rfl, hb2, hv2, hd2⟩
  have hs1 := HSZ.out
  have hc2 : w2.heap[w.heap.size]? = some (.cells #[.pointer none, .pointer none, .slice (some ⟨g, 0, none⟩) H.N H.N] 73 (0, 0)) := (hb2.block _ (by omega)).trans HC1.out
  have p0 : w2.cell? ⟨w.heap.size, 0, none⟩ = some (.pointer none) := cell_of hc2 rfl
  have z0 : w2.frozen? ⟨w.heap.size, 0, none⟩ = false := by unfold World.frozen?; simp [hc2]
  obtain ⟨W3, hW3⟩ : ∃ W3, W3 = w2.setCell ⟨w.heap.size, 0, none⟩ (.pointer (some ⟨vi, 0, none⟩)) := ⟨_, rfl⟩
  have hmo3 : Mods (fun b => b = w.heap.size) w2 W3 := by rw [hW3]; exact (Mods.refl _ _).setCell _ _ _ rfl
  have hc3 : W3.heap[w.heap.size]? = some (.cells #[.pointer (some ⟨vi, 0, none⟩), .pointer none, .slice (some ⟨g, 0, none⟩) H.N H.N] 73 (0, 0)) := by rw [hW3]; exact setc hc2 0 _
  have hs3 : W3.heap.size = w2.heap.size := by rw [hW3]; simp [World.setCell]
  have hs2 := hb2.size
  have HSI := hid (refSize_any W3 H.n)
  rw [HSI0.out] at HSI
  have hN2 := refNewDevice_ok W3 g H.N H.N (H.base + (8 + 26 * H.n)) H.n hbig HF2.out (by omega)
  rw [HBS.out] at hN2
  have HN2 := hid hN2
  have HB2 := hid hb2
  have HMO3 := hid hmo3
  have HD2 := hid hd2
  have HV2 := hid hv2
  have HC3 := hid hc3
  have HSS := hid (And.intro hs1 (And.intro hs2 hs3))
  have HGL := hid hgl
  clear hb2 hd2 hc2 hmo3 hc3 hN2 hs1 hs2 hs3 hv2 hgl
  go_wp2_with fail
  rw [← hW3]
  clear hW3
  refine HSI.out.mono ?_
  rintro e w1 ⟨rfl, hw1⟩
  rw [hw1]
  clear hw1
  go_wp2_with fail
  refine HN2.out.mono ?_
  rintro e w4 ⟨vo, rfl, hb4, hv4, hd4⟩
  obtain ⟨hs1, hs2, hs3⟩ := HSS.out
  have hs4 := hb4.size
  have hc4 : w4.heap[w.heap.size]? = some (.cells #[.pointer (some ⟨vi, 0, none⟩), .pointer none, .slice (some ⟨g, 0, none⟩) H.N H.N] 73 (0, 0)) := (hb4.block _ (by omega)).trans HC3.out
  have p1 : w4.cell? ⟨w.heap.size, 1, none⟩ = some (.pointer none) := cell_of hc4 rfl
  have z1 : w4.frozen? ⟨w.heap.size, 1, none⟩ = false := by unfold World.frozen?; simp [hc4]
  obtain ⟨W5, hW5⟩ : ∃ W5, W5 = w4.setCell ⟨w.heap.size, 1, none⟩ (.pointer (some ⟨vo, 0, none⟩)) := ⟨_, rfl⟩
  have hmo5 : Mods (fun b => b = w.heap.size) w4 W5 := by rw [hW5]; exact (Mods.refl _ _).setCell _ _ _ rfl
  have hc5 : W5.heap[w.heap.size]? = some (.cells #[.pointer (some ⟨vi, 0, none⟩), .pointer (some ⟨vo, 0, none⟩), .slice (some ⟨g, 0, none⟩) H.N H.N] 73 (0, 0)) := by rw [hW5]; exact setc hc4 1 _
  have hs5 : W5.heap.size = w4.heap.size := by rw [hW5]; simp [World.setCell]
  have hvi := HD2.out.lt
  have hvo := hd4.lt
  have hv2 := HV2.out
  have k1 : RDev W5 vi g H.N H.N H.base H.n 0 0 := HD2.out.keep (((hmo5.block vi (by omega) (by omega)).trans (hb4.block vi (by omega))).trans (HMO3.out.block vi (by omega) (by omega)))
  have k2 : RDev W5 vo g H.N H.N (H.base + (8 + 26 * H.n)) H.n 0 0 := hd4.keep (hmo5.block vo (by omega) (by omega))
  have k3 : Mods (fun _ => False) w W5 := (((((Mods.of_below HB1.out).trans (Mods.of_below HB2.out) (fun b hb => .inl hb)).trans HMO3.out (fun b hb => .inr (by omega))).trans (Mods.of_below hb4) (fun b hb => .inl hb)).trans hmo5 (fun b hb => .inr (by omega)))
  have K := hid (And.intro k1 (And.intro k2 (And.intro k3 hc5)))
  have KN := hid (And.intro hv2 (And.intro hvi (And.intro hv4 (And.intro hvo hs5))))
  have KS := hid (And.intro hs1 (And.intro hs2 (And.intro hs3 hs4)))
  clear k1 k2 k3 hc5 hv2 hvi hv4 hvo hs5 hs1 hs2 hs3 hs4 hmo5 hc4 hb4 hd4
  go_wp2
  rw [← hW5]
  go_ret2
  obtain ⟨k1, k2, k3, hc5⟩ := K.out
  obtain ⟨hv2, hvi, hv4, hvo, hs5⟩ := KN.out
  obtain ⟨hs1, hs2, hs3, hs4⟩ := KS.out
  exact ⟨w.heap.size, vi, vo, rfl, ⟨k3.os, k3.tape, k3.output, k3.size, fun b hb => k3.block b hb (fun e => e)⟩, k1, k2, hc5, Nat.le_refl _, by omega, by omega, by omega⟩
end Go.Proofs.YtdjghkngiicncaaGreat

/- The document's card and port, made; and refused. -/
namespace Go.Proofs.YtdjghkngiicncaaGreat
open Go.RowKit

set_option maxRecDepth 100000 in
theorem rNewCard_no (w : World) (a : Option Addr) (len cap : Nat) (base n : Int) (hl : len ≤ 1099511627776) (hb : hasB len base n = false) :
    Calls Tryz.prog 8 #[.slice a len cap, .int .i64 base, .int .i64 n] w fun e w' => e = .returned (.tuple #[.pointer none, .int .i64 1]) ∧ w' = w := by
  have hcon := hid (rfits_any w a len cap base n hl)
  rw [hb] at hcon
  clear hb
  go_enter Tryz.func8, Tryz.ntmps8
  go_wp2_with (go_at_call 26; refine hcon.out.mono ?_; rintro e w1 ⟨rfl, hw1⟩; rw [hw1]; clear hw1)
  go_ret2
  exact ⟨rfl, rfl⟩
set_option maxRecDepth 100000 in
theorem rNewPort_no (w : World) (a : Option Addr) (len cap : Nat) (base n : Int) (hl : len ≤ 1099511627776) (hb : hasB len base n = false) :
    Calls Tryz.prog 10 #[.slice a len cap, .int .i64 base, .int .i64 n] w fun e w' => e = .returned (.tuple #[.pointer none, .int .i64 1]) ∧ w' = w := by
  have hcon := hid (rfits_any w a len cap base n hl)
  rw [hb] at hcon
  clear hb
  go_enter Tryz.func10, Tryz.ntmps10
  go_wp2_with (go_at_call 26; refine hcon.out.mono ?_; rintro e w1 ⟨rfl, hw1⟩; rw [hw1]; clear hw1)
  go_ret2
  exact ⟨rfl, rfl⟩
def labQ5 (lab : Nat → Nat) (vi vo pp : Nat) (b : Nat) : Nat := if b = vi then 3 else if b = vo then 4 else if b = pp then 7 else lab b
/-- A card, and a port made behind it. -/
theorem RCrdAt.join {w w' : World} {lab : Nat → Nat} {B : Rb} {H : Nh} {S : Ns} {v1 v2 : Value} {l1 l2 : List Nat} {pp vi vo : Nat} (h : RCrdAt w lab B H S v1 v2 l1 l2) (hs : S.oi = 0 ∧ S.ui = 0 ∧ S.oo = 0 ∧ S.uo = 0) (hb : Below w.heap.size w w') (k1 : RDev w' vi B.g H.N H.N H.base H.n 0 0) (k2 : RDev w' vo B.g H.N H.N (H.base + (8 + 26 * H.n)) H.n 0 0)
    (hp : w'.heap[pp]? = some (.cells #[.pointer (some ⟨vi, 0, none⟩), .pointer (some ⟨vo, 0, none⟩), .slice (some ⟨B.g, 0, none⟩) H.N H.N] 73 (0, 0))) (o1 : w.heap.size ≤ pp) (o2 : pp < vi) (o3 : vi < vo) (o4 : vo < w'.heap.size) :
    RNetAt w' (labQ5 lab vi vo pp) { B with pp := pp, vi := vi, vo := vo } H S v1 v2 l1 l2 ∧ Keep lab w (labQ5 lab vi vo pp) w' := by
  have h' := h.below hb
  have hlt := h.lt
  have old : ∀ b, b < w.heap.size → labQ5 lab vi vo pp b = lab b := fun b hb => by unfold labQ5; rw [if_neg (by omega), if_neg (by omega), if_neg (by omega)]
  have old' : ∀ {b j}, lab b = j → j ≠ 0 → labQ5 lab vi vo pp b = j := fun {b j} e hj => by rw [old b (hlt b (by omega))]; exact e
  have hl : ∀ b, labQ5 lab vi vo pp b ≠ 0 → b < w'.heap.size := fun b hb2 => by
    by_cases e : b < w.heap.size
    · exact Nat.lt_of_lt_of_le e hb.size
    · unfold labQ5 at hb2
      split at hb2
      · omega
      · split at hb2
        · omega
        · split at hb2
          · omega
          · exact absurd (hlt b hb2) e
  refine ⟨⟨hl, h'.di.up (fun b hb => old' hb (by omega)) (fun b hb => hl b (by rw [hb]; omega)) (by show ¬ _ = 1; rw [old' h.l5 (by omega)]; omega), h'.dq.up (fun b hb => old' hb (by omega)) (fun b hb => hl b (by rw [hb]; omega)) (by show ¬ _ = 2; rw [old' h.l5 (by omega)]; omega), ?_, ?_, h'.mem, h'.card, hp, h'.r1, h'.r2, ?_, ?_, old' h.l5 (by omega), old' h.l6 (by omega), ?_, fun b e => old' (h.l8 b e) (by omega), fun b e => old' (h.l9 b e) (by omega), h.wi, h.wo, h.oi, h.oo⟩, fun b hb => old b hb, Mods.of_below hb⟩
  · rw [hs.1, hs.2.1]; exact k1
  · rw [hs.2.2.1, hs.2.2.2]; exact k2
  · show labQ5 lab vi vo pp vi = 3; unfold labQ5; rw [if_pos rfl]
  · show labQ5 lab vi vo pp vo = 4; unfold labQ5; rw [if_neg (by omega), if_pos rfl]
  · show labQ5 lab vi vo pp pp = 7; unfold labQ5; rw [if_neg (by omega), if_neg (by omega), if_pos rfl]
end Go.Proofs.YtdjghkngiicncaaGreat
