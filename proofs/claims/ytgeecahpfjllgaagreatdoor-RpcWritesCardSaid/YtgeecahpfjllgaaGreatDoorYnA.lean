/- The document's row: numbers as bytes. -/
import Derived.Test.YtgeecahpfjllgaaGreatDoorXbB
import Derived.Test.YtgeecahpfjllgaaGreatDoorYgC
namespace Go.Proofs.YtgeecahpfjllgaaGreatDoor
open Go.RowKit Go.Maps
set_option linter.unusedVariables false

/-- A row of bytes l of one's own, that may be none. -/
def OwnR (w : World) (l : List Int) (k : Nat) (e : Ending) (w' : World) : Prop :=
  ∃ a c, e = .returned (.slice a k c) ∧ RW w' 5 1 (.slice a k c) k (u8s l) ∧ (∀ b, blkV (.slice a k c) = some b → w.heap.size ≤ b) ∧ Below w.heap.size w w'
theorem OwnR.by_ {w w' : World} {l : List Int} {k : Nat} {e : Ending} (h : OwnR w l k e w') (hl : ∀ x ∈ l, IsB x) : ∃ a c, e = .returned (.slice a k c) ∧ By w' (New w) a l ∧ (0 < k → k ≤ c) ∧ Below w.heap.size w w' := by
  obtain ⟨a, c, e1, hr, hb, hB⟩ := h
  obtain ⟨b1, _, b3⟩ := rw_by (S := New w) hr hl (fun b hb2 => hb b hb2)
  exact ⟨a, c, e1, b1, b3, hB⟩
theorem OwnR.since {w W w' : World} {l : List Int} {k : Nat} {e : Ending} (h : OwnR W l k e w') (hb : Below w.heap.size w W) : OwnR w l k e w' := by
  obtain ⟨a, c, e1, hr, hn, hB⟩ := h
  exact ⟨a, c, e1, hr, fun b h2 => Nat.le_trans hb.size (hn b h2), hb.trans (hB.mono hb.size)⟩
set_option maxRecDepth 100000 in
set_option maxHeartbeats 1000000 in
theorem drow_any (w : World) (a : Option Addr) (n c : Nat) (hw : List Int) (hn : hw.length = n) (hmx : n ≤ 100) (hh : U32s w a hw) (k : Nat) (hk : k = 4 * n) :
    Calls Tryz.prog 18 #[.slice a n c] w fun e w' => OwnR w (nuL 4 hw) k e w' := by
  obtain ⟨W1, hW1⟩ : ∃ W, W = w.alloc (.cells #[.slice none 0 0] 57) := ⟨_, rfl⟩
  have b1 : Below w.heap.size w W1 := by rw [hW1]; exact below_alloc (Below.refl _ _) (Nat.le_refl _) _
  have x1 : WX W1 57 w.heap.size (fun b => b = w.heap.size) [] :=
    ⟨by decide, fun x hx => by simp at hx, ⟨.slice none 0 0, by rw [hW1]; exact alloc_new w _, RW.nil _ 5 1, fun b hb => by simp [blkV] at hb⟩, rfl, fun b hb => by rw [hb, hW1]; simp⟩
  have hlt : w.heap.size < W1.heap.size := by rw [hW1]; simp
  have HH := hid x1
  have HW : Hid (∀ W S2, Kp (fun b => b = w.heap.size) W1 S2 W → U32s W a hw) := hid (fun W S2 hk2 i hi => by
    obtain ⟨b, off, e, hc, hu⟩ := hh i hi
    have hlt0 : b < w.heap.size := World.block_lt_of_cell? w _ hc
    have hk3 := (hk2.block (Nat.lt_trans hlt0 hlt) (by omega)).trans (b1.block b hlt0)
    exact ⟨b, off, e, by simpa [World.cell?, hk3] using hc, hu⟩)
  have HM := hid hn
  have HB1 := hid b1
  have HLT := hid hlt
  have hW1' := hW1.symm
  clear x1 hh hn b1 hlt hW1
  go_enter Tryz.func18, Tryz.ntmps18
  go_wp2
  go_loopw [4] (fun i wr => ∃ k : Nat, k ≤ n ∧ i = .int .i64 k ∧ ∃ S', WX wr 57 w.heap.size S' (nuL 4 (hw.take k)) ∧ Kp (fun b => b = w.heap.size) W1 S' wr) (fun i _ => n - (intOf i).toNat)
  case atStart => exact ⟨0, Nat.zero_le _, rfl, _, by simpa using HH.out, Kp.refl _ _⟩
  case round =>
    obtain ⟨k1, hk1, rfl, S1, hx, hkp⟩ := hrel
    obtain ⟨vv, h1, h2, h3⟩ := hx.box
    have c0 := cell_of h1 (i := 0) (v := vv) rfl
    by_cases hlt : k1 < n
    · have hkl : k1 < hw.length := by rw [HM.out]; exact hlt
      obtain ⟨b2, off2, rfl, hc, hu⟩ := HW.out wr S1 hkp k1 hkl
      have HO := hid (nuL_snoc 4 hw k1 hkl)
      have hlen : (nuL 4 (hw.take k1)).length ≤ 4 * k1 := by rw [nuL_len, List.length_take]; have := Nat.min_le_left k1 hw.length; omega
      generalize hw.getD k1 0 = x at *
      have HC := hid (rWU32_any hx x hu (by omega))
      have HKP := hid hkp
      clear hx hkp hlen h1 h2 h3
      go_wp2_with (go_at_call 20; refine HC.out.mono ?_; rintro e w2 ⟨rfl, S2, hx2, hk2⟩; have HX := hid hx2; have HK2 := hid (HKP.out.trans hk2); clear hx2 hk2)
      go_roundw
      case rel => exact ⟨k1 + 1, by omega, by go_num, S2, by rw [HO.out]; exact HX.out, HK2.out⟩
      case measure => simp [intOf]; omega
    · have e : hw.take k1 = hw := List.take_of_length_le (by rw [HM.out]; omega)
      rw [e] at hx h2
      obtain ⟨a0, c1, rfl⟩ := h2.shape
      have hl2 : (nuL 4 hw).length = k := by rw [nuL_len, HM.out]; omega
      rw [hl2] at h2 h1 c0
      have H2 := hid h2
      have HK2 := hid hkp
      have H3 : Hid (∀ b, blkV (.slice a0 k c1) = some b → S1 b) := hid (fun b hb => h3 b (by rw [hl2]; exact hb))
      clear hx hkp h1 h2 h3
      clear hk
      go_wp2
      go_ret
      refine ⟨a0, c1, rfl, H2.out, fun b hb => ?_, HK2.out.2.to_below HB1.out HB1.out.size (fun b hb => by rw [hb]; exact Nat.le_refl _)⟩
      rcases HK2.out.1 b (H3.out b hb) with h | h
      · rw [h]; exact Nat.le_refl _
      · exact Nat.le_of_lt (Nat.lt_of_lt_of_le HLT.out h)
end Go.Proofs.YtgeecahpfjllgaaGreatDoor
