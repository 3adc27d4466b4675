/- The document's be and High. -/
import Derived.Test.YtgdajplloamjcaaPbJ
namespace Go.Proofs.Ytgdajplloamjcaa
open Go.RowKit Go.Maps
set_option linter.unusedVariables false
set_option maxRecDepth 100000 in
set_option maxHeartbeats 1000000 in
theorem High_any (w : World) (B : Nat) (v : Value) (l : List Int) (h : Gr w B v l) (hB : B ≤ w.heap.size) (n : Nat) (N x : Int) (hN : N = n) (hn : 0 < n ∧ n ≤ 8) (h0 : 0 ≤ x) (h1 : x < 18446744073709551616) (hl : l.length ≤ 800000) :
    Calls Try.prog 30 #[v, .int .i64 N, .int .u64 x] w fun e w' => ∃ a c, e = .returned (.slice a (l.length + n) c) ∧ GO w' B (.slice a (l.length + n) c) (l ++ bytesBe n x) ∧ Below B w w' ∧ Mods (fun b => v.ownBlock = some b) w w' := by
  obtain ⟨a0, c0, rfl⟩ := h.slice
  have HG := hid h
  have hn8 : n ≤ 8 := by omega
  subst hN
  clear h
  have hw0 : IntKind.i64.wrap ((n : Int) - 1) = (n : Int) - 1 := IntWalk.i64_in _ (by omega)
  go_enter Try.func30, Try.ntmps30
  go_wp2
  go_loopw [0, 7] (fun u z wr => ∃ (j : Nat) (kz : Int), j ≤ n ∧ kz = (n : Int) - 1 - j ∧ z = .int .i64 kz ∧ Gr wr B u (l ++ (bytesBe n x).take j) ∧ (0 < j → wr.ownsRow B 5 1 u (l.length + j) (u8s (l ++ (bytesBe n x).take j))) ∧ (Mods (fun b => (Value.slice a0 l.length c0).ownBlock = some b) w wr ∧ (u.ownBlock = (Value.slice a0 l.length c0).ownBlock ∨ ∃ g, w.heap.size ≤ g ∧ u.ownBlock = some g)) ∧ Below B w wr ∧ B ≤ wr.heap.size) (fun _ z _ => (RowKit.intOf z + 1).toNat)
  case atStart => exact ⟨0, (n : Int) - 1, Nat.zero_le _, by omega, rfl, by simpa using HG.out, fun h => by omega, ⟨Mods.refl _ _, .inl rfl⟩, Below.refl _ _, hB⟩
  case round =>
    obtain ⟨j, kz, hj, hkz, rfl, hg, how, hmd, hb, hBr⟩ := hrel
    have HMD := hid hmd
    clear hmd
    have hlk : (l ++ (bytesBe n x).take j).length = l.length + j := by rw [List.length_append, List.length_take, len_be, Nat.min_eq_left hj]
    obtain ⟨a1, c1, e1⟩ := hg.slice
    rw [hlk] at e1
    subst e1
    have HG1 := hid hg
    have HOW := hid how
    have HB := hid hb
    have HLK := hid hlk
    clear hg how hb hlk
    by_cases hlt : j < n
    · obtain ⟨k, rfl⟩ : ∃ k : Nat, kz = k := ⟨n - 1 - j, by omega⟩
      have HKJ : Hid (k = n - 1 - j) := hid (by omega)
      have hk8 : k < 8 := by omega
      have hk0 : (0 : Int) ≤ k := by omega
      have HBT := hid (take_be n x j hlt)
      obtain ⟨y, hy⟩ : ∃ y, y = x / 2 ^ (8 * k) % 256 := ⟨_, rfl⟩
      rw [← HKJ.out, ← pow256, ← hy] at HBT
      have hyB : IsB y := by unfold IsB; omega
      obtain ⟨W1, hW1⟩ : ∃ W1, W1 = wr.alloc (.cells #[.int .u8 y] 5) := ⟨_, rfl⟩
      have hb1 : Below wr.heap.size wr W1 := by rw [hW1]; exact (Below.refl _ _).alloc (Nat.le_refl _) _
      have hc1 : W1.cell? ⟨wr.heap.size, 0, none⟩ = some (.int .u8 y) := by rw [hW1, new_cell _ _ _ _ 0 (by simp)]; rfl
      obtain ⟨a2, c2, w2, hap, hg2, ho2, hb2, hm2, hob2⟩ := (HG1.out.later hb1).push (Nat.le_trans hBr hb1.size) [y] (by simpa using hyB) (by simp) ⟨wr.heap.size, 0, none⟩ 1 1 rfl (fun i u hi => by
        have hi2 : i < 1 := (List.getElem?_eq_some_iff.1 hi).1
        obtain rfl : i = 0 := by omega
        rw [add_addr, hc1]; simpa using hi) (by rw [HLK.out]; omega) 22
      rw [HLK.out] at hap hg2 ho2
      rw [List.append_assoc, ← HBT.out] at hg2 ho2
      have HG2 := hid hg2
      have HO2 := hid ho2
      have HB2 : Hid (Below B w w2) := hid ((HB.out.trans (hb1.mono hBr)).trans hb2)
      have HS2 : Hid (B ≤ w2.heap.size) := hid (Nat.le_trans (Nat.le_trans hBr hb1.size) hb2.size)
      have HM2 := hid (show Mods (fun b => (Value.slice a0 l.length c0).ownBlock = some b) w w2 ∧ ((Value.slice a2 (l.length + j + 1) c2).ownBlock = (Value.slice a0 l.length c0).ownBlock ∨ ∃ g, w.heap.size ≤ g ∧ (Value.slice a2 (l.length + j + 1) c2).ownBlock = some g) from by
        rw [HLK.out] at hob2
        refine ⟨(HMD.out.1.below hb1).trans hm2 (fun b hb => ?_), ?_⟩
        · rcases HMD.out.2 with e | ⟨gg, h1, e⟩
          · exact .inl (by rw [← e]; exact hb)
          · exact .inr (by rw [e] at hb; simp at hb; omega)
        · rcases hob2 with e | ⟨gg, h1, e⟩
          · rcases HMD.out.2 with e' | ⟨gg, h1, e'⟩
            · exact .inl (e.trans e')
            · exact .inr ⟨gg, h1, e.trans e'⟩
          · exact .inr ⟨gg, Nat.le_trans (Nat.le_trans HMD.out.1.size hb1.size) h1, e⟩)
      have HKZ := hid hkz
      clear hb1 hc1 hg2 ho2 hb2 hkz hm2 hob2
      have hWW : W1 = wr.alloc (.cells #[.int .u8 (x / 2 ^ (8 * k) % 256)] 5) := by rw [hW1, hy]
      clear hW1 hy
      go_wp2_with (at_builtin; rw [← hWW]; refine wpList_append_run rfl _ _ 22 rfl rfl rfl hap ?_)
      go_roundw
      case rel => exact ⟨j + 1, (k : Int) - 1, by omega, by have := HKZ.out; omega, by go_num, HG2.out, fun _ => HO2.out, HM2.out, HB2.out, HS2.out⟩
      case measure => first | (simp [RowKit.intOf]; done) | (simp [RowKit.intOf]; omega)
    · have hki : ¬ ((0 : Int) ≤ kz) := by omega
      obtain rfl : j = n := by omega
      clear hkz
      go_wp2
      go_ret
      have e : (bytesBe j x).take j = bytesBe j x := List.take_of_length_le (by rw [len_be]; exact Nat.le_refl _)
      have g1 := HG1.out
      have g2 := HOW.out (by omega)
      rw [e] at g1 g2
      exact ⟨a1, c1, rfl, ⟨g1.1, by rw [List.length_append, len_be]; exact g2⟩, HB.out, HMD.out.1⟩
set_option maxRecDepth 100000 in
theorem rbe_in (w : World) (a : Option Addr) (n c : Nat) (l : List Int) (k m : Nat) (hn : l.length = n) (hl : n ≤ 900000) (hm : m = 1 ∨ m = 2 ∨ m = 4) (hk : k + m ≤ n) (hb : Bytes w a l) (K M : Int) (hK : (k : Int) = K) (hM : (m : Int) = M) :
    Calls Try.prog 25 #[.slice a n c, .int .i64 K, .int .i64 M] w fun e w' => e = .returned (.int .i64 (beOf ((l.drop k).take m))) ∧ w' = w := by
  subst hK hM hn
  have HBE : Calls Try.prog 37 #[.slice a l.length c, .int .i64 k, .int .i64 m] w fun e w' => e = .returned (.tuple #[.int .u64 (beOf ((l.drop k).take m)), .int .i64 0]) ∧ w' = w := by
    refine (refBe_any a c l k m w (by unfold maxLen; omega) hb).mono ?_
    rintro e w' ⟨rfl, rfl⟩
    have hw : widB m = true := by rcases hm with rfl | rfl | rfl <;> rfl
    have hi : insB l.length k m = true := by simp [insB]; omega
    obtain ⟨e1, _, e2⟩ := rd_yes l k m hw hi
    rw [e1, e2]
    exact ⟨rfl, rfl⟩
  have hbd := be_cut_bd l k m hb.isB (by omega)
  generalize beOf ((l.drop k).take m) = x at *
  have hx : 0 ≤ x ∧ x < 4294967296 := by rcases hm with rfl | rfl | rfl <;> omega
  have hwk : IntKind.i64.wrap x = x := IntWalk.i64_in _ (by omega)
  have HBE := hid HBE
  clear hb hbd hm
  go_enter Try.func25, Try.ntmps25
  go_wp2_with (go_at_call 37; refine HBE.out.mono ?_; rintro e w2 ⟨rfl, hw2⟩; obtain rfl : w = w2 := hw2.symm)
  go_ret
  exact ⟨rfl, rfl⟩
theorem one_at (l : List Int) (k : Nat) (hk : k < l.length) : beOf ((l.drop k).take 1) = l.getD k 0 := by
  have e : (l.drop k).take 1 = [l[k]] := by rw [List.drop_eq_getElem_cons hk]; rfl
  rw [e]
  simp [beOf, beOn, List.getD, hk]
theorem GO.none (w : World) (B : Nat) : GO w B (.slice none 0 0) [] := ⟨fun x hx => by simp at hx, rfl, .inl ⟨rfl, rfl⟩⟩
end Go.Proofs.Ytgdajplloamjcaa
