/- IeA, IeB in one text. -/
import Derived.Test.YtaplmlldmhdhoaaGreatDoorIcG
/- Numbers put one behind the other, read one behind the other. -/
namespace Go.Proofs.YtaplmlldmhdhoaaGreatDoor
open Go.RowKit Go.Maps
set_option linter.unusedVariables false

theorem writeLow_at1 (g N cap p : Nat) (L : List Int) (v : Int) (hv : IsW v) (w : World) (hr : w.rowIs g 5 N (fun i => .int .u8 (L.getD i 0))) (hp : L.length = p) (hN : p + 1 ≤ N) :
    Calls Tryz.prog 89 #[.slice (some ⟨g, p, none⟩) 1 cap, .int .u64 v] w fun e w' => e = .returned (.tuple #[]) ∧ Below g w w' ∧ w'.heap.size = w.heap.size ∧
      w'.rowIs g 5 N (fun i => .int .u8 ((L ++ bytesLe 1 v).getD i 0)) := by
  subst hp; exact writeLow_1 g N cap L v hv w hr hN
set_option maxHeartbeats 400000 in
theorem putLe_1 (a a2 : Option Addr) (cap cap2 : Nat) (b l : List Int) (w : World) (hb : b.length ≤ 140737488351232) (hl : l.length ≤ 1099511627776) (h : Bytes w a b) (h2 : Words w a2 l) (hf : fitsB 1 l = true) :
    Calls Tryz.prog 70 #[.slice a b.length cap, .int .i64 1, .slice a2 l.length cap2] w fun e w' => e = .returned (.tuple #[.slice (some ⟨w.heap.size, 0, none⟩) (b.length + l.length) (b.length + l.length), .int .i64 0]) ∧
      Below w.heap.size w w' ∧ w'.heap.size = w.heap.size + 1 ∧ w'.rowIs w.heap.size 5 (b.length + l.length) (fun i => .int .u8 ((outLe b 1 l).getD i 0)) := by
  have HF := hid hf
  have HB := hid h
  have HW := hid h2
  clear hf h h2
  obtain ⟨ll, hll⟩ : ∃ ll, l.length = ll := ⟨_, rfl⟩
  have HL := hid hll
  go_enter Tryz.func70, Tryz.ntmps70
  go_wp2_with fail
  refine (isWidth_any _ _).mono ?_
  rintro e w' ⟨rfl, rfl⟩
  rw [show widB 1 = true from rfl]
  go_wp2_with fail
  rw [← hll]
  clear hll
  refine (allFit_1 _ _ _ _ (by omega) HW.out).mono ?_
  rintro e w' ⟨rfl, rfl⟩
  rw [HF.out, HL.out]
  rw [HL.out] at hl
  go_wp2_with fail
  refine (grown_int _ _ _ _ ll _ (by omega) (by omega) (by omega) HB.out).mono ?_
  rintro e w1 ⟨rfl, hb1, hs1, hr1⟩
  have HB1 := hid hb1
  have HS1 := hid hs1
  have HR1 := hid hr1
  clear hb1 hs1 hr1
  go_wp2
  go_loopw [29] (fun i wr => ∃ k : Nat, k ≤ ll ∧ i = .int .i64 k ∧ Below w'.heap.size w' wr ∧ wr.heap.size = w'.heap.size + 1 ∧ wr.rowIs w'.heap.size 5 (b.length + ll) (fun i => .int .u8 ((outLe b 1 (l.take k)).getD i 0))) (fun i _ => ll - (intOf i).toNat)
  case atStart => exact ⟨0, Nat.zero_le _, rfl, HB1.out, HS1.out, HR1.out.congr fun i _ => by simp [outLe]⟩
  case round =>
    obtain ⟨k, hk, rfl, hb2, hs2, hr2⟩ := hrel
    have HB2 := hid hb2
    have HZ := hid hs2
    have HR2 := hid hr2
    clear HB1 HS1 HR1 hs2 hr2
    by_cases hlt : k < ll
    · have hkl : k < l.length := by rw [HL.out]; exact hlt
      obtain ⟨b2, off2, rfl, hcs⟩ := (HW.out.later hb2).open_ (by omega)
      have hc := hcs k hkl
      have hx := mem_getD l IsW HW.out.isW k hkl
      have HO := hid (outLe_snoc b 1 l k hkl)
      have HLL := hid (show (outLe b 1 (l.take k)).length = b.length + k by rw [outLe_len, List.length_take, Nat.min_eq_left (by omega), Nat.one_mul])
      generalize l.getD k 0 = x at *
      clear hcs hb2
      go_wp2_with fail
      refine (writeLow_at1 _ _ _ _ _ _ hx _ HR2.out (by rw [HLL.out]) (by omega)).mono ?_
      rintro e w2 ⟨rfl, hb3, hs3, hr3⟩
      have HB3 := hid hb3
      have HS3 := hid hs3
      have HR3 := hid hr3
      clear hb3 hs3 hr3
      go_wp2
      go_roundw
      case rel => exact ⟨k + 1, by omega, by go_num, HB2.out.trans HB3.out, HS3.out.trans HZ.out, by rw [HO.out]; exact HR3.out⟩
      case measure => simp [intOf]; omega
    · go_wp2
      go_ret2
      have e : l.take k = l := List.take_of_length_le (by rw [HL.out]; omega)
      rw [e] at HR2
      rw [HL.out]
      exact ⟨rfl, HB2.out, HZ.out, HR2.out⟩
end Go.Proofs.YtaplmlldmhdhoaaGreatDoor

/- The reader: numbers from the front of bytes. -/
namespace Go.Proofs.YtaplmlldmhdhoaaGreatDoor
open Go.RowKit Go.Maps
set_option linter.unusedVariables false

theorem le_atw (w : World) (a : Option Addr) (n cap p k : Nat) (x y : Int) (l : List Int) (hx : x = p) (hy : y = k) (hl : l.length = n) (hc : n ≤ cap) (hn : n ≤ 1000000) (hk : k = 1 ∨ k = 2 ∨ k = 4 ∨ k = 8) (hp : p + k ≤ n) (h : Bytes w a l) :
    Calls Tryz.prog 62 #[.slice a n cap, .int .i64 x, .int .i64 y] w fun e w' => e = .returned (.tuple #[.int .u64 (rdN l p k), .int .i64 0]) ∧ ∃ q, w' = w.drewN q := by
  subst hx hy hl
  have hw : widB ((k : Nat) : Int) = true := by rcases hk with rfl | rfl | rfl | rfl <;> rfl
  have := numLe_any a cap l p k w (by unfold maxLen; omega) hc h
  obtain ⟨e1, e2, _⟩ := rd_yes l p k hw (by simp [insB]; omega)
  rw [e1, e2] at this
  simp only [cutOf, Int.toNat_natCast] at this
  exact this
/-- A reader with the bytes l ahead of it. -/
def RdS (w : World) (pr : Nat) (Y : Nat → Prop) (l : List Int) : Prop :=
  ∃ a cap, w.heap[pr]? = some (.cells #[.slice a l.length cap] 132 (0, 0)) ∧ l.length ≤ cap ∧ By w Y a l ∧ ¬ Y pr ∧ ∀ g, Y g → g < w.heap.size
variable {w w' : World} {pr : Nat} {Y : Nat → Prop} {l : List Int}
theorem RdS.keep (h : RdS w pr Y l) (hs : w.heap.size ≤ w'.heap.size) (hk : ∀ g, Y g ∨ g = pr → g < w.heap.size → w'.heap[g]? = w.heap[g]?) : RdS w' pr Y l := by
  obtain ⟨a, cap, h1, h2, h3, h4, h5⟩ := h
  exact ⟨a, cap, (hk pr (.inr rfl) (Array.getElem?_eq_some_iff.1 h1).1).trans h1, h2, h3.keep (fun g hg hl => hk g (.inl hg) hl), h4, fun g hg => Nat.lt_of_lt_of_le (h5 g hg) hs⟩
theorem RdS.mods {M : Nat → Prop} (h : RdS w pr Y l) (hm : Mods M w w') (hd : ∀ g, M g → ¬ Y g ∧ g ≠ pr)  : RdS w' pr Y l := h.keep hm.size fun g hg hl => hm.block g hl (fun e => by
  rcases hg with h1 | h1
  · exact (hd g e).1 h1
  · exact (hd g e).2 h1)
theorem RdS.ylt (h : RdS w pr Y l) {g : Nat} (hg : Y g) : g < w.heap.size := let ⟨_, _, _, _, _, _, h5⟩ := h; h5 g hg
theorem RdS.lt (h : RdS w pr Y l) : pr < w.heap.size := let ⟨_, _, h1, _⟩ := h; (Array.getElem?_eq_some_iff.1 h1).1
set_option maxRecDepth 100000 in
set_option maxHeartbeats 2000000 in
theorem next_any (h : RdS w pr Y l) (m : Nat) (hm : m = 1 ∨ m = 2 ∨ m = 4 ∨ m = 8) (hl : m < l.length) (hl2 : l.length ≤ 512) :
    Calls Tryz.prog 59 #[ptrV pr, n64 m] w fun e w' => e = .returned (.int .u64 (rdN l 0 m)) ∧ RdS w' pr Y (l.drop m) ∧ Mods (fun g => g = pr) w w' := by
  obtain ⟨a, cap, h1, h2, h3, h4, h5⟩ := h
  obtain ⟨gb, go, rfl, hgY, _⟩ := h3.addr (by omega)
  have c0 : w.cell? ⟨pr, 0, none⟩ = some (.slice (some ⟨gb, go, none⟩) l.length cap) := cell_of h1 rfl
  have z0 := froz_of h1 0
  obtain ⟨n, hn⟩ : ∃ n, l.length = n := ⟨_, rfl⟩
  have HLE := le_atw w (some ⟨gb, go, none⟩) n cap 0 m 0 m l rfl rfl hn (by omega) (by omega) hm (by omega) h3.bytes
  rw [hn] at c0 h1
  replace HLE := hid HLE
  obtain ⟨R, hR⟩ : ∃ R, rdN l 0 m = R := ⟨_, rfl⟩
  rw [hR] at HLE ⊢
  have hcm : ¬ cap = m := by omega
  have hcm2 : ¬ m = cap := by omega
  have hmn : m ≤ n := by omega
  have hmn' : (m : Int) ≤ n := by omega
  have H1 := hid h1
  have H3 := hid h3
  have HN := hid hn
  have HY5 := hid h5
  have HC : Hid (n ≤ cap ∧ ¬ Y pr ∧ gb ≠ pr) := hid ⟨by omega, h4, fun e => h4 (by rw [← e]; exact hgY)⟩
  clear h1 h2 h3 h4 h5 hR hn hm hl hl2 hgY
  go_enter Tryz.func59, Tryz.ntmps59
  go_wp2_with fail
  refine HLE.out.mono ?_
  rintro e w1 ⟨rfl, q1, hw1⟩
  subst hw1
  clear HLE
  go_wp2
  go_ret
  have hh := setc (w := w.drewN q1) H1.out 0 (.slice (some ⟨gb, go + m, none⟩) (n - m) (cap - m))
  have hm : Mods (fun g => g = pr) w ((w.drewN q1).setCell ⟨pr, 0, none⟩ (.slice (some ⟨gb, go + m, none⟩) (n - m) (cap - m))) := (Mods.of_below (below_drewN (Below.refl w.heap.size w) q1)).setCell pr 0 _ rfl
  have hd : (l.drop m).length = n - m := by rw [List.length_drop, HN.out]
  refine ⟨rfl, ⟨some ⟨gb, go + m, none⟩, cap - m, ?_, by have := HC.out.1; omega, ?_, HC.out.2.1, fun g hg => Nat.lt_of_lt_of_le (HY5.out g hg) hm.size⟩, hm⟩
  · rw [hd]; exact hh
  · have h5 := H3.out.keep (w' := (w.drewN q1).setCell ⟨pr, 0, none⟩ (.slice (some ⟨gb, go + m, none⟩) (n - m) (cap - m))) (fun g hg hl => hm.block g hl (fun e => HC.out.2.1 (by rw [← e]; exact hg)))
    have := h5.cut m (l.length - m)
    rwa [List.take_of_length_le (by simp)] at this
end Go.Proofs.YtaplmlldmhdhoaaGreatDoor
