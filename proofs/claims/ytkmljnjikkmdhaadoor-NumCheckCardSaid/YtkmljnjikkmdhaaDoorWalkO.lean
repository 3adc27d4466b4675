import Derived.Test.YtkmljnjikkmdhaaDoorRows
import Derived.Test.YtkmljnjikkmdhaaDoorWalkN
import Derived.WalkKit
import Derived.OpenShut
import Derived.WalkSpells
import Derived.WalkLawsBesides
import Derived.Deep.QuietTactic
import Derived.BigQuiet
/-
  The walk of NumCheck: it returns true, and nothing old is changed. Conditions: the table is as the program lays it; at most 2^47 - 4096 bytes.
-/
namespace Go.Proofs.YtkmljnjikkmdhaaDoor
open Go.RowKit
set_option linter.unusedVariables false

set_option maxHeartbeats 1000000 in
theorem numCheck_t (a : Option Addr) (cap : Nat) (l : List Int) (at_ bit : Int) (w : World) (hl : l.length ≤ 16384) (hl2 : 2 ≤ l.length) (hc : l.length ≤ cap) (h : Bytes w a l) (hT : Tab w)
   (ha1 : -9223372036854775808 ≤ at_) (ha2 : at_ ≤ 9223372036854775807) (hb1 : -9223372036854775808 ≤ bit) (hb2 : bit ≤ 9223372036854775807) :
    Calls Tryd.prog 8 #[.slice a l.length cap, .int .i64 at_, .int .i64 bit] w fun e w' => e = .returned (.bool true) ∧ Below w.heap.size w w' := by
  have HT := hid hT
  have HB := hid h
  obtain ⟨b, off, rfl, _⟩ := h.open_ (by omega)
  clear h hT
  go_enter Tryd.func8, Tryd.ntmps8
  go_wp2_with fail
  refine (known_any _ HT.out).mono ?_
  rintro e w1 ⟨rfl, hb3⟩
  have HB1 := hid hb3
  have HBy := hid (HB.out.later hb3)
  clear hb3
  go_wp2_with fail
  obtain ⟨m, hm⟩ : ∃ m, l.length / 2 * 2 = m := ⟨_, rfl⟩
  rw [hm]
  have hm0 : 2 ≤ m := by omega
  have hm1 : m ≤ 16384 := by omega
  have hrl : (l.take m).length = m := by rw [List.length_take]; omega
  have HRB := hid (HBy.out.take m)
  have HRI := hid (show ∀ x ∈ l.take m, IsB x from fun x hx => HB.out.isB x (List.mem_of_mem_take hx))
  have hev : (l.take m).length % 2 = 0 := by omega
  have HEv := hid hev
  clear hm hev
  generalize l.take m = r at *
  have HRL := hid hrl
  clear hrl HBy HB
  refine (inet_one _ _ r _ (by rw [HRL.out]; omega) (rows_new _ r _ _ m HRL.out.symm HRB.out)).mono ?_
  rintro e w2 ⟨rfl, rfl⟩
  have hIb := inetFold_bd (wsum 0 r) (wsum_bd 0 r HRI.out).1
  obtain ⟨I, hI⟩ : ∃ I, I = 65535 - inetFold (wsum 0 r) := ⟨_, rfl⟩
  rw [← hI]
  have hI0 : 0 ≤ I := by omega
  have hI1 : I ≤ 65535 := by omega
  have HIe := hid hI
  clear hI hIb
  go_wp2_with fail
  refine (putBe_at2 (some ⟨b, off, none⟩) (some ⟨w1.heap.size + 1, 0, none⟩) cap 1 m 2 r [I] _ HRL.out ?_ ?_ ?_ ?_ ?_ ?_).mono ?_
  · rw [HRL.out]; omega
  · simp
  · exact HRB.out.later (((Below.refl _ _).alloc (Nat.le_refl _) _).alloc (by simp) _)
  · have hw := words_new (w1.alloc (Obj.cells #[Value.slice (some ⟨b, off, none⟩) m cap] 22)) [I] (by simp [IsW]; omega)
    simpa using hw
  · decide
  · simp [fitsB, fitB]; omega
  rintro e w3 ⟨rfl, hb3, hs3, hr3⟩
  have hgz : ((w1.alloc (Obj.cells #[Value.slice (some ⟨b, off, none⟩) m cap] 22)).alloc (Obj.cells #[Value.int IntKind.u64 I] 24)).heap.size = w1.heap.size + 1 + 1 := by simp
  rw [hgz] at hb3 hs3 hr3
  have HB13 := hid ((((Below.refl w1.heap.size w1).alloc (Nat.le_refl _) (Obj.cells #[Value.slice (some ⟨b, off, none⟩) m cap] 22)).alloc (by simp) (Obj.cells #[Value.int IntKind.u64 I] 24)).trans (hb3.mono (by omega)))
  have hz3 : w1.heap.size ≤ w3.heap.size := HB13.out.size
  clear hgz
  rw [outBe_one] at hr3
  have HR3 := hid hr3
  have HN0 := hid (inet_nought r HRI.out HEv.out I HIe.out)
  have HCB := hid (show ∀ x ∈ r ++ [I / 256 % 256, I % 256], IsB x by
    intro x hx
    rcases List.mem_append.1 hx with h | h
    · exact HRI.out x h
    · simp at h
      unfold IsB
      rcases h with rfl | rfl <;> omega)
  have HCL := hid (show (r ++ [I / 256 % 256, I % 256]).length = m + 2 by rw [List.length_append, HRL.out]; rfl)
  have HCr := hid (row_bytes hr3 (by rw [HCL.out]; simp) HCB.out)
  clear hb3 hs3 hr3 HR3
  obtain ⟨C, hC⟩ : ∃ C, r ++ [I / 256 % 256, I % 256] = C := ⟨_, rfl⟩
  rw [hC] at HN0 HCB HCL HCr
  have HC := hid hC
  clear hC
  go_wp2_with fail
  refine (inet_one (some ⟨w3.heap.size, 0, none⟩) 1 C _ (by rw [HCL.out]; omega) (rows_new w3 C (some ⟨w1.heap.size + 1 + 1, 0, none⟩) (m + 2) (m + 2) HCL.out.symm HCr.out)).mono ?_
  rintro e w4 ⟨rfl, rfl⟩
  rw [HN0.out]
  by_cases hneg : 0 ≤ at_
  · obtain ⟨k, hk⟩ : ∃ k : Nat, at_ % ↑m = (k : Int) := Int.eq_ofNat_of_zero_le (Int.emod_nonneg _ (by omega))
    have hkm : (k : Int) < m := by rw [← hk]; exact Int.emod_lt_of_pos _ (by omega)
    have hkC : k < C.length := by rw [HCL.out]; omega
    obtain ⟨t, ht8, hshl⟩ := shl_fact bit
    obtain ⟨y, hxy, hyB, hyx⟩ := xor_bit (C.getD k 0) t (mem_getD C IsB HCB.out k hkC) ht8
    have HTu := hid (turned C k t y hkC HCB.out ht8 hyB hyx HN0.out)
    clear hyx
    obtain ⟨x, hx⟩ : ∃ x, C.getD k 0 = x := ⟨_, rfl⟩
    obtain ⟨p, hp⟩ : ∃ p : Int, 2 ^ t = p := ⟨_, rfl⟩
    rw [hx, hp] at hxy
    rw [hp] at hshl
    have HX := hid hx
    clear hx hp hyB
    go_wp2_with (at_builtin; refine wpList_append_len rfl (.tmp 53) (.tmp 54) rfl (w3.heap.size + 1) (.slice (some ⟨w3.heap.size + 1, 0, none⟩) 0 0) [] C rfl ?o1 (m + 2) HCL.out (some ⟨w1.heap.size + 1 + 1, 0, none⟩) (m + 2) rfl ?o2 (fun e => by cases e) ?o3 ?o4 w3.heap.size w3 ?o5 ?o6 ?_; rotate_left 6; intro v5 w5 hv5 hb5; obtain ⟨g5, cap5, rfl, hown5, hg5, hcap5, hall5⟩ := own_open hv5.out HCL.out (by omega); obtain ⟨hce, hfr⟩ := hall5 k (by omega); rw [HX.out] at hce; have HO5 := hid hown5; have HB5 := hid hb5; clear hv5 hown5 hall5 hb5)
    case o1 =>
      have ho := own_empty (w3.alloc (Obj.cells #[Value.slice (some ⟨w1.heap.size + 1 + 1, 0, none⟩) (m + 2) (m + 2)] 22))
      simpa using ho
    case o2 => exact HCr.out.later (((Below.refl _ _).alloc (Nat.le_refl _) _).alloc (by simp) _)
    case o3 => rw [HCL.out]; simp; omega
    case o4 => simp
    case o5 => omega
    case o6 => exact ((Below.refl _ _).alloc (Nat.le_refl _) _).alloc (by simp) _
    have HOw := hid (own_set (y := y) HO5.out hkC)
    have HB6 := hid (HB5.out.setCell (p := ⟨g5, k, none⟩) (by show w3.heap.size ≤ g5; omega) (.int .u8 y))
    have hsz6 : w5.heap.size = (w5.setCell ⟨g5, k, none⟩ (.int .u8 y)).heap.size := by simp [World.setCell]
    rw [hsz6]
    generalize w5.setCell ⟨g5, k, none⟩ (.int .u8 y) = w6 at *
    have hDl : (C.set k y).length = m + 2 := by rw [List.length_set, HCL.out]
    have HD := hid (show Bytes w6 (some ⟨g5, 0, none⟩) (C.set k y) from Bytes.mk_ HTu.out.2.2 fun i hi => by rw [Nat.zero_add]; exact (own_cell HOw.out hi).1)
    have HCr6 := hid (HCr.out.later HB6.out)
    have HT6 := hid (HT.out.later ((HB1.out.trans ((HB13.out.trans (HB6.out.mono hz3)).mono HB1.out.size))))
    have HB16 := hid (HB13.out.trans (HB6.out.mono hz3))
    have HTu1 := HTu.out.1
    have HTu2 := HTu.out.2.1
    have HDl := hid hDl
    clear HOw HO5 HB5 hce hfr hsz6 hDl HTu HX hxy hshl
    obtain ⟨D, hD⟩ : ∃ D, C.set k y = D := ⟨_, rfl⟩
    rw [hD] at HDl HD HTu1 HTu2
    clear hD
    refine (inet_one (some ⟨w6.heap.size, 0, none⟩) 1 D _ (by rw [HDl.out]; omega) (rows_new w6 D (some ⟨g5, 0, none⟩) cap5 (m + 2) HDl.out.symm HD.out)).mono ?_
    rintro e w7 ⟨rfl, rfl⟩
    generalize 65535 - inetFold (wsum 0 D) = J at *
    go_wp2_with fail
    refine (crc_one (some ⟨w6.heap.size + 1, 0, none⟩) 1 D _ (by rw [HDl.out]; omega) ?_ ?_).mono ?_
    · have hr := rows_new (w6.alloc (Obj.cells #[Value.slice (some ⟨g5, 0, none⟩) (m + 2) cap5] 22)) D (some ⟨g5, 0, none⟩) cap5 (m + 2) HDl.out.symm (HD.out.later ((Below.refl _ _).alloc (Nat.le_refl _) _))
      simpa using hr
    · exact HT6.out.later (((Below.refl _ _).alloc (Nat.le_refl _) _).alloc (by simp) _)
    rintro e w7 ⟨rfl, rfl⟩
    go_wp2_with fail
    refine (crc_one (some ⟨w6.heap.size + 1 + 1, 0, none⟩) 1 C _ (by rw [HCL.out]; omega) ?_ ?_).mono ?_
    · have hr := rows_new ((w6.alloc (Obj.cells #[Value.slice (some ⟨g5, 0, none⟩) (m + 2) cap5] 22)).alloc (Obj.cells #[Value.slice (some ⟨g5, 0, none⟩) (m + 2) cap5] 22)) C (some ⟨w1.heap.size + 1 + 1, 0, none⟩) (m + 2) (m + 2) HCL.out.symm (HCr6.out.later (((Below.refl _ _).alloc (Nat.le_refl _) _).alloc (by simp) _))
      simpa using hr
    · exact HT6.out.later ((((Below.refl _ _).alloc (Nat.le_refl _) _).alloc (by simp) _).alloc (by simp; omega) _)
    rintro e w7 ⟨rfl, rfl⟩
    go_wp2
    go_ret
    refine ⟨rfl, ?_⟩
    have hz6 : w1.heap.size ≤ w6.heap.size := HB16.out.size
    have hz1 : w.heap.size ≤ w1.heap.size := HB1.out.size
    exact (((HB1.out.trans (HB16.out.mono hz1)).alloc (by omega) _).alloc (by simp; omega) _).alloc (by simp; omega) _
  · have hneg2 : at_ < 0 := by omega
    have htm : at_.tmod ↑m = -((-at_) % ↑m) := by
      have h1 := Int.neg_tmod (-at_) (↑m)
      rw [Int.neg_neg] at h1
      rw [h1, Int.tmod_eq_emod_of_nonneg (by omega)]
    obtain ⟨k, hk0⟩ : ∃ k : Nat, (-at_) % ↑m = (k : Int) := Int.eq_ofNat_of_zero_le (Int.emod_nonneg _ (by omega))
    have hkm : (k : Int) < m := by rw [← hk0]; exact Int.emod_lt_of_pos _ (by omega)
    rw [hk0] at htm
    clear hk0 hneg
    by_cases hkz : k = 0
    · have hk : at_.tmod ↑m = (k : Int) := by rw [htm]; omega
      have HKZ := hid hkz
      clear htm hkz
      have hkC : k < C.length := by rw [HCL.out]; omega
      obtain ⟨t, ht8, hshl⟩ := shl_fact bit
      obtain ⟨y, hxy, hyB, hyx⟩ := xor_bit (C.getD k 0) t (mem_getD C IsB HCB.out k hkC) ht8
      have HTu := hid (turned C k t y hkC HCB.out ht8 hyB hyx HN0.out)
      clear hyx
      obtain ⟨x, hx⟩ : ∃ x, C.getD k 0 = x := ⟨_, rfl⟩
      obtain ⟨p, hp⟩ : ∃ p : Int, 2 ^ t = p := ⟨_, rfl⟩
      rw [hx, hp] at hxy
      rw [hp] at hshl
      have HX := hid hx
      clear hx hp hyB
      go_wp2_with (at_builtin; refine wpList_append_len rfl (.tmp 53) (.tmp 54) rfl (w3.heap.size + 1) (.slice (some ⟨w3.heap.size + 1, 0, none⟩) 0 0) [] C rfl ?o1 (m + 2) HCL.out (some ⟨w1.heap.size + 1 + 1, 0, none⟩) (m + 2) rfl ?o2 (fun e => by cases e) ?o3 ?o4 w3.heap.size w3 ?o5 ?o6 ?_; rotate_left 6; intro v5 w5 hv5 hb5; obtain ⟨g5, cap5, rfl, hown5, hg5, hcap5, hall5⟩ := own_open hv5.out HCL.out (by omega); obtain ⟨hce, hfr⟩ := hall5 k (by omega); rw [HX.out] at hce; have HO5 := hid hown5; have HB5 := hid hb5; clear hv5 hown5 hall5 hb5)
      case o1 =>
        have ho := own_empty (w3.alloc (Obj.cells #[Value.slice (some ⟨w1.heap.size + 1 + 1, 0, none⟩) (m + 2) (m + 2)] 22))
        simpa using ho
      case o2 => exact HCr.out.later (((Below.refl _ _).alloc (Nat.le_refl _) _).alloc (by simp) _)
      case o3 => rw [HCL.out]; simp; omega
      case o4 => simp
      case o5 => omega
      case o6 => exact ((Below.refl _ _).alloc (Nat.le_refl _) _).alloc (by simp) _
      have HOw := hid (own_set (y := y) HO5.out hkC)
      have HB6 := hid (HB5.out.setCell (p := ⟨g5, k, none⟩) (by show w3.heap.size ≤ g5; omega) (.int .u8 y))
      have hsz6 : w5.heap.size = (w5.setCell ⟨g5, k, none⟩ (.int .u8 y)).heap.size := by simp [World.setCell]
      rw [hsz6]
      generalize w5.setCell ⟨g5, k, none⟩ (.int .u8 y) = w6 at *
      have hDl : (C.set k y).length = m + 2 := by rw [List.length_set, HCL.out]
      have HD := hid (show Bytes w6 (some ⟨g5, 0, none⟩) (C.set k y) from Bytes.mk_ HTu.out.2.2 fun i hi => by rw [Nat.zero_add]; exact (own_cell HOw.out hi).1)
      have HCr6 := hid (HCr.out.later HB6.out)
      have HT6 := hid (HT.out.later ((HB1.out.trans ((HB13.out.trans (HB6.out.mono hz3)).mono HB1.out.size))))
      have HB16 := hid (HB13.out.trans (HB6.out.mono hz3))
      have HTu1 := HTu.out.1
      have HTu2 := HTu.out.2.1
      have HDl := hid hDl
      clear HOw HO5 HB5 hce hfr hsz6 hDl HTu HX hxy hshl
      obtain ⟨D, hD⟩ : ∃ D, C.set k y = D := ⟨_, rfl⟩
      rw [hD] at HDl HD HTu1 HTu2
      clear hD
      refine (inet_one (some ⟨w6.heap.size, 0, none⟩) 1 D _ (by rw [HDl.out]; omega) (rows_new w6 D (some ⟨g5, 0, none⟩) cap5 (m + 2) HDl.out.symm HD.out)).mono ?_
      rintro e w7 ⟨rfl, rfl⟩
      generalize 65535 - inetFold (wsum 0 D) = J at *
      go_wp2_with fail
      refine (crc_one (some ⟨w6.heap.size + 1, 0, none⟩) 1 D _ (by rw [HDl.out]; omega) ?_ ?_).mono ?_
      · have hr := rows_new (w6.alloc (Obj.cells #[Value.slice (some ⟨g5, 0, none⟩) (m + 2) cap5] 22)) D (some ⟨g5, 0, none⟩) cap5 (m + 2) HDl.out.symm (HD.out.later ((Below.refl _ _).alloc (Nat.le_refl _) _))
        simpa using hr
      · exact HT6.out.later (((Below.refl _ _).alloc (Nat.le_refl _) _).alloc (by simp) _)
      rintro e w7 ⟨rfl, rfl⟩
      go_wp2_with fail
      refine (crc_one (some ⟨w6.heap.size + 1 + 1, 0, none⟩) 1 C _ (by rw [HCL.out]; omega) ?_ ?_).mono ?_
      · have hr := rows_new ((w6.alloc (Obj.cells #[Value.slice (some ⟨g5, 0, none⟩) (m + 2) cap5] 22)).alloc (Obj.cells #[Value.slice (some ⟨g5, 0, none⟩) (m + 2) cap5] 22)) C (some ⟨w1.heap.size + 1 + 1, 0, none⟩) (m + 2) (m + 2) HCL.out.symm (HCr6.out.later (((Below.refl _ _).alloc (Nat.le_refl _) _).alloc (by simp) _))
        simpa using hr
      · exact HT6.out.later ((((Below.refl _ _).alloc (Nat.le_refl _) _).alloc (by simp) _).alloc (by simp; omega) _)
      rintro e w7 ⟨rfl, rfl⟩
      go_wp2
      go_ret
      refine ⟨rfl, ?_⟩
      have hz6 : w1.heap.size ≤ w6.heap.size := HB16.out.size
      have hz1 : w.heap.size ≤ w1.heap.size := HB1.out.size
      exact (((HB1.out.trans (HB16.out.mono hz1)).alloc (by omega) _).alloc (by simp; omega) _).alloc (by simp; omega) _
    · have hkn : -(k : Int) < 0 := by omega
      clear hkz
      have hkC : k < C.length := by rw [HCL.out]; omega
      obtain ⟨t, ht8, hshl⟩ := shl_fact bit
      obtain ⟨y, hxy, hyB, hyx⟩ := xor_bit (C.getD k 0) t (mem_getD C IsB HCB.out k hkC) ht8
      have HTu := hid (turned C k t y hkC HCB.out ht8 hyB hyx HN0.out)
      clear hyx
      obtain ⟨x, hx⟩ : ∃ x, C.getD k 0 = x := ⟨_, rfl⟩
      obtain ⟨p, hp⟩ : ∃ p : Int, 2 ^ t = p := ⟨_, rfl⟩
      rw [hx, hp] at hxy
      rw [hp] at hshl
      have HX := hid hx
      clear hx hp hyB
      go_wp2_with (at_builtin; refine wpList_append_len rfl (.tmp 53) (.tmp 54) rfl (w3.heap.size + 1) (.slice (some ⟨w3.heap.size + 1, 0, none⟩) 0 0) [] C rfl ?o1 (m + 2) HCL.out (some ⟨w1.heap.size + 1 + 1, 0, none⟩) (m + 2) rfl ?o2 (fun e => by cases e) ?o3 ?o4 w3.heap.size w3 ?o5 ?o6 ?_; rotate_left 6; intro v5 w5 hv5 hb5; obtain ⟨g5, cap5, rfl, hown5, hg5, hcap5, hall5⟩ := own_open hv5.out HCL.out (by omega); obtain ⟨hce, hfr⟩ := hall5 k (by omega); rw [HX.out] at hce; have HO5 := hid hown5; have HB5 := hid hb5; clear hv5 hown5 hall5 hb5)
      case o1 =>
        have ho := own_empty (w3.alloc (Obj.cells #[Value.slice (some ⟨w1.heap.size + 1 + 1, 0, none⟩) (m + 2) (m + 2)] 22))
        simpa using ho
      case o2 => exact HCr.out.later (((Below.refl _ _).alloc (Nat.le_refl _) _).alloc (by simp) _)
      case o3 => rw [HCL.out]; simp; omega
      case o4 => simp
      case o5 => omega
      case o6 => exact ((Below.refl _ _).alloc (Nat.le_refl _) _).alloc (by simp) _
      have HOw := hid (own_set (y := y) HO5.out hkC)
      have HB6 := hid (HB5.out.setCell (p := ⟨g5, k, none⟩) (by show w3.heap.size ≤ g5; omega) (.int .u8 y))
      have hsz6 : w5.heap.size = (w5.setCell ⟨g5, k, none⟩ (.int .u8 y)).heap.size := by simp [World.setCell]
      rw [hsz6]
      generalize w5.setCell ⟨g5, k, none⟩ (.int .u8 y) = w6 at *
      have hDl : (C.set k y).length = m + 2 := by rw [List.length_set, HCL.out]
      have HD := hid (show Bytes w6 (some ⟨g5, 0, none⟩) (C.set k y) from Bytes.mk_ HTu.out.2.2 fun i hi => by rw [Nat.zero_add]; exact (own_cell HOw.out hi).1)
      have HCr6 := hid (HCr.out.later HB6.out)
      have HT6 := hid (HT.out.later ((HB1.out.trans ((HB13.out.trans (HB6.out.mono hz3)).mono HB1.out.size))))
      have HB16 := hid (HB13.out.trans (HB6.out.mono hz3))
      have HTu1 := HTu.out.1
      have HTu2 := HTu.out.2.1
      have HDl := hid hDl
      clear HOw HO5 HB5 hce hfr hsz6 hDl HTu HX hxy hshl
      obtain ⟨D, hD⟩ : ∃ D, C.set k y = D := ⟨_, rfl⟩
      rw [hD] at HDl HD HTu1 HTu2
      clear hD
      refine (inet_one (some ⟨w6.heap.size, 0, none⟩) 1 D _ (by rw [HDl.out]; omega) (rows_new w6 D (some ⟨g5, 0, none⟩) cap5 (m + 2) HDl.out.symm HD.out)).mono ?_
      rintro e w7 ⟨rfl, rfl⟩
      generalize 65535 - inetFold (wsum 0 D) = J at *
      go_wp2_with fail
      refine (crc_one (some ⟨w6.heap.size + 1, 0, none⟩) 1 D _ (by rw [HDl.out]; omega) ?_ ?_).mono ?_
      · have hr := rows_new (w6.alloc (Obj.cells #[Value.slice (some ⟨g5, 0, none⟩) (m + 2) cap5] 22)) D (some ⟨g5, 0, none⟩) cap5 (m + 2) HDl.out.symm (HD.out.later ((Below.refl _ _).alloc (Nat.le_refl _) _))
        simpa using hr
      · exact HT6.out.later (((Below.refl _ _).alloc (Nat.le_refl _) _).alloc (by simp) _)
      rintro e w7 ⟨rfl, rfl⟩
      go_wp2_with fail
      refine (crc_one (some ⟨w6.heap.size + 1 + 1, 0, none⟩) 1 C _ (by rw [HCL.out]; omega) ?_ ?_).mono ?_
      · have hr := rows_new ((w6.alloc (Obj.cells #[Value.slice (some ⟨g5, 0, none⟩) (m + 2) cap5] 22)).alloc (Obj.cells #[Value.slice (some ⟨g5, 0, none⟩) (m + 2) cap5] 22)) C (some ⟨w1.heap.size + 1 + 1, 0, none⟩) (m + 2) (m + 2) HCL.out.symm (HCr6.out.later (((Below.refl _ _).alloc (Nat.le_refl _) _).alloc (by simp) _))
        simpa using hr
      · exact HT6.out.later ((((Below.refl _ _).alloc (Nat.le_refl _) _).alloc (by simp) _).alloc (by simp; omega) _)
      rintro e w7 ⟨rfl, rfl⟩
      go_wp2
      go_ret
      refine ⟨rfl, ?_⟩
      have hz6 : w1.heap.size ≤ w6.heap.size := HB16.out.size
      have hz1 : w.heap.size ≤ w1.heap.size := HB1.out.size
      exact (((HB1.out.trans (HB16.out.mono hz1)).alloc (by omega) _).alloc (by simp; omega) _).alloc (by simp; omega) _

set_option maxHeartbeats 400000 in
theorem numCheck_skip (a : Option Addr) (cap len : Nat) (at_ bit : Int) (w : World) (hl : 16384 < len ∨ len < 2) (hm : len ≤ 140737488355328) (hT : Tab w) :
    Calls Tryd.prog 8 #[.slice a len cap, .int .i64 at_, .int .i64 bit] w fun e w' => e = .returned (.bool true) ∧ Below w.heap.size w w' := by
  have HT := hid hT
  clear hT
  rcases hl with hl | hl
  · have h1 : (16384 : Int) < (len : Int) := by omega
    go_enter Tryd.func8, Tryd.ntmps8
    go_wp2_with fail
    refine (known_any _ HT.out).mono ?_
    rintro e w1 ⟨rfl, hb1⟩
    have HB1 := hid hb1
    clear hb1
    go_wp2
    go_ret
    exact ⟨rfl, HB1.out⟩
  · have h1 : ¬ ((16384 : Int) < (len : Int)) := by omega
    have h2 : (len : Int) < 2 := by omega
    go_enter Tryd.func8, Tryd.ntmps8
    go_wp2_with fail
    refine (known_any _ HT.out).mono ?_
    rintro e w1 ⟨rfl, hb1⟩
    have HB1 := hid hb1
    clear hb1
    go_wp2
    go_ret
    exact ⟨rfl, HB1.out⟩
theorem numCheck_walk (a : Option Addr) (cap : Nat) (l : List Int) (at_ bit : Int) (w : World) (hm : l.length ≤ 140737488351232) (hc : l.length ≤ cap) (h : Bytes w a l) (hT : Tab w)
   (ha : (Lit.int .i64 at_).wf = true) (hb : (Lit.int .i64 bit).wf = true) :
    Calls Tryd.prog 8 #[.slice a l.length cap, .int .i64 at_, .int .i64 bit] w fun e w' => e = .returned (.bool true) ∧ Below w.heap.size w w' := by
  by_cases hl : 16384 < l.length ∨ l.length < 2
  · exact numCheck_skip a cap l.length at_ bit w hl (by omega) hT
  · have h1 := bounds_i64 ha
    have h2 := bounds_i64 hb
    exact numCheck_t a cap l at_ bit w (by omega) (by omega) hc h hT (by omega) (by omega) (by omega) (by omega)
end Go.Proofs.YtkmljnjikkmdhaaDoor
