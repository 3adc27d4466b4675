/- What was written is read again, item by item; cut anywhere it cannot be read whole: the law's walk. -/
import Derived.Test.YteeakkpbpffohaaXeB
namespace Go.Proofs.Yteeakkpbpffohaa
open Go.RowKit Go.Maps
set_option linter.unusedVariables false

set_option maxRecDepth 100000 in
theorem cut_items (b : Option Addr) (m cap k : Nat) (h : k ≤ cap) (W : World) : (Instr.slice 23 (.slice b m cap) none (some (.int .i64 k)) none).run Try.prog W = .ok (.slice b k cap) W := by
  have hz : (sizeOf 33).run Try.prog W = .ok 5 W := by kernel_rfl
  rw [run_slice_h (P := Try.prog) W 23 b m cap Try.underlying23 .i64 k (by omega) (by omega)]
  have e : Try.prog.elem 23 = 33 := by kernel_rfl
  rw [e, hz]
  cases b <;> simp [sliced, Addr.add]
theorem ItR.take {w : World} {b : Option Addr} {L : List It} (h : ItR w b L) (k : Nat) : ItR w b (L.take k) := fun i hi => by
  have h1 : i < L.length := by rw [List.length_take] at hi; omega
  have h2 : i < k := by rw [List.length_take] at hi; omega
  have e : (L.take k).getD i default = L.getD i default := by simp [List.getD, h1, h2]
  rw [e]
  exact h i h1
theorem ItR.later2 {w w' : World} {a : Option Addr} {L : List It} (h : ItR w a L) (hb : Below w.heap.size w w') : ItR w' a L := fun i hi => by
  obtain ⟨h1, _⟩ := h i hi
  obtain ⟨b, off, e, hc⟩ := h.later hb i hi
  exact ⟨⟨h1.hk, h1.hn, h1.hv, h1.hl, h1.hb.later hb, h1.hm, h1.hc⟩, b, off, e, hc⟩
theorem ItR.mem {w : World} {a : Option Addr} {L : List It} (h : ItR w a L) {x : It} (hx : x ∈ L) : x.ok w := by
  obtain ⟨i, hi, rfl⟩ := List.getElem_of_mem hx
  have := (h i hi).1
  have e : L.getD i default = L[i] := by simp [List.getD, hi]
  rwa [e] at this
set_option maxRecDepth 100000 in
set_option maxHeartbeats 16000000 in
theorem XdrBack_walk (w : World) (b : Option Addr) (m cap : Nat) (L : List It) (cut : Int) (hcut : II16 cut) (hL : L.length = m) (hmL : m ≤ maxLen) (hmc : m ≤ cap) (hR : ItR w b L) :
    Calls Try.prog 6 #[.slice b m cap, .int .i64 cut] w fun e w' => e = .returned (.bool true) ∧ Below w.heap.size w w' := by
  have HK := hid (known_any w)
  have HR := hid hR
  have HN := hid hL
  have HCI := hid (fun (k : Nat) (h : k ≤ cap) (W : World) => cut_items b m cap k h W)
  unfold maxLen at hmL
  unfold II16 at hcut
  clear hR hL
  go_enter Try.func6, Try.ntmps6
  go_wp2_with (first
    | (go_at_call 8
       refine HK.out.mono ?_
       rintro e w1 ⟨rfl, hb1⟩
       have HB1 := hid hb1
       have HNW := hid (NewWriter_any w1)
       clear hb1)
    | (go_at_call 15
       refine HNW.out.mono ?_
       rintro e w2 ⟨rfl, hx, hb2⟩
       obtain ⟨W3, hW3⟩ : ∃ W, W = w2.alloc (.cells #[.slice none 0 0] 42) := ⟨_, rfl⟩
       have hT := TW.begin_ (HB1.out.trans (hb2.mono HB1.out.size)) HB1.out.size hx hW3
       have hT2 : ∃ p q, p = w1.heap.size ∧ q = w2.heap.size ∧ TW w W3 p q [] := ⟨_, _, rfl, rfl, hT⟩
       obtain ⟨p, q, hp, hq, hT3⟩ := hT2
       have HT := hid hT3
       have HP := hid hp
       have HQ := hid hq
       rw [← hp]
       have hq' := hq.symm
       have hW3' := hW3.symm
       clear hx hb2 hT hT3 hp hq hW3))
  go_loopw [7, 8] (fun u i wr => ∃ k : Nat, k ≤ m ∧ k ≤ 60 ∧ u = .int .i64 k ∧ i = .int .i64 k ∧ TW w wr p q (itLs (L.take k)) ∧ (itLs (L.take k)).length ≤ 3010 * k ∧ ∀ x ∈ L.take k, x.n ≤ 2000) (fun _ i _ => 60 - (intOf i).toNat)
  case atStart => exact ⟨0, Nat.zero_le _, Nat.zero_le _, rfl, rfl, by simpa [itLs] using HT.out, by simp [itLs], fun x hx => by simp at hx⟩
  case round =>
    obtain ⟨k, hk, hk60, rfl, rfl, hT, hlen, hall⟩ := hrel
    by_cases hgo : k < m ∧ k < 60
    · obtain ⟨hlt, hlt2⟩ := hgo
      have hki : (k : Int) < m := by omega
      have hki2 : (k : Int) < 60 := by omega
      have hkl : k < L.length := by rw [HN.out]; exact hlt
      obtain ⟨hok, _⟩ := HR.out k hkl
      obtain ⟨b5, off, rfl, hc⟩ := HR.out.later hT.bl k hkl
      have HO := hid (itLs_snoc L k hkl)
      have HO2 : Hid (L.take (k + 1) = L.take k ++ [L.getD k default]) := hid (by
        have e : L.getD k default = L[k] := by simp [List.getD, hkl]
        rw [e, List.take_succ_eq_append_getElem hkl])
      obtain ⟨x, hx⟩ : ∃ x, L.getD k default = x := ⟨_, rfl⟩
      rw [hx] at hok hc HO HO2
      have q0 := hc 0 (by omega)
      have q1 := hc 1 (by omega)
      have q2 := hc 2 (by omega)
      have q3 := hc 3 (by omega)
      have q4 := hc 4 (by omega)
      simp only [itC, List.getElem?_toArray, List.getElem?_cons_zero, List.getElem?_cons_succ, Nat.add_zero] at q0 q1 q2 q3 q4
      have hxn := hok.hm
      have HOK := hid hok
      have HT1 := hid hT
      have HLEN := hid hlen
      have HALL := hid hall
      obtain ⟨xn, hxn2⟩ : ∃ m, x.n = m := ⟨_, rfl⟩
      rw [hxn2] at q4 hxn
      clear hc hT hx hok hlen hall
      by_cases hbig : xn ≤ 2000
      · have hbi : ¬ ((2000 : Int) < xn) := by omega
        have HW := hid (write_any HT1.out x HOK.out (by rw [hxn2]; omega) (by have := HLEN.out; omega))
        have HIL := hid (itL_len x (by rw [HOK.out.hl, hxn2]; omega))
        have HX2 := hid hxn2
        rw [show itC x = #[.int .i64 x.kd, .int .i64 x.nn, .int .u64 x.v, .bool x.on, .slice x.a xn x.c] by rw [itC, hxn2]] at HW
        clear hxn2
        go_wp2_with (go_at_call 16
                     refine HW.out.mono ?_
                     rintro e w4 ⟨rfl, hT4⟩
                     have HT4 := hid hT4
                     clear hT4)
        go_roundw
        case rel => exact ⟨k + 1, by omega, by omega, by go_num, by go_num, by rw [HO.out]; exact HT4.out, by rw [HO.out, List.length_append]; have := HLEN.out; have := HIL.out; omega, fun y hy => by
          rw [HO2.out] at hy
          rcases List.mem_append.1 hy with h1 | h1
          · exact HALL.out y h1
          · simp only [List.mem_singleton] at h1; rw [h1, HX2.out]; exact hbig⟩
        case measure => simp [intOf]; omega
      · have hbi : (2000 : Int) < xn := by omega
        have HBL := hid HT1.out.bl
        go_wp2
        go_ret
        exact ⟨rfl, HBL.out⟩
    have HBLW := hid hT.bl
    have hrest : (¬ ((k : Int) < m)) ∨ ((k : Int) < m ∧ ¬ ((k : Int) < 60)) := by omega
    have hRk := HR.out.take k
    obtain ⟨LK, hLK⟩ : ∃ x, L.take k = x := ⟨_, rfl⟩
    have hLl : LK.length = k := by rw [← hLK, List.length_take, HN.out]; omega
    rw [hLK] at hT hlen hall hRk
    have hy := backB_yes LK (fun x hx => ⟨(hRk.mem hx).hv, (hRk.mem hx).hl, by have := hall x hx; omega⟩)
    have hno := fun (l : List Int) (h : l.length ≠ (itLs LK).length) => backB_no l LK (fun x hx => (hRk.mem hx).hl) h
    have h4 := itLs_4 LK
    obtain ⟨⟨S1, S2, g1, _, _, _, _⟩, _⟩ := hT
    obtain ⟨M, hM⟩ : ∃ x, itLs LK = x := ⟨_, rfl⟩
    rw [hM] at hy hno h4 g1 hlen
    obtain ⟨n, hn⟩ : ∃ x, M.length = x := ⟨_, rfl⟩
    rw [hn] at hno h4 hlen
    have HD := hid (Done_any g1 n hn (by omega))
    have HY := hid hy
    have HNO := hid hno
    have HH4 := hid h4
    have HLL := hid hLl
    have HRK := hid hRk
    have HALL := hid hall
    have HNN := hid hn
    have HBK : Hid (∀ (W : World) (a2 : Option Addr) (nn c2 : Nat) (l2 : List Int), Below w.heap.size w W → l2.length = nn → nn ≤ 900000 → Bytes W a2 l2 → Calls Try.prog 28 #[.slice a2 nn c2, .slice b k cap] W fun e w' => e = .returned (.bool (backB l2 LK)) ∧ Below W.heap.size W w') := hid (fun W a2 nn c2 l2 hW h1 h2 h3 => back_any W a2 b nn c2 k cap l2 LK h1 h2 h3 hLl (by omega) (hRk.later2 hW) (fun x hx => by have := hall x hx; omega))
    have hcut1 := HCI.out k (by omega)
    have hn9 : n ≤ 900000 := by omega
    have t4 : ((n : Int)).tmod 4 = 0 := by rw [Int.tmod_eq_emod_of_nonneg (by omega)]; omega
    have t5 : ((n : Int)) % 4 = 0 := by omega
    have w4 : IntKind.i64.wrap (((n : Int)).tmod 4) = 0 := by rw [t4]; rfl
    clear hlen hall hRk hLK hLl hy hno h4 g1 hM hn
    by_cases hz : n = 0
    · subst hz
      rcases hrest with hki | ⟨hki, hki2⟩
      · go_wp2_with (first
          | (go_at_call 17
             refine HD.out.mono ?_
             rintro e w7 ⟨a7, c7, rfl, hy7, hc7, hb7⟩
             have HB7 := hid (HBLW.out.trans (hb7.mono HBLW.out.size))
             have HY7 := hid hy7.bytes
             have HC7 := hid hc7
             have HB1 := hid (HBK.out w7 a7 0 c7 M HB7.out HNN.out hn9 HY7.out)
             rw [HY.out] at HB1
             clear hy7 hc7 hb7)
          | (go_at_call 28
             refine HB1.out.mono ?_
             rintro e w8 ⟨rfl, hb8⟩
             have HB8 := hid (HB7.out.trans (hb8.mono HB7.out.size))
             have HY8 := hid (HY7.out.later hb8)
             clear hb8))
        go_ret
        exact ⟨rfl, HB8.out⟩
      · go_wp2_with (first
          | (go_at_call 17
             refine HD.out.mono ?_
             rintro e w7 ⟨a7, c7, rfl, hy7, hc7, hb7⟩
             have HB7 := hid (HBLW.out.trans (hb7.mono HBLW.out.size))
             have HY7 := hid hy7.bytes
             have HC7 := hid hc7
             have HB1 := hid (HBK.out w7 a7 0 c7 M HB7.out HNN.out hn9 HY7.out)
             rw [HY.out] at HB1
             clear hy7 hc7 hb7)
          | (go_at_call 28
             refine HB1.out.mono ?_
             rintro e w8 ⟨rfl, hb8⟩
             have HB8 := hid (HB7.out.trans (hb8.mono HB7.out.size))
             have HY8 := hid (HY7.out.later hb8)
             clear hb8))
        go_ret
        exact ⟨rfl, HB8.out⟩
    have hnz : ¬ ((n : Int) = 0) := by omega
    have hnb : ((n : Int) == 0) = false := by simpa using hnz
    have hlt9 : ∀ z : Int, z.natAbs < n → -9223372036854775808 ≤ z ∧ z ≤ 9223372036854775807 := fun z hz2 => by omega
    have hrl : (cut.tmod n).natAbs < n := by
      rw [Int.natAbs_tmod]
      exact Nat.mod_lt _ (by simp; omega)
    obtain ⟨r, hr⟩ : ∃ r, cut.tmod n = r := ⟨_, rfl⟩
    rw [hr] at hrl
    have wr_ : IntKind.i64.wrap r = r := IntWalk.i64_in _ (by have := hlt9 r hrl; omega)
    have wr2 : IntKind.i64.wrap (cut.tmod n) = r := by rw [hr]; exact wr_
    clear hlt9 hz
    by_cases hneg : r < 0
    · obtain ⟨kk, hkk⟩ : ∃ kk : Nat, 0 - r = kk := ⟨r.natAbs, by omega⟩
      have HKK := hid (show kk < n by omega)
      have wkk : IntKind.i64.wrap (0 - r) = kk := by rw [hkk]; exact IntWalk.i64_in _ (by omega)
      have wkk2 : IntKind.i64.wrap (-r) = kk := by rw [show -r = 0 - r by omega]; exact wkk
      clear hrl hkk
      rcases hrest with hki | ⟨hki, hki2⟩
      · go_upto_region 23 with (first
          | (go_at_call 17
             refine HD.out.mono ?_
             rintro e w7 ⟨a7, c7, rfl, hy7, hc7, hb7⟩
             have HB7 := hid (HBLW.out.trans (hb7.mono HBLW.out.size))
             have HY7 := hid hy7.bytes
             have HC7 := hid hc7
             have HB1 := hid (HBK.out w7 a7 n c7 M HB7.out HNN.out hn9 HY7.out)
             rw [HY.out] at HB1
             clear hy7 hc7 hb7)
          | (go_at_call 28
             refine HB1.out.mono ?_
             rintro e w8 ⟨rfl, hb8⟩
             have HB8 := hid (HB7.out.trans (hb8.mono HB7.out.size))
             have HY8 := hid (HY7.out.later hb8)
             clear hb8))
        obtain ⟨a2, hcut2, hbc⟩ := cut_h a7 n c7 kk (by have := HKK.out; omega) HC7.out
        have hb9 := hbc w8 M HNN.out HY8.out
        have HLT := hid (show (M.take kk).length = kk by rw [List.length_take, HNN.out]; have := HKK.out; omega)
        have HB2 := hid (HBK.out w8.drew a2 kk c7 (M.take kk) HB8.out.drew HLT.out (by have := HKK.out; omega) hb9)
        have hf := HNO.out (M.take kk) (by rw [HLT.out]; have := HKK.out; omega)
        rw [hf] at HB2
        clear hbc hb9 hf
        try simp only [Act.put]
        refine wp_region_held_drew (S := fun _ => True) (by kernel_rfl) trivial (fun hS => ?_)
        refine nany_take 0 69 (.slice a7 n c7) rfl rfl (by kernel_rfl) (by kernel_rfl) (by kernel_rfl) (fun _ _ _ h => h) (Or.inl ⟨by rfl, ?_⟩) trivial ?_
        · rintro w' -
          go_simp
        simp only [List.setIfInBounds_toArray, List.set_cons_zero, List.set_cons_succ]
        refine nany_take 1 70 (.int .i64 kk) rfl rfl (by kernel_rfl) (by kernel_rfl) (by kernel_rfl) (fun _ _ _ h => h) (Or.inl ⟨by rfl, ?_⟩) trivial ?_
        · rintro w' -
          go_simp
        simp only [List.setIfInBounds_toArray, List.set_cons_zero, List.set_cons_succ]
        refine nany_take 3 72 (.slice b m cap) rfl rfl (by kernel_rfl) (by kernel_rfl) (by kernel_rfl) (fun _ _ _ h => h) (Or.inl ⟨by rfl, ?_⟩) trivial ?_
        · rintro w' -
          go_simp
        simp only [List.setIfInBounds_toArray, List.set_cons_zero, List.set_cons_succ]
        refine nany_take 4 73 (.int .i64 k) rfl rfl (by kernel_rfl) (by kernel_rfl) (by kernel_rfl) (fun _ _ _ h => h) (Or.inl ⟨by rfl, ?_⟩) trivial ?_
        · rintro w' -
          go_simp
        simp only [List.setIfInBounds_toArray, List.set_cons_zero, List.set_cons_succ]
        refine nany_take 2 71 (.slice a2 kk c7) rfl rfl (by kernel_rfl) (by kernel_rfl) (by kernel_rfl) (fun _ _ _ h => h) (Or.inl ⟨by rfl, ?_⟩) trivial ?_
        · rintro w' -
          first | (go_simp; done) | (go_simp; rw [hcut2]; rfl)
        simp only [List.setIfInBounds_toArray, List.set_cons_zero, List.set_cons_succ]
        refine nany_take 5 74 (.slice b k cap) rfl rfl (by kernel_rfl) (by kernel_rfl) (by kernel_rfl) (fun _ _ _ h => h) (Or.inl ⟨by rfl, ?_⟩) trivial ?_
        · rintro w' -
          first | (go_simp; done) | (go_simp; rw [hcut1]; rfl)
        simp only [List.setIfInBounds_toArray, List.set_cons_zero, List.set_cons_succ]
        refine nany_one 6 (by kernel_rfl) ?_
        refine nop_callE 75 (f := 28) (args := #[.slice a2 kk c7, .slice b k cap]) (R := fun v w' => v = .bool false ∧ Below w8.drew.heap.size w8.drew w') rfl (by rfl) rfl (by go_simp) (HB2.out.mono (fun e w' h => ⟨_, h.1, rfl, h.2⟩)) ?_
        rintro v v9 ⟨rfl, hb9⟩
        refine ⟨trivial, ?_⟩
        simp only [List.setIfInBounds_toArray, List.set_cons_zero, List.set_cons_succ]
        have HB9 := hid (HB8.out.drew.trans (hb9.mono HB8.out.drew.size))
        refine nany_take 7 76 (.bool true) rfl rfl (by kernel_rfl) (by kernel_rfl) (by kernel_rfl) (fun _ _ _ h => h) (Or.inl ⟨by rfl, ?_⟩) trivial ?_
        · rintro w' -
          go_simp
        simp only [List.setIfInBounds_toArray, List.set_cons_zero, List.set_cons_succ]
        refine nany_take 8 4 (.bool true) rfl rfl (by kernel_rfl) (by kernel_rfl) (by kernel_rfl) (fun _ _ _ h => h) (Or.inl ⟨by rfl, ?_⟩) trivial ?_
        · rintro w' -
          go_simp
        simp only [List.setIfInBounds_toArray, List.set_cons_zero, List.set_cons_succ]
        refine wpAnyH_done (by kernel_rfl) ?_ _
        clear hb9 hS hcut2
        go_wp2
        go_ret
        exact ⟨rfl, HB9.out⟩
      · go_upto_region 23 with (first
          | (go_at_call 17
             refine HD.out.mono ?_
             rintro e w7 ⟨a7, c7, rfl, hy7, hc7, hb7⟩
             have HB7 := hid (HBLW.out.trans (hb7.mono HBLW.out.size))
             have HY7 := hid hy7.bytes
             have HC7 := hid hc7
             have HB1 := hid (HBK.out w7 a7 n c7 M HB7.out HNN.out hn9 HY7.out)
             rw [HY.out] at HB1
             clear hy7 hc7 hb7)
          | (go_at_call 28
             refine HB1.out.mono ?_
             rintro e w8 ⟨rfl, hb8⟩
             have HB8 := hid (HB7.out.trans (hb8.mono HB7.out.size))
             have HY8 := hid (HY7.out.later hb8)
             clear hb8))
        obtain ⟨a2, hcut2, hbc⟩ := cut_h a7 n c7 kk (by have := HKK.out; omega) HC7.out
        have hb9 := hbc w8 M HNN.out HY8.out
        have HLT := hid (show (M.take kk).length = kk by rw [List.length_take, HNN.out]; have := HKK.out; omega)
        have HB2 := hid (HBK.out w8.drew a2 kk c7 (M.take kk) HB8.out.drew HLT.out (by have := HKK.out; omega) hb9)
        have hf := HNO.out (M.take kk) (by rw [HLT.out]; have := HKK.out; omega)
        rw [hf] at HB2
        clear hbc hb9 hf
        try simp only [Act.put]
        refine wp_region_held_drew (S := fun _ => True) (by kernel_rfl) trivial (fun hS => ?_)
        refine nany_take 0 69 (.slice a7 n c7) rfl rfl (by kernel_rfl) (by kernel_rfl) (by kernel_rfl) (fun _ _ _ h => h) (Or.inl ⟨by rfl, ?_⟩) trivial ?_
        · rintro w' -
          go_simp
        simp only [List.setIfInBounds_toArray, List.set_cons_zero, List.set_cons_succ]
        refine nany_take 1 70 (.int .i64 kk) rfl rfl (by kernel_rfl) (by kernel_rfl) (by kernel_rfl) (fun _ _ _ h => h) (Or.inl ⟨by rfl, ?_⟩) trivial ?_
        · rintro w' -
          go_simp
        simp only [List.setIfInBounds_toArray, List.set_cons_zero, List.set_cons_succ]
        refine nany_take 3 72 (.slice b m cap) rfl rfl (by kernel_rfl) (by kernel_rfl) (by kernel_rfl) (fun _ _ _ h => h) (Or.inl ⟨by rfl, ?_⟩) trivial ?_
        · rintro w' -
          go_simp
        simp only [List.setIfInBounds_toArray, List.set_cons_zero, List.set_cons_succ]
        refine nany_take 4 73 (.int .i64 k) rfl rfl (by kernel_rfl) (by kernel_rfl) (by kernel_rfl) (fun _ _ _ h => h) (Or.inl ⟨by rfl, ?_⟩) trivial ?_
        · rintro w' -
          go_simp
        simp only [List.setIfInBounds_toArray, List.set_cons_zero, List.set_cons_succ]
        refine nany_take 2 71 (.slice a2 kk c7) rfl rfl (by kernel_rfl) (by kernel_rfl) (by kernel_rfl) (fun _ _ _ h => h) (Or.inl ⟨by rfl, ?_⟩) trivial ?_
        · rintro w' -
          first | (go_simp; done) | (go_simp; rw [hcut2]; rfl)
        simp only [List.setIfInBounds_toArray, List.set_cons_zero, List.set_cons_succ]
        refine nany_take 5 74 (.slice b k cap) rfl rfl (by kernel_rfl) (by kernel_rfl) (by kernel_rfl) (fun _ _ _ h => h) (Or.inl ⟨by rfl, ?_⟩) trivial ?_
        · rintro w' -
          first | (go_simp; done) | (go_simp; rw [hcut1]; rfl)
        simp only [List.setIfInBounds_toArray, List.set_cons_zero, List.set_cons_succ]
        refine nany_one 6 (by kernel_rfl) ?_
        refine nop_callE 75 (f := 28) (args := #[.slice a2 kk c7, .slice b k cap]) (R := fun v w' => v = .bool false ∧ Below w8.drew.heap.size w8.drew w') rfl (by rfl) rfl (by go_simp) (HB2.out.mono (fun e w' h => ⟨_, h.1, rfl, h.2⟩)) ?_
        rintro v v9 ⟨rfl, hb9⟩
        refine ⟨trivial, ?_⟩
        simp only [List.setIfInBounds_toArray, List.set_cons_zero, List.set_cons_succ]
        have HB9 := hid (HB8.out.drew.trans (hb9.mono HB8.out.drew.size))
        refine nany_take 7 76 (.bool true) rfl rfl (by kernel_rfl) (by kernel_rfl) (by kernel_rfl) (fun _ _ _ h => h) (Or.inl ⟨by rfl, ?_⟩) trivial ?_
        · rintro w' -
          go_simp
        simp only [List.setIfInBounds_toArray, List.set_cons_zero, List.set_cons_succ]
        refine nany_take 8 4 (.bool true) rfl rfl (by kernel_rfl) (by kernel_rfl) (by kernel_rfl) (fun _ _ _ h => h) (Or.inl ⟨by rfl, ?_⟩) trivial ?_
        · rintro w' -
          go_simp
        simp only [List.setIfInBounds_toArray, List.set_cons_zero, List.set_cons_succ]
        refine wpAnyH_done (by kernel_rfl) ?_ _
        clear hb9 hS hcut2
        go_wp2
        go_ret
        exact ⟨rfl, HB9.out⟩
    · obtain ⟨kk, rfl⟩ := Int.eq_ofNat_of_zero_le (show 0 ≤ r by omega)
      have HKK := hid (show kk < n by omega)
      clear hrl
      rcases hrest with hki | ⟨hki, hki2⟩
      · go_upto_region 23 with (first
          | (go_at_call 17
             refine HD.out.mono ?_
             rintro e w7 ⟨a7, c7, rfl, hy7, hc7, hb7⟩
             have HB7 := hid (HBLW.out.trans (hb7.mono HBLW.out.size))
             have HY7 := hid hy7.bytes
             have HC7 := hid hc7
             have HB1 := hid (HBK.out w7 a7 n c7 M HB7.out HNN.out hn9 HY7.out)
             rw [HY.out] at HB1
             clear hy7 hc7 hb7)
          | (go_at_call 28
             refine HB1.out.mono ?_
             rintro e w8 ⟨rfl, hb8⟩
             have HB8 := hid (HB7.out.trans (hb8.mono HB7.out.size))
             have HY8 := hid (HY7.out.later hb8)
             clear hb8))
        obtain ⟨a2, hcut2, hbc⟩ := cut_h a7 n c7 kk (by have := HKK.out; omega) HC7.out
        have hb9 := hbc w8 M HNN.out HY8.out
        have HLT := hid (show (M.take kk).length = kk by rw [List.length_take, HNN.out]; have := HKK.out; omega)
        have HB2 := hid (HBK.out w8.drew a2 kk c7 (M.take kk) HB8.out.drew HLT.out (by have := HKK.out; omega) hb9)
        have hf := HNO.out (M.take kk) (by rw [HLT.out]; have := HKK.out; omega)
        rw [hf] at HB2
        clear hbc hb9 hf
        try simp only [Act.put]
        refine wp_region_held_drew (S := fun _ => True) (by kernel_rfl) trivial (fun hS => ?_)
        refine nany_take 0 69 (.slice a7 n c7) rfl rfl (by kernel_rfl) (by kernel_rfl) (by kernel_rfl) (fun _ _ _ h => h) (Or.inl ⟨by rfl, ?_⟩) trivial ?_
        · rintro w' -
          go_simp
        simp only [List.setIfInBounds_toArray, List.set_cons_zero, List.set_cons_succ]
        refine nany_take 1 70 (.int .i64 kk) rfl rfl (by kernel_rfl) (by kernel_rfl) (by kernel_rfl) (fun _ _ _ h => h) (Or.inl ⟨by rfl, ?_⟩) trivial ?_
        · rintro w' -
          go_simp
        simp only [List.setIfInBounds_toArray, List.set_cons_zero, List.set_cons_succ]
        refine nany_take 3 72 (.slice b m cap) rfl rfl (by kernel_rfl) (by kernel_rfl) (by kernel_rfl) (fun _ _ _ h => h) (Or.inl ⟨by rfl, ?_⟩) trivial ?_
        · rintro w' -
          go_simp
        simp only [List.setIfInBounds_toArray, List.set_cons_zero, List.set_cons_succ]
        refine nany_take 4 73 (.int .i64 k) rfl rfl (by kernel_rfl) (by kernel_rfl) (by kernel_rfl) (fun _ _ _ h => h) (Or.inl ⟨by rfl, ?_⟩) trivial ?_
        · rintro w' -
          go_simp
        simp only [List.setIfInBounds_toArray, List.set_cons_zero, List.set_cons_succ]
        refine nany_take 2 71 (.slice a2 kk c7) rfl rfl (by kernel_rfl) (by kernel_rfl) (by kernel_rfl) (fun _ _ _ h => h) (Or.inl ⟨by rfl, ?_⟩) trivial ?_
        · rintro w' -
          first | (go_simp; done) | (go_simp; rw [hcut2]; rfl)
        simp only [List.setIfInBounds_toArray, List.set_cons_zero, List.set_cons_succ]
        refine nany_take 5 74 (.slice b k cap) rfl rfl (by kernel_rfl) (by kernel_rfl) (by kernel_rfl) (fun _ _ _ h => h) (Or.inl ⟨by rfl, ?_⟩) trivial ?_
        · rintro w' -
          first | (go_simp; done) | (go_simp; rw [hcut1]; rfl)
        simp only [List.setIfInBounds_toArray, List.set_cons_zero, List.set_cons_succ]
        refine nany_one 6 (by kernel_rfl) ?_
        refine nop_callE 75 (f := 28) (args := #[.slice a2 kk c7, .slice b k cap]) (R := fun v w' => v = .bool false ∧ Below w8.drew.heap.size w8.drew w') rfl (by rfl) rfl (by go_simp) (HB2.out.mono (fun e w' h => ⟨_, h.1, rfl, h.2⟩)) ?_
        rintro v v9 ⟨rfl, hb9⟩
        refine ⟨trivial, ?_⟩
        simp only [List.setIfInBounds_toArray, List.set_cons_zero, List.set_cons_succ]
        have HB9 := hid (HB8.out.drew.trans (hb9.mono HB8.out.drew.size))
        refine nany_take 7 76 (.bool true) rfl rfl (by kernel_rfl) (by kernel_rfl) (by kernel_rfl) (fun _ _ _ h => h) (Or.inl ⟨by rfl, ?_⟩) trivial ?_
        · rintro w' -
          go_simp
        simp only [List.setIfInBounds_toArray, List.set_cons_zero, List.set_cons_succ]
        refine nany_take 8 4 (.bool true) rfl rfl (by kernel_rfl) (by kernel_rfl) (by kernel_rfl) (fun _ _ _ h => h) (Or.inl ⟨by rfl, ?_⟩) trivial ?_
        · rintro w' -
          go_simp
        simp only [List.setIfInBounds_toArray, List.set_cons_zero, List.set_cons_succ]
        refine wpAnyH_done (by kernel_rfl) ?_ _
        clear hb9 hS hcut2
        go_wp2
        go_ret
        exact ⟨rfl, HB9.out⟩
      · go_upto_region 23 with (first
          | (go_at_call 17
             refine HD.out.mono ?_
             rintro e w7 ⟨a7, c7, rfl, hy7, hc7, hb7⟩
             have HB7 := hid (HBLW.out.trans (hb7.mono HBLW.out.size))
             have HY7 := hid hy7.bytes
             have HC7 := hid hc7
             have HB1 := hid (HBK.out w7 a7 n c7 M HB7.out HNN.out hn9 HY7.out)
             rw [HY.out] at HB1
             clear hy7 hc7 hb7)
          | (go_at_call 28
             refine HB1.out.mono ?_
             rintro e w8 ⟨rfl, hb8⟩
             have HB8 := hid (HB7.out.trans (hb8.mono HB7.out.size))
             have HY8 := hid (HY7.out.later hb8)
             clear hb8))
        obtain ⟨a2, hcut2, hbc⟩ := cut_h a7 n c7 kk (by have := HKK.out; omega) HC7.out
        have hb9 := hbc w8 M HNN.out HY8.out
        have HLT := hid (show (M.take kk).length = kk by rw [List.length_take, HNN.out]; have := HKK.out; omega)
        have HB2 := hid (HBK.out w8.drew a2 kk c7 (M.take kk) HB8.out.drew HLT.out (by have := HKK.out; omega) hb9)
        have hf := HNO.out (M.take kk) (by rw [HLT.out]; have := HKK.out; omega)
        rw [hf] at HB2
        clear hbc hb9 hf
        try simp only [Act.put]
        refine wp_region_held_drew (S := fun _ => True) (by kernel_rfl) trivial (fun hS => ?_)
        refine nany_take 0 69 (.slice a7 n c7) rfl rfl (by kernel_rfl) (by kernel_rfl) (by kernel_rfl) (fun _ _ _ h => h) (Or.inl ⟨by rfl, ?_⟩) trivial ?_
        · rintro w' -
          go_simp
        simp only [List.setIfInBounds_toArray, List.set_cons_zero, List.set_cons_succ]
        refine nany_take 1 70 (.int .i64 kk) rfl rfl (by kernel_rfl) (by kernel_rfl) (by kernel_rfl) (fun _ _ _ h => h) (Or.inl ⟨by rfl, ?_⟩) trivial ?_
        · rintro w' -
          go_simp
        simp only [List.setIfInBounds_toArray, List.set_cons_zero, List.set_cons_succ]
        refine nany_take 3 72 (.slice b m cap) rfl rfl (by kernel_rfl) (by kernel_rfl) (by kernel_rfl) (fun _ _ _ h => h) (Or.inl ⟨by rfl, ?_⟩) trivial ?_
        · rintro w' -
          go_simp
        simp only [List.setIfInBounds_toArray, List.set_cons_zero, List.set_cons_succ]
        refine nany_take 4 73 (.int .i64 k) rfl rfl (by kernel_rfl) (by kernel_rfl) (by kernel_rfl) (fun _ _ _ h => h) (Or.inl ⟨by rfl, ?_⟩) trivial ?_
        · rintro w' -
          go_simp
        simp only [List.setIfInBounds_toArray, List.set_cons_zero, List.set_cons_succ]
        refine nany_take 2 71 (.slice a2 kk c7) rfl rfl (by kernel_rfl) (by kernel_rfl) (by kernel_rfl) (fun _ _ _ h => h) (Or.inl ⟨by rfl, ?_⟩) trivial ?_
        · rintro w' -
          first | (go_simp; done) | (go_simp; rw [hcut2]; rfl)
        simp only [List.setIfInBounds_toArray, List.set_cons_zero, List.set_cons_succ]
        refine nany_take 5 74 (.slice b k cap) rfl rfl (by kernel_rfl) (by kernel_rfl) (by kernel_rfl) (fun _ _ _ h => h) (Or.inl ⟨by rfl, ?_⟩) trivial ?_
        · rintro w' -
          first | (go_simp; done) | (go_simp; rw [hcut1]; rfl)
        simp only [List.setIfInBounds_toArray, List.set_cons_zero, List.set_cons_succ]
        refine nany_one 6 (by kernel_rfl) ?_
        refine nop_callE 75 (f := 28) (args := #[.slice a2 kk c7, .slice b k cap]) (R := fun v w' => v = .bool false ∧ Below w8.drew.heap.size w8.drew w') rfl (by rfl) rfl (by go_simp) (HB2.out.mono (fun e w' h => ⟨_, h.1, rfl, h.2⟩)) ?_
        rintro v v9 ⟨rfl, hb9⟩
        refine ⟨trivial, ?_⟩
        simp only [List.setIfInBounds_toArray, List.set_cons_zero, List.set_cons_succ]
        have HB9 := hid (HB8.out.drew.trans (hb9.mono HB8.out.drew.size))
        refine nany_take 7 76 (.bool true) rfl rfl (by kernel_rfl) (by kernel_rfl) (by kernel_rfl) (fun _ _ _ h => h) (Or.inl ⟨by rfl, ?_⟩) trivial ?_
        · rintro w' -
          go_simp
        simp only [List.setIfInBounds_toArray, List.set_cons_zero, List.set_cons_succ]
        refine nany_take 8 4 (.bool true) rfl rfl (by kernel_rfl) (by kernel_rfl) (by kernel_rfl) (fun _ _ _ h => h) (Or.inl ⟨by rfl, ?_⟩) trivial ?_
        · rintro w' -
          go_simp
        simp only [List.setIfInBounds_toArray, List.set_cons_zero, List.set_cons_succ]
        refine wpAnyH_done (by kernel_rfl) ?_ _
        clear hb9 hS hcut2
        go_wp2
        go_ret
        exact ⟨rfl, HB9.out⟩
end Go.Proofs.Yteeakkpbpffohaa
