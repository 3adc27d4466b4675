/- readHead. -/
import Derived.Test.YtoifeioijoancaaDoorWbE
namespace Go.Proofs.YtoifeioijoancaaDoor
open Go.RowKit Go.Maps
set_option linter.unusedVariables false

/-- A number of n bytes at a place of bytes. -/
def rdN (l : List Int) (p n : Nat) : Int := leOf ((l.drop p).take n)
theorem rdN_bd (l : List Int) (p n : Nat) (h : ∀ x ∈ l, IsB x) (hn : n ≤ 8) : 0 ≤ rdN l p n ∧ rdN l p n < 256 ^ n := by
  have hb := leOf_bd ((l.drop p).take n) (fun x hx => h x (List.mem_of_mem_drop (List.mem_of_mem_take hx)))
  refine ⟨hb.1, Int.lt_of_lt_of_le hb.2 ?_⟩
  have hle : ((l.drop p).take n).length ≤ n := by simp; omega
  have h3 : ((256 ^ ((l.drop p).take n).length : Nat) : Int) ≤ ((256 ^ n : Nat) : Int) := Int.ofNat_le.2 (Nat.pow_le_pow_right (by decide : 0 < 256) hle)
  rw [Int.natCast_pow, Int.natCast_pow] at h3
  exact h3
theorem le_at (w : World) (a : Option Addr) (n cap p k : Nat) (x y : Int) (l : List Int) (hx : x = p) (hy : y = k) (hl : l.length = n) (hc : n ≤ cap) (hn : n ≤ 1000000) (hk : k = 4 ∨ k = 8) (hp : p + k ≤ n) (h : Bytes w a l) :
    Calls Tryd.prog 74 #[.slice a n cap, .int .i64 x, .int .i64 y] w fun e w' => e = .returned (.tuple #[.int .u64 (rdN l p k), .int .i64 0]) ∧ ∃ q, w' = w.drewN q := by
  subst hx hy hl
  have hw : widB ((k : Nat) : Int) = true := by rcases hk with rfl | rfl <;> rfl
  have := numLe_any a cap l p k w (by unfold maxLen; omega) hc h
  obtain ⟨e1, e2, _⟩ := rd_yes l p k hw (by simp [insB]; omega)
  rw [e1, e2] at this
  simp only [cutOf, Int.toNat_natCast] at this
  exact this
def placesL (l : List Int) (n : Nat) : List Int := (List.range n).map fun i => rdN l (20 + 4 * i) 4
theorem placesL_snoc (l : List Int) (k : Nat) : placesL l (k + 1) = placesL l k ++ [rdN l (20 + 4 * k) 4] := by simp [placesL, List.range_succ]
theorem placesL_len (l : List Int) (k : Nat) : (placesL l k).length = k := by simp [placesL]
theorem placesL_take (l : List Int) (k n : Nat) (h : k ≤ n) : (placesL l n).take k = placesL l k := by
  unfold placesL
  rw [← List.map_take, List.take_range, Nat.min_eq_left h]
/-- May it be a head? -/
structure HeadOk (l : List Int) : Prop where
  word : l.take 8 = headW
  sum : rdN l 508 4 = crcL (l.take 508)
  few : 1 ≤ rdN l 16 4
  many : rdN l 16 4 ≤ 64
  once : (placesL l (rdN l 16 4).toNat).Nodup
set_option maxRecDepth 100000 in
set_option maxHeartbeats 4000000 in
theorem readHead_any (w : World) (a : Option Addr) (cap : Nat) (l : List Int) (hl : l.length = 512) (hc : 512 ≤ cap) (h : Bytes w a l) (hT : Tab w) :
    Calls Tryd.prog 48 #[.slice a 512 cap] w fun e w' => ((HeadOk l ∧ ∃ v, e = .returned (.tuple #[.int .u64 (rdN l 8 8), v, .bool true]) ∧ w'.ownsRow w.heap.size 3 1 v (rdN l 16 4).toNat (ints (placesL l (rdN l 16 4).toNat))) ∨ (¬ HeadOk l ∧ e = .returned (.tuple #[.int .u64 0, .slice none 0 0, .bool false]))) ∧ Below w.heap.size w w' := by
  have kc := fun (w : World) (C : Array Value) (n c : Nat) => Lib.run_convert_bytes_const (P := Tryd.prog) w 27 5 C n c Tryd.underlying27 Tryd.underlying5
  have hI := h.isB
  have HH := hid h
  have HI := hid hI
  have HT := hid hT
  have HL := hid hl
  have HC1 := hid (le_at w a 512 cap 508 4 508 4 l rfl rfl hl hc (by omega) (.inl rfl) (by omega) h)
  have hb508 := rdN_bd l 508 4 hI (by omega)
  obtain ⟨sm, hsm⟩ : ∃ sm, sm = rdN l 508 4 := ⟨_, rfl⟩
  rw [← hsm] at hb508 HC1
  have HSM := hid hsm
  have hsm0 := hb508.1
  have hsm1 : sm < 4294967296 := by have := hb508.2; omega
  clear h hI hT hl hsm hb508
  go_enter Tryd.func48, Tryd.ntmps48
  go_wp2_with fail
  refine HC1.out.mono ?_
  rintro e w1 ⟨rfl, q1, hw1⟩
  have HB1 : Hid (Below w.heap.size w w1) := hid (by rw [hw1]; exact below_drewN (Below.refl _ _) _)
  clear hw1 HC1
  obtain ⟨W2, hW2⟩ : ∃ W2, W2 = w1.alloc (.cells #[.int .u8 71, .int .u8 82, .int .u8 78, .int .u8 72, .int .u8 69, .int .u8 65, .int .u8 68, .int .u8 49] 5 (8, 9)) := ⟨_, rfl⟩
  have hb2 : Below w1.heap.size w1 W2 := by rw [hW2]; exact (Below.refl _ _).alloc (Nat.le_refl _) _
  have hy2 : By W2 (New w1) (some ⟨w1.heap.size, 0, none⟩) headW := by rw [hW2]; exact by_const w1 headW (8, 9) headW_isB
  have HB2 : Hid (Below w.heap.size w W2) := hid (HB1.out.trans (hb2.mono HB1.out.size))
  have HC2 := hid (HasPrefix_any W2 a (some ⟨w1.heap.size, 0, none⟩) 512 8 cap 8 l headW HL.out rfl (by omega) hc (by omega) (HH.out.later HB2.out) hy2.bytes)
  clear hb2 hy2
  by_cases hpre : l.take 8 = headW
  · rw [decide_eq_true hpre] at HC2
    have HPRE := hid hpre
    clear hpre
    have hcut := cutH_run a 512 cap 508 (by omega) W2
    obtain ⟨W3, hW3⟩ : ∃ W3, W3 = W2.alloc (.cells #[.slice a 508 cap] 27) := ⟨_, rfl⟩
    have hb3 : Below W2.heap.size W2 W3 := by rw [hW3]; exact (Below.refl _ _).alloc (Nat.le_refl _) _
    have HB3 : Hid (Below w.heap.size w W3) := hid (HB2.out.trans (hb3.mono HB2.out.size))
    have HC3 := crc1 W2 a 508 cap 1 (l.take 508) (by rw [List.length_take, HL.out]; rfl) (by omega) ((HH.out.later HB2.out).take 508) (HT.out.later HB2.out)
    rw [← hW3] at HC3
    replace HC3 := hid HC3
    have hcb := crcL_bd (l.take 508) (fun x hx => HI.out x (List.mem_of_mem_take hx))
    obtain ⟨C, hC⟩ : ∃ C, C = crcL (l.take 508) := ⟨_, rfl⟩
    rw [← hC] at hcb HC3
    have HCC := hid hC
    have hcb0 := hcb.1
    have hcb1 := hcb.2
    clear hcb hC hb3
    by_cases hsum : sm = C
    · have HSUM := hid hsum
      have hneq : (sm != C) = false := by simp [hsum]
      clear hsum
      have HC4 := fun W hb => le_at W a 512 cap 16 4 16 4 l rfl rfl HL.out hc (by omega) (.inl rfl) (by omega) (HH.out.later (w' := W) hb)
      have hb16 := rdN_bd l 16 4 HI.out (by omega)
      obtain ⟨n0, hn0⟩ : ∃ n0, n0 = rdN l 16 4 := ⟨_, rfl⟩
      rw [← hn0] at hb16 HC4
      replace HC4 := hid HC4
      have HN0 := hid hn0
      have hn00 := hb16.1
      have hn01 : n0 < 4294967296 := by have := hb16.2; omega
      clear hn0 hb16
      go_wp2_with fail
      rw [← hW2]
      clear hW2
      refine HC2.out.mono ?_
      rintro e w4 ⟨rfl, hw4⟩
      rw [hw4]
      clear hw4 HC2
      go_wp2_with fail
      rw [← hW3]
      clear hW3
      refine HC3.out.mono ?_
      rintro e w4 ⟨rfl, hw4⟩
      rw [hw4]
      clear hw4 HC3 hcut
      go_wp2_with fail
      refine (HC4.out W3 HB3.out).mono ?_
      rintro e w5 ⟨rfl, q5, hw5⟩
      have HB5 : Hid (Below w.heap.size w w5) := hid (by rw [hw5]; exact below_drewN HB3.out _)
      clear hw5 HC4
      by_cases hlow : n0 < 1
      · go_wp2
        refine bodyPost_ret (results_tmp3 rfl _ _ _) rfl ⟨.inr ⟨fun hk => ?_, rfl⟩, HB5.out⟩
        have := hk.few
        rw [← HN0.out] at this
        omega
      · by_cases hhi : 64 < n0
        · go_wp2
          refine bodyPost_ret (results_tmp3 rfl _ _ _) rfl ⟨.inr ⟨fun hk => ?_, rfl⟩, HB5.out⟩
          have := hk.many
          rw [← HN0.out] at this
          omega
        · obtain ⟨n, rfl⟩ := Int.eq_ofNat_of_zero_le hn00
          have HNN : Hid ((rdN l 16 4).toNat = n) := hid (by rw [← HN0.out]; simp)
          have hn64 : n ≤ 64 := by omega
          have hn1 : 1 ≤ n := by omega
          clear hn00 hn01
          go_wp2
          go_loopw [9, 47] (fun v z wr => ∃ k : Nat, k ≤ n ∧ z = .int .i64 k ∧ wr.ownsRow w.heap.size 3 1 v k (ints (placesL l k)) ∧ (placesL l k).Nodup ∧ Below w.heap.size w wr) (fun _ z _ => n - (RowKit.intOf z).toNat)
          case atStart => exact ⟨0, Nat.zero_le _, rfl, ⟨rfl, .inl ⟨rfl, rfl⟩⟩, by simp [placesL], HB5.out⟩
          case round =>
            obtain ⟨k, hk, rfl, hrow, hnd, hb⟩ := hrel
            have HROW := hid hrow
            have HND := hid hnd
            have HB := hid hb
            obtain ⟨a9, c9, e9⟩ := owns_slice hrow
            subst e9
            clear hrow hnd HB5 HB3 HB2 HB1
            by_cases hlt : k < n
            · have hki : (k : Int) < n := by omega
              have HC6 := le_at wr a 512 cap (20 + 4 * k) 4 (20 + 4 * (k : Int)) 4 l (by omega) rfl HL.out hc (by omega) (.inl rfl) (by omega) (HH.out.later hb)
              have hbp := rdN_bd l (20 + 4 * k) 4 HI.out (by omega)
              have HPS := hid (placesL_snoc l k)
              have HPT := hid (placesL_take l (k + 1) n (by omega))
              obtain ⟨x, hx⟩ : ∃ x, x = rdN l (20 + 4 * k) 4 := ⟨_, rfl⟩
              rw [← hx] at hbp HC6 HPS
              replace HC6 := hid HC6
              have hx0 := hbp.1
              have hx1 : x < 4294967296 := by have := hbp.2; omega
              have HPL := hid (placesL_len l k)
              clear hb hbp hx
              go_wp2_with fail
              refine HC6.out.mono ?_
              rintro e w7 ⟨rfl, q7, hw7⟩
              have HB7 : Hid (Below w.heap.size w w7) := hid (by rw [hw7]; exact below_drewN HB.out _)
              have HROW7 : Hid (w7.ownsRow w.heap.size 3 1 (.slice a9 k c9) k (ints (placesL l k))) := hid (by rw [hw7]; exact HROW.out)
              clear hw7 HC6
              have hcc := hid (Contains_any w7 (.slice a9 k c9) (placesL l k) x w.heap.size (by rw [HPL.out]; exact HROW7.out) (by rw [HPL.out]; omega))
              by_cases hm : x ∈ placesL l k
              · have HM := hid hm
                rw [decide_eq_true hm] at hcc
                clear hm
                go_wp2_with (go_at_call 71; refine hcc.out.mono ?_; rintro e w8 ⟨rfl, hw8⟩; rw [hw8]; clear hw8)
                refine bodyPost_ret (results_tmp3 rfl _ _ _) rfl ⟨.inr ⟨fun hk => ?_, rfl⟩, HB7.out⟩
                have h1 := hk.once
                rw [HNN.out] at h1
                have h2 := List.Nodup.sublist (List.take_sublist (k + 1) _) h1
                rw [HPT.out, HPS.out, List.nodup_append] at h2
                exact h2.2.2 x HM.out x (by simp) rfl
              · have HM := hid hm
                rw [decide_eq_false hm] at hcc
                clear hm
                obtain ⟨a4, n4, c4, w4, hap, hn4, ho, hmo⟩ := push_own w7 w.heap.size (.slice a9 k c9) (placesL l k) (by rw [HPL.out]; exact HROW7.out) HB7.out.size x (by rw [HPL.out]; omega)
                have HO := hid ho
                have HN4 := hid hn4
                have HB4 : Hid (Below w.heap.size w w4) := hid (hmo.to_below HB7.out HB7.out.size (fun g hg => (owns_lt HROW7.out hg).2))
                clear hmo hn4 ho
                go_wp2_with (first | (go_at_call 71; refine hcc.out.mono ?_; rintro e w2 ⟨rfl, hw2⟩; rw [hw2]; clear hw2) | (at_builtin; refine wpList_append_run rfl _ _ 37 rfl rfl rfl hap ?_))
                go_roundw
                case rel =>
                  refine ⟨k + 1, by omega, by go_num, ?_, ?_, HB4.out⟩
                  · rw [HPS.out]
                    have := HO.out
                    rw [List.length_append, HPL.out] at this
                    exact this
                  · rw [HPS.out, List.nodup_append]
                    refine ⟨HND.out, by simp, fun y hy z hz => ?_⟩
                    simp at hz
                    subst hz
                    exact fun e => HM.out (e ▸ hy)
                case measure => simp [RowKit.intOf]; omega
            · have hki : ¬ ((k : Int) < n) := by omega
              obtain rfl : k = n := by omega
              have HC8 := hid (le_at wr a 512 cap 8 8 8 8 l rfl rfl HL.out hc (by omega) (.inr rfl) (by omega) (HH.out.later hb))
              clear hb
              go_wp2_with fail
              refine HC8.out.mono ?_
              rintro e w9 ⟨rfl, q9, hw9⟩
              have HB9 : Hid (Below w.heap.size w w9) := hid (by rw [hw9]; exact below_drewN HB.out _)
              have HROW9 : Hid (w9.ownsRow w.heap.size 3 1 (.slice a9 k c9) k (ints (placesL l k))) := hid (by rw [hw9]; exact HROW.out)
              clear hw9 HC8
              go_wp2
              refine bodyPost_ret (results_tmp3 rfl _ _ _) rfl ⟨.inl ⟨⟨HPRE.out, ?_, ?_, ?_, ?_⟩, _, rfl, ?_⟩, HB9.out⟩
              · rw [← HSM.out, ← HCC.out]; exact HSUM.out
              · rw [← HN0.out]; omega
              · rw [← HN0.out]; omega
              · rw [HNN.out]; exact HND.out
              · rw [HNN.out]; exact HROW9.out
    · have HSUM := hid hsum
      have hneq : (sm != C) = true := by simpa using hsum
      clear hsum
      go_wp2_with fail
      rw [← hW2]
      clear hW2
      refine HC2.out.mono ?_
      rintro e w4 ⟨rfl, hw4⟩
      rw [hw4]
      clear hw4 HC2
      go_wp2_with fail
      rw [← hW3]
      clear hW3
      refine HC3.out.mono ?_
      rintro e w4 ⟨rfl, hw4⟩
      rw [hw4]
      clear hw4 HC3 hcut
      go_wp2
      refine bodyPost_ret (results_tmp3 rfl _ _ _) rfl ⟨.inr ⟨fun hk => ?_, rfl⟩, HB3.out⟩
      have := hk.sum
      rw [← HSM.out, ← HCC.out] at this
      exact HSUM.out this
  · rw [decide_eq_false hpre] at HC2
    have HPRE := hid hpre
    clear hpre
    go_wp2_with fail
    rw [← hW2]
    clear hW2
    refine HC2.out.mono ?_
    rintro e w4 ⟨rfl, hw4⟩
    rw [hw4]
    clear hw4 HC2
    go_wp2
    exact bodyPost_ret (results_tmp3 rfl _ _ _) rfl ⟨.inr ⟨fun hk => HPRE.out hk.word, rfl⟩, HB2.out⟩
end Go.Proofs.YtoifeioijoancaaDoor
