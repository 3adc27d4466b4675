/- Load. -/
import Derived.Test.YtgcaidjppcjjeaaGreatDoorIeI
namespace Go.Proofs.YtgcaidjppcjjeaaGreatDoor
open Go.RowKit Go.Maps
set_option linter.unusedVariables false
variable {w w' : World} {pv n N : Nat} {S S' T : Nat → Prop} {i : Int} {base : Value} {P P' : Int → Option (List Int)} {bc c c' : Nat → List Int}
set_option maxRecDepth 100000 in
set_option maxHeartbeats 2000000 in
theorem Load_ok (h : Dw w pv S N i base T bc n P c) (k : Nat) (hk : 1 ≤ k) (hk2 : (k : Int) < i) (T0 A B : Nat) (hT : planT N = (T0 : Int)) (hA : T0 + k / 4 = A) (hB : k % 4 * 128 = B) (hAN : A < N) (hk3 : k < 1000000) (hT2 : T0 < 1000000) :
    Calls Tryz.prog 15 #[ptrV pv, n64 k] w fun e w' => e = .returned (.tuple #[.agg (decI (((c A).drop B).take 128)), .nilIface]) ∧ Below w.heap.size w w' := by
  obtain ⟨W1, hW1⟩ : ∃ W, W = w.alloc (.cells #[.int .i64 0, .int .i64 0, .int .i64 0, .int .u32 0, .int .u32 0, .int .u32 0, .int .u64 0, .int .u64 0, .int .u32 0, .int .u32 0, .int .u32 0, .int .u32 0, .int .u32 0, .int .u32 0, .int .i64 0, .int .i64 0, .int .i64 0, .int .i64 0, .int .i64 0, .int .i64 0, .int .i64 0, .int .i64 0, .int .i64 0] 39) := ⟨_, rfl⟩
  have b1 : Below w.heap.size w W1 := by rw [hW1]; exact (Below.refl _ _).alloc (Nat.le_refl _) _
  have h1 : W1.heap[w.heap.size]? = some (.cells #[.int .i64 0, .int .i64 0, .int .i64 0, .int .u32 0, .int .u32 0, .int .u32 0, .int .u64 0, .int .u64 0, .int .u32 0, .int .u32 0, .int .u32 0, .int .u32 0, .int .u32 0, .int .u32 0, .int .i64 0, .int .i64 0, .int .i64 0, .int .i64 0, .int .i64 0, .int .i64 0, .int .i64 0, .int .i64 0, .int .i64 0] 39 (0, 0)) := by rw [hW1]; exact alloc_new w _
  have s1 : W1.heap.size = w.heap.size + 1 := by rw [hW1]; simp
  have HN := hid (isNumber_yes (h.later b1).v k hk hk2)
  have HD := hid h
  have HPL : Hid (∀ W, Below w.heap.size w W → Calls Tryz.prog 59 #[ptrV pv, n64 k] W fun e w' => e = .returned (.tuple #[n64 A, n64 B]) ∧ Below W.heap.size W w') := hid (fun W hb => by rw [← hA, ← hB]; exact placeOf_any (h.later hb).v k hk3 T0 hT hT2)
  have HAN := hid hAN
  have hB2 : B ≤ 384 := by omega
  have e1 : IntKind.i64.wrap ((B : Int) + 128) = ((B + 128 : Nat) : Int) := by rw [IntWalk.i64_in _ (by omega)]; omega
  have HL : Hid ((c A).length = 512 ∧ ∀ y ∈ c A, IsB y) := hid ⟨h.len A hAN, h.isB A hAN⟩
  obtain ⟨Q, hQ⟩ : ∃ Q, Q = ((c A).drop B).take 128 := ⟨_, rfl⟩
  obtain ⟨R, hR⟩ : ∃ R, R = decI Q := ⟨_, rfl⟩
  rw [← hQ, ← hR]
  have HR := hid hR
  have HQ := hid hQ
  have B1 := hid b1
  obtain ⟨zi, hzi⟩ : ∃ zi, zi = (#[.int .i64 0, .int .i64 0, .int .i64 0, .int .u32 0, .int .u32 0, .int .u32 0, .int .u64 0, .int .u64 0, .int .u32 0, .int .u32 0, .int .u32 0, .int .u32 0, .int .u32 0, .int .u32 0, .int .i64 0, .int .i64 0, .int .i64 0, .int .i64 0, .int .i64 0, .int .i64 0, .int .i64 0, .int .i64 0, .int .i64 0] : Array Value) := ⟨_, rfl⟩
  have HZI : Hid (zi.size = 23) := hid (by rw [hzi]; rfl)
  rw [← hzi] at h1
  have H1 := hid h1
  have S1 := hid s1
  have HRS : Hid (R.size = 23 ∧ R.all (·.oneCell') = true) := hid ⟨by rw [hR]; rfl, by rw [hR]; exact decI_one _⟩
  clear hzi h hk hk2 hT hA hB hAN hk3 hT2 hR hQ b1 h1 s1
  go_enter Tryz.func15, Tryz.ntmps15
  go_wp2_with (first | (rw [← hW1]; clear hW1))
  refine HN.out.mono ?_
  rintro e w1 ⟨rfl, hb1⟩
  have HB1 := hid (B1.out.trans (hb1.mono B1.out.size))
  have A1 := hid hb1
  have HP1 := hid (HPL.out w1 HB1.out)
  clear hb1 HN HPL
  go_wp2_with fail
  refine HP1.out.mono ?_
  rintro e w2 ⟨rfl, hb2⟩
  have A2 := hid (A1.out.trans (hb2.mono A1.out.size))
  have HB2 := hid (HB1.out.trans (hb2.mono HB1.out.size))
  have HG := hid ((HD.out.later HB2.out).Get A HAN.out)
  clear hb2 HP1 HB1
  go_wp2_with fail
  refine HG.out.mono ?_
  rintro e w3 ⟨g, c3, rfl, ho, hb3⟩
  have A3 := hid (A2.out.trans (hb3.mono A2.out.size))
  have HB3 := hid (HB2.out.trans (hb3.mono HB2.out.size))
  obtain ⟨cur, hh, hc3, hc2, hcs, hcur, _⟩ := owns_block ho
  have hQl : Q.length = 128 := by rw [HQ.out, List.length_take, List.length_drop, HL.out.1]; omega
  have hyQ : By w3 (fun _ => True) (some ⟨g, B, none⟩) Q := by
    refine ⟨fun y hy => ?_, fun _ => ⟨g, B, cur, _, rfl, trivial, hh, fun j hj => ?_⟩⟩
    · rw [HQ.out] at hy
      exact HL.out.2 y (List.mem_of_mem_drop (List.mem_of_mem_take hy))
    · rw [hQl] at hj
      rw [hcur (B + j) (by omega), u8s_get (by rw [HL.out.1]; omega), HQ.out, List.getD_eq_getElem?_getD, List.getD_eq_getElem?_getD, List.getElem?_take, if_pos hj, List.getElem?_drop]
  have HE := hid (decoded_any w3 (some ⟨g, B, none⟩) (c3 - B) Q hQl (by omega) hyQ)
  rw [← HR.out] at HE
  clear hb3 HG HB2 ho hh hc2 hcs hcur hQl hyQ
  have q1 : ¬ B + 128 = B := by omega
  have q2 : B + 128 - B = 128 := by omega
  have q3 : B ≤ B + 128 := by omega
  have q4 : ((B : Int) ≤ ((B + 128 : Nat) : Int)) := by omega
  have q5 : (((B + 128 : Nat) : Int) ≤ (c3 : Int)) := by omega
  have q6 : ¬ c3 = B := by omega
  go_wp2_with fail
  refine HE.out.mono ?_
  rintro e w4 ⟨rfl, hb4⟩
  have HB4 := hid (HB3.out.trans (hb4.mono HB3.out.size))
  have A4 := hid (A3.out.trans (hb4.mono A3.out.size))
  have H4 : Hid (w4.heap[w.heap.size]? = some (.cells zi 39 (0, 0))) := hid (by rw [A4.out.block _ (by rw [S1.out]; omega)]; exact H1.out)
  clear hb4 HB3 HE
  go_wp2_with (first | (refine wpList_store_row rfl 39 _ _ rfl w.heap.size R rfl rfl 39 zi H4.out (by rw [HRS.out.1]; exact sizeIno) (by rw [HRS.out.1]; exact HZI.out) HRS.out.2 ?_))
  refine bodyPost_ret (results_ct rfl _ _ w.heap.size R _ _ rfl (setRow_heap w4 w.heap.size zi R _ _ H4.out) Tryz.underlying39 (by rw [HRS.out.1]; exact sizeIno)) rfl ⟨rfl, ?_⟩
  exact (setRow_mods w4 w.heap.size R).to_below HB4.out HB4.out.size (fun b hb => by subst hb; exact Nat.le_refl _)
end Go.Proofs.YtgcaidjppcjjeaaGreatDoor
