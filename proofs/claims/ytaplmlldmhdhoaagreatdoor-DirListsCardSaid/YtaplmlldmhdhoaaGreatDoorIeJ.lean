/- IeH, IeI, IeJ in one text. -/
import Derived.Test.YtaplmlldmhdhoaaGreatDoorIeG
/- What is read of an inode's bytes is the inode. -/
namespace Go.Proofs.YtaplmlldmhdhoaaGreatDoor
open Go.RowKit Go.Maps
set_option linter.unusedVariables false

theorem partsL_len (L : List (Nat × Int)) : (partsL L).length = (L.map (·.1)).sum := by
  induction L with
  | nil => rfl
  | cons q L ih =>
    show (bytesLe q.1 q.2 ++ partsL L).length = _
    rw [List.length_append, ih]
    simp [bytesLe]
def partsAll (y : Ino) : List (Nat × Int) := parts1 y ++ [(4, ((y.ptr 0 : Nat) : Int)), (4, ((y.ptr 1 : Nat) : Int)), (4, ((y.ptr 2 : Nat) : Int)), (4, ((y.ptr 3 : Nat) : Int)), (4, ((y.ptr 4 : Nat) : Int)), (4, ((y.ptr 5 : Nat) : Int)), (4, ((y.ptr 6 : Nat) : Int)), (4, ((y.ptr 7 : Nat) : Int)), (4, ((y.ptr 8 : Nat) : Int))]
theorem encI_all (y : Ino) : encI y = partsL (partsAll y) ++ List.replicate 28 0 := rfl
theorem fld (y : Ino) (k off m : Nat) (v : Int) (hk : (partsAll y)[k]? = some (m, v)) (ho : (((partsAll y).take k).map (·.1)).sum = off) : rdN (encI y) off m = v % 256 ^ m := by
  have hl : k < (partsAll y).length := (List.getElem?_eq_some_iff.1 hk).1
  have hg : (partsAll y)[k] = (m, v) := (List.getElem?_eq_some_iff.1 hk).2
  have e : partsAll y = (partsAll y).take k ++ ((m, v) :: (partsAll y).drop (k + 1)) := by
    conv => lhs; rw [← List.take_append_drop k (partsAll y)]
    rw [List.drop_eq_getElem_cons hl, hg]
  rw [encI_all, e, partsL_app]
  have e2 : partsL ((m, v) :: (partsAll y).drop (k + 1)) = bytesLe m v ++ partsL ((partsAll y).drop (k + 1)) := rfl
  rw [e2]
  unfold rdN
  have hlen : (partsL ((partsAll y).take k)).length = off := by rw [partsL_len]; exact ho
  rw [List.append_assoc, List.drop_append, List.drop_of_length_le (by omega), List.nil_append, hlen, Nat.sub_self, List.drop_zero, List.append_assoc, List.take_append_of_le_length (by simp [bytesLe]), List.take_of_length_le (by simp [bytesLe]), leOf_bytes]
set_option maxHeartbeats 4000000 in
theorem dec_enc (y : Ino) (h : InoFit y) : decI (encI y) = inoC y := by
  have e0 : rdN (encI y) 0 1 = y.ty := by rw [fld y 0 0 1 y.ty (by kernel_rfl) (by kernel_rfl)]; have := h.ty; exact Int.emod_eq_of_lt this.1 (by omega)
  have e2 : rdN (encI y) 2 2 = y.mode := by rw [fld y 2 2 2 y.mode (by kernel_rfl) (by kernel_rfl)]; have := h.mode; exact Int.emod_eq_of_lt this.1 (by omega)
  have e4 : rdN (encI y) 4 2 = y.nl := by rw [fld y 3 4 2 y.nl (by kernel_rfl) (by kernel_rfl)]; have := h.nl; exact Int.emod_eq_of_lt this.1 (by omega)
  have e8 : rdN (encI y) 8 4 = y.uid := by rw [fld y 5 8 4 y.uid (by kernel_rfl) (by kernel_rfl)]; have := h.uid; exact Int.emod_eq_of_lt this.1 (by omega)
  have e12 : rdN (encI y) 12 4 = y.gid := by rw [fld y 6 12 4 y.gid (by kernel_rfl) (by kernel_rfl)]; have := h.gid; exact Int.emod_eq_of_lt this.1 (by omega)
  have e16 : rdN (encI y) 16 4 = y.gen := by rw [fld y 7 16 4 y.gen (by kernel_rfl) (by kernel_rfl)]; have := h.gen; exact Int.emod_eq_of_lt this.1 (by omega)
  have e24 : rdN (encI y) 24 8 = y.size := by rw [fld y 9 24 8 y.size (by kernel_rfl) (by kernel_rfl)]; have := h.size; exact Int.emod_eq_of_lt this.1 (by omega)
  have e32 : rdN (encI y) 32 8 = y.verf := by rw [fld y 10 32 8 y.verf (by kernel_rfl) (by kernel_rfl)]; have := h.verf; exact Int.emod_eq_of_lt this.1 (by omega)
  have e40 : rdN (encI y) 40 4 = y.a0 := by rw [fld y 11 40 4 y.a0 (by kernel_rfl) (by kernel_rfl)]; have := h.a0; exact Int.emod_eq_of_lt this.1 (by omega)
  have e44 : rdN (encI y) 44 4 = y.a1 := by rw [fld y 12 44 4 y.a1 (by kernel_rfl) (by kernel_rfl)]; have := h.a1; exact Int.emod_eq_of_lt this.1 (by omega)
  have e48 : rdN (encI y) 48 4 = y.m0 := by rw [fld y 13 48 4 y.m0 (by kernel_rfl) (by kernel_rfl)]; have := h.m0; exact Int.emod_eq_of_lt this.1 (by omega)
  have e52 : rdN (encI y) 52 4 = y.m1 := by rw [fld y 14 52 4 y.m1 (by kernel_rfl) (by kernel_rfl)]; have := h.m1; exact Int.emod_eq_of_lt this.1 (by omega)
  have e56 : rdN (encI y) 56 4 = y.c0 := by rw [fld y 15 56 4 y.c0 (by kernel_rfl) (by kernel_rfl)]; have := h.c0; exact Int.emod_eq_of_lt this.1 (by omega)
  have e60 : rdN (encI y) 60 4 = y.c1 := by rw [fld y 16 60 4 y.c1 (by kernel_rfl) (by kernel_rfl)]; have := h.c1; exact Int.emod_eq_of_lt this.1 (by omega)
  have e64 : rdN (encI y) 64 4 = ((y.ptr 0 : Nat) : Int) := by rw [fld y 17 64 4 ((y.ptr 0 : Nat) : Int) (by kernel_rfl) (by kernel_rfl)]; have := h.ptr 0 (by decide); exact Int.emod_eq_of_lt (by omega) (by omega)
  have e68 : rdN (encI y) 68 4 = ((y.ptr 1 : Nat) : Int) := by rw [fld y 18 68 4 ((y.ptr 1 : Nat) : Int) (by kernel_rfl) (by kernel_rfl)]; have := h.ptr 1 (by decide); exact Int.emod_eq_of_lt (by omega) (by omega)
  have e72 : rdN (encI y) 72 4 = ((y.ptr 2 : Nat) : Int) := by rw [fld y 19 72 4 ((y.ptr 2 : Nat) : Int) (by kernel_rfl) (by kernel_rfl)]; have := h.ptr 2 (by decide); exact Int.emod_eq_of_lt (by omega) (by omega)
  have e76 : rdN (encI y) 76 4 = ((y.ptr 3 : Nat) : Int) := by rw [fld y 20 76 4 ((y.ptr 3 : Nat) : Int) (by kernel_rfl) (by kernel_rfl)]; have := h.ptr 3 (by decide); exact Int.emod_eq_of_lt (by omega) (by omega)
  have e80 : rdN (encI y) 80 4 = ((y.ptr 4 : Nat) : Int) := by rw [fld y 21 80 4 ((y.ptr 4 : Nat) : Int) (by kernel_rfl) (by kernel_rfl)]; have := h.ptr 4 (by decide); exact Int.emod_eq_of_lt (by omega) (by omega)
  have e84 : rdN (encI y) 84 4 = ((y.ptr 5 : Nat) : Int) := by rw [fld y 22 84 4 ((y.ptr 5 : Nat) : Int) (by kernel_rfl) (by kernel_rfl)]; have := h.ptr 5 (by decide); exact Int.emod_eq_of_lt (by omega) (by omega)
  have e88 : rdN (encI y) 88 4 = ((y.ptr 6 : Nat) : Int) := by rw [fld y 23 88 4 ((y.ptr 6 : Nat) : Int) (by kernel_rfl) (by kernel_rfl)]; have := h.ptr 6 (by decide); exact Int.emod_eq_of_lt (by omega) (by omega)
  have e92 : rdN (encI y) 92 4 = ((y.ptr 7 : Nat) : Int) := by rw [fld y 24 92 4 ((y.ptr 7 : Nat) : Int) (by kernel_rfl) (by kernel_rfl)]; have := h.ptr 7 (by decide); exact Int.emod_eq_of_lt (by omega) (by omega)
  have e96 : rdN (encI y) 96 4 = ((y.ptr 8 : Nat) : Int) := by rw [fld y 25 96 4 ((y.ptr 8 : Nat) : Int) (by kernel_rfl) (by kernel_rfl)]; have := h.ptr 8 (by decide); exact Int.emod_eq_of_lt (by omega) (by omega)
  unfold decI inoC
  simp only [e0, e2, e4, e8, e12, e16, e24, e32, e40, e44, e48, e52, e56, e60, e64, e68, e72, e76, e80, e84, e88, e92, e96]
theorem inoC_is (y : Ino) : InoIs (inoC y) y.size y.ptr := ⟨rfl, rfl, fun j hj => by
  rcases (show j = 0 ∨ j = 1 ∨ j = 2 ∨ j = 3 ∨ j = 4 ∨ j = 5 ∨ j = 6 ∨ j = 7 ∨ j = 8 by omega) with rfl | rfl | rfl | rfl | rfl | rfl | rfl | rfl | rfl <;> rfl, by simp [inoC, Value.oneCell']⟩
end Go.Proofs.YtaplmlldmhdhoaaGreatDoor

/- Load, Save. -/
namespace Go.Proofs.YtaplmlldmhdhoaaGreatDoor
open Go.RowKit Go.Maps
set_option linter.unusedVariables false

theorem fieldS1 (x0 x1 x2 x3 x4 x5 x6 x7 : Value) (W : World) : (Instr.field 115 (.agg #[x0, x1, x2, x3, x4, x5, x6, x7]) 1).run Tryz.prog W = .ok x1 W := by kernel_rfl
theorem fieldS6 (x0 x1 x2 x3 x4 x5 x6 x7 : Value) (W : World) : (Instr.field 115 (.agg #[x0, x1, x2, x3, x4, x5, x6, x7]) 6).run Tryz.prog W = .ok x6 W := by kernel_rfl
variable {w w' : World} {pv n N : Nat} {S S' T : Nat → Prop} {i : Int} {base : Value} {P P' : Int → Option (List Int)} {bc c c' : Nat → List Int}
set_option maxRecDepth 100000 in
set_option maxHeartbeats 1000000 in
theorem isNumber_yes (h : Vw w pv S N i base n P) (k : Nat) (hk : 1 ≤ k) (hk2 : (k : Int) < i) :
    Calls Tryz.prog 31 #[ptrV pv, n64 k] w fun e w' => e = .returned (.bool true) ∧ Below w.heap.size w w' := by
  have HS := hid (Super_vw h)
  have f1 := fieldS1
  have hk' : (1 : Int) ≤ k := by omega
  clear h
  go_enter Tryz.func31, Tryz.ntmps31
  go_wp2_with fail
  refine HS.out.mono ?_
  rintro e w1 ⟨rfl, hb1⟩
  have HB := hid hb1
  clear hb1 HS
  go_wp2
  go_ret
  exact ⟨rfl, HB.out⟩
set_option maxRecDepth 100000 in
set_option maxHeartbeats 1000000 in
theorem placeOf_any (h : Vw w pv S N i base n P) (k : Nat) (hk : k < 1000000) (T0 : Nat) (hT : planT N = (T0 : Int)) (hT2 : T0 < 1000000) :
    Calls Tryz.prog 32 #[ptrV pv, n64 k] w fun e w' => e = .returned (.tuple #[n64 (T0 + k / 4 : Nat), n64 (k % 4 * 128 : Nat)]) ∧ Below w.heap.size w w' := by
  have HS := hid (Super_vw h)
  rw [hT] at HS
  have f6 := fieldS6
  have e1 : (k : Int).tdiv 4 = ((k / 4 : Nat) : Int) := by rw [Int.tdiv_eq_ediv_of_nonneg (by omega)]; omega
  have e2 : (k : Int).tmod 4 = ((k % 4 : Nat) : Int) := by rw [Int.tmod_eq_emod_of_nonneg (by omega)]; omega
  have e3 : IntKind.i64.wrap ((k / 4 : Nat) : Int) = ((k / 4 : Nat) : Int) := IntWalk.i64_in _ (by omega)
  have e4 : IntKind.i64.wrap ((T0 : Int) + ((k / 4 : Nat) : Int)) = ((T0 + k / 4 : Nat) : Int) := by rw [IntWalk.i64_in _ (by omega)]; omega
  have e5 : IntKind.i64.wrap (((k % 4 : Nat) : Int) * 128) = ((k % 4 * 128 : Nat) : Int) := by rw [IntWalk.i64_in _ (by omega)]; omega
  obtain ⟨q, hq⟩ : ∃ q, k / 4 = q := ⟨_, rfl⟩
  obtain ⟨r, hr⟩ : ∃ r, k % 4 = r := ⟨_, rfl⟩
  rw [hq] at e1 e3 e4 ⊢
  rw [hr] at e2 e5 ⊢
  obtain ⟨A, hA⟩ : ∃ A, T0 + q = A := ⟨_, rfl⟩
  obtain ⟨B, hB⟩ : ∃ B, r * 128 = B := ⟨_, rfl⟩
  rw [hA] at e4 ⊢
  rw [hB] at e5 ⊢
  clear h hq hr hA hB hT
  go_enter Tryz.func32, Tryz.ntmps32
  go_wp2_with fail
  refine HS.out.mono ?_
  rintro e w1 ⟨rfl, hb1⟩
  have HB := hid hb1
  clear hb1 HS
  go_wp2
  go_ret2
  exact ⟨rfl, HB.out⟩
end Go.Proofs.YtaplmlldmhdhoaaGreatDoor

/- Load. -/
namespace Go.Proofs.YtaplmlldmhdhoaaGreatDoor
open Go.RowKit Go.Maps
set_option linter.unusedVariables false
variable {w w' : World} {pv n N : Nat} {S S' T : Nat → Prop} {i : Int} {base : Value} {P P' : Int → Option (List Int)} {bc c c' : Nat → List Int}
set_option maxRecDepth 100000 in
set_option maxHeartbeats 2000000 in
theorem Load_ok (h : Dw w pv S N i base T bc n P c) (k : Nat) (hk : 1 ≤ k) (hk2 : (k : Int) < i) (T0 A B : Nat) (hT : planT N = (T0 : Int)) (hA : T0 + k / 4 = A) (hB : k % 4 * 128 = B) (hAN : A < N) (hk3 : k < 1000000) (hT2 : T0 < 1000000) :
    Calls Tryz.prog 15 #[ptrV pv, n64 k] w fun e w' => e = .returned (.tuple #[.agg (decI (((c A).drop B).take 128)), .nilIface]) ∧ Below w.heap.size w w' := by
  obtain ⟨W1, hW1⟩ : ∃ W, W = w.alloc (.cells #[.int .i64 0, .int .i64 0, .int .i64 0, .int .u32 0, .int .u32 0, .int .u32 0, .int .u64 0, .int .u64 0, .int .u32 0, .int .u32 0, .int .u32 0, .int .u32 0, .int .u32 0, .int .u32 0, .int .i64 0, .int .i64 0, .int .i64 0, .int .i64 0, .int .i64 0, .int .i64 0, .int .i64 0, .int .i64 0, .int .i64 0] 31) := ⟨_, rfl⟩
  have b1 : Below w.heap.size w W1 := by rw [hW1]; exact (Below.refl _ _).alloc (Nat.le_refl _) _
  have h1 : W1.heap[w.heap.size]? = some (.cells #[.int .i64 0, .int .i64 0, .int .i64 0, .int .u32 0, .int .u32 0, .int .u32 0, .int .u64 0, .int .u64 0, .int .u32 0, .int .u32 0, .int .u32 0, .int .u32 0, .int .u32 0, .int .u32 0, .int .i64 0, .int .i64 0, .int .i64 0, .int .i64 0, .int .i64 0, .int .i64 0, .int .i64 0, .int .i64 0, .int .i64 0] 31 (0, 0)) := by rw [hW1]; exact alloc_new w _
  have s1 : W1.heap.size = w.heap.size + 1 := by rw [hW1]; simp
  have HN := hid (isNumber_yes (h.later b1).v k hk hk2)
  have HD := hid h
  have HPL : Hid (∀ W, Below w.heap.size w W → Calls Tryz.prog 32 #[ptrV pv, n64 k] W fun e w' => e = .returned (.tuple #[n64 A, n64 B]) ∧ Below W.heap.size W w') := hid (fun W hb => by rw [← hA, ← hB]; exact placeOf_any (h.later hb).v k hk3 T0 hT hT2)
  have HAN := hid hAN
  have hB2 : B ≤ 384 := by omega
  have e1 : IntKind.i64.wrap ((B : Int) + 128) = ((B + 128 : Nat) : Int) := by rw [IntWalk.i64_in _ (by omega)]; omega
  have HL : Hid ((c A).length = 512 ∧ ∀ y ∈ c A, IsB y) := hid ⟨h.len A hAN, h.isB A hAN⟩
  obtain ⟨Q, hQ⟩ : ∃ Q, Q = ((c A).drop B).take 128 := ⟨_, rfl⟩
  obtain ⟨R, hR⟩ : ∃ R, R = decI Q := ⟨_, rfl⟩
  rw [← hQ, ← hR]
  have HR := hid hR
  have HQ := hid hQ
  have B1 := hid b1
  obtain ⟨zi, hzi⟩ : ∃ zi, zi = (#[.int .i64 0, .int .i64 0, .int .i64 0, .int .u32 0, .int .u32 0, .int .u32 0, .int .u64 0, .int .u64 0, .int .u32 0, .int .u32 0, .int .u32 0, .int .u32 0, .int .u32 0, .int .u32 0, .int .i64 0, .int .i64 0, .int .i64 0, .int .i64 0, .int .i64 0, .int .i64 0, .int .i64 0, .int .i64 0, .int .i64 0] : Array Value) := ⟨_, rfl⟩
  have HZI : Hid (zi.size = 23) := hid (by rw [hzi]; rfl)
  rw [← hzi] at h1
  have H1 := hid h1
  have S1 := hid s1
  have HRS : Hid (R.size = 23 ∧ R.all (·.oneCell') = true) := hid ⟨by rw [hR]; rfl, by rw [hR]; exact decI_one _⟩
  clear hzi h hk hk2 hT hA hB hAN hk3 hT2 hR hQ b1 h1 s1
  go_enter Tryz.func15, Tryz.ntmps15
  go_wp2_with (first | (rw [← hW1]; clear hW1))
  refine HN.out.mono ?_
  rintro e w1 ⟨rfl, hb1⟩
  have HB1 := hid (B1.out.trans (hb1.mono B1.out.size))
  have A1 := hid hb1
  have HP1 := hid (HPL.out w1 HB1.out)
  clear hb1 HN HPL
  go_wp2_with fail
  refine HP1.out.mono ?_
  rintro e w2 ⟨rfl, hb2⟩
  have A2 := hid (A1.out.trans (hb2.mono A1.out.size))
  have HB2 := hid (HB1.out.trans (hb2.mono HB1.out.size))
  have HG := hid ((HD.out.later HB2.out).Get A HAN.out)
  clear hb2 HP1 HB1
  go_wp2_with fail
  refine HG.out.mono ?_
  rintro e w3 ⟨g, c3, rfl, ho, hb3⟩
  have A3 := hid (A2.out.trans (hb3.mono A2.out.size))
  have HB3 := hid (HB2.out.trans (hb3.mono HB2.out.size))
  obtain ⟨cur, hh, hc3, hc2, hcs, hcur, _⟩ := owns_block ho
  have hQl : Q.length = 128 := by rw [HQ.out, List.length_take, List.length_drop, HL.out.1]; omega
  have hyQ : By w3 (fun _ => True) (some ⟨g, B, none⟩) Q := by
    refine ⟨fun y hy => ?_, fun _ => ⟨g, B, cur, _, rfl, trivial, hh, fun j hj => ?_⟩⟩
    · rw [HQ.out] at hy
      exact HL.out.2 y (List.mem_of_mem_drop (List.mem_of_mem_take hy))
    · rw [hQl] at hj
      rw [hcur (B + j) (by omega), u8s_get (by rw [HL.out.1]; omega), HQ.out, List.getD_eq_getElem?_getD, List.getD_eq_getElem?_getD, List.getElem?_take, if_pos hj, List.getElem?_drop]
  have HE := hid (decoded_any w3 (some ⟨g, B, none⟩) (c3 - B) Q hQl (by omega) hyQ)
  rw [← HR.out] at HE
  clear hb3 HG HB2 ho hh hc2 hcs hcur hQl hyQ
  have q1 : ¬ B + 128 = B := by omega
  have q2 : B + 128 - B = 128 := by omega
  have q3 : B ≤ B + 128 := by omega
  have q4 : ((B : Int) ≤ ((B + 128 : Nat) : Int)) := by omega
  have q5 : (((B + 128 : Nat) : Int) ≤ (c3 : Int)) := by omega
  have q6 : ¬ c3 = B := by omega
  go_wp2_with fail
  refine HE.out.mono ?_
  rintro e w4 ⟨rfl, hb4⟩
  have HB4 := hid (HB3.out.trans (hb4.mono HB3.out.size))
  have A4 := hid (A3.out.trans (hb4.mono A3.out.size))
  have H4 : Hid (w4.heap[w.heap.size]? = some (.cells zi 31 (0, 0))) := hid (by rw [A4.out.block _ (by rw [S1.out]; omega)]; exact H1.out)
  clear hb4 HB3 HE
  go_wp2_with (first | (refine wpList_store_row rfl 31 _ _ rfl w.heap.size R rfl rfl 31 zi H4.out (by rw [HRS.out.1]; exact sizeIno) (by rw [HRS.out.1]; exact HZI.out) HRS.out.2 ?_))
  refine bodyPost_ret (results_ct rfl _ _ w.heap.size R _ _ rfl (setRow_heap w4 w.heap.size zi R _ _ H4.out) Tryz.underlying31 (by rw [HRS.out.1]; exact sizeIno)) rfl ⟨rfl, ?_⟩
  exact (setRow_mods w4 w.heap.size R).to_below HB4.out HB4.out.size (fun b hb => by subst hb; exact Nat.le_refl _)
end Go.Proofs.YtaplmlldmhdhoaaGreatDoor
