/- decoded: what an inode's bytes say. -/
import Derived.Test.YtaplmlldmhdhoaaGreatDoorIeB
namespace Go.Proofs.YtaplmlldmhdhoaaGreatDoor
open Go.RowKit Go.Maps
set_option linter.unusedVariables false

theorem rdN_drop (l : List Int) (p k : Nat) : rdN (l.drop p) 0 k = rdN l p k := by unfold rdN; rw [List.drop_zero]
theorem rdN_lt (l : List Int) (p k : Nat) (h : ∀ y ∈ l, IsB y) (hk : k ≤ 8) : 0 ≤ rdN l p k ∧ rdN l p k < 256 ^ k := rdN_bd l p k h hk
theorem setTime : (Tryz.prog.info? 28).map (·.size) = some 2 := by kernel_rfl
/-- What bytes say. -/
def decI (l : List Int) : Array Value := #[.int .i64 (rdN l 0 1), .int .i64 (rdN l 2 2), .int .i64 (rdN l 4 2), .int .u32 (rdN l 8 4), .int .u32 (rdN l 12 4), .int .u32 (rdN l 16 4), .int .u64 (rdN l 24 8), .int .u64 (rdN l 32 8), .int .u32 (rdN l 40 4), .int .u32 (rdN l 44 4), .int .u32 (rdN l 48 4), .int .u32 (rdN l 52 4), .int .u32 (rdN l 56 4), .int .u32 (rdN l 60 4), .int .i64 (rdN l 64 4), .int .i64 (rdN l 68 4), .int .i64 (rdN l 72 4), .int .i64 (rdN l 76 4), .int .i64 (rdN l 80 4), .int .i64 (rdN l 84 4), .int .i64 (rdN l 88 4), .int .i64 (rdN l 92 4), .int .i64 (rdN l 96 4)]
theorem decI_size (l : List Int) : (decI l).size = 23 := rfl
theorem decI_one (l : List Int) : (decI l).all (·.oneCell') = true := by simp [decI, Value.oneCell']
variable {w w' : World} {pr : Nat} {Y : Nat → Prop} {l : List Int}
set_option maxRecDepth 100000 in
set_option maxHeartbeats 2000000 in
theorem nextTime_any (h : RdS w pr Y l) (hl : 8 < l.length) (hl2 : l.length ≤ 512) (hI : ∀ y ∈ l, IsB y) :
    Calls Tryz.prog 60 #[ptrV pr] w fun e w' => e = .returned (.agg #[.int .u32 (rdN l 0 4), .int .u32 (rdN l 4 4)]) ∧ RdS w' pr Y (l.drop 8) ∧ Mods (fun g => g = pr) w w' := by
  obtain ⟨W1, hW1⟩ : ∃ W, W = w.alloc (.cells #[.int .u32 0, .int .u32 0] 28) := ⟨_, rfl⟩
  have b1 : Below w.heap.size w W1 := by rw [hW1]; exact (Below.refl _ _).alloc (Nat.le_refl _) _
  have h1 : W1.heap[w.heap.size]? = some (.cells #[.int .u32 0, .int .u32 0] 28 (0, 0)) := by rw [hW1]; exact alloc_new w _
  have hp := h.lt
  have hr1 : RdS W1 pr Y l := h.keep b1.size (fun g _ hl => b1.block g hl)
  have HN1 := hid (next_any hr1 4 (.inr (.inr (.inl rfl))) (by omega) hl2)
  have a1 := rdN_lt l 0 4 hI (by decide)
  have a2 := rdN_lt l 4 4 hI (by decide)
  have HN2 := hid (fun W (hr : RdS W pr Y (l.drop 4)) => next_any hr 4 (.inr (.inr (.inl rfl))) (by rw [List.length_drop]; omega) (by rw [List.length_drop]; omega))
  have HDD : Hid ((l.drop 4).drop 4 = l.drop 8) := hid (by rw [List.drop_drop])
  rw [rdN_drop] at HN2
  obtain ⟨A, hA⟩ : ∃ A, rdN l 0 4 = A := ⟨_, rfl⟩
  obtain ⟨B, hB⟩ : ∃ B, rdN l 4 4 = B := ⟨_, rfl⟩
  rw [hA] at HN1 a1 ⊢
  rw [hB] at HN2 a2 ⊢
  have u1 : IntKind.u32.wrap A = A := by rw [IntKind.wrap_u32]; omega
  have u2 : IntKind.u32.wrap B = B := by rw [IntKind.wrap_u32]; omega
  have H1 := hid h1
  have HB1 := hid b1
  have HP : Hid (pr < w.heap.size ∧ ¬ Y w.heap.size) := hid ⟨hp, fun e => by have := h.ylt e; omega⟩
  clear h h1 b1 hr1 hp hA hB a1 a2 hI hl hl2
  go_enter Tryz.func60, Tryz.ntmps60
  go_wp2_with (first | (rw [← hW1]; clear hW1))
  refine HN1.out.mono ?_
  rintro e w2 ⟨rfl, hr2, hm2⟩
  have HN2' := hid (HN2.out w2 hr2)
  have HM2 := hid hm2
  clear hr2 hm2 HN1 HN2
  go_wp2_with fail
  refine HN2'.out.mono ?_
  rintro e w3 ⟨rfl, hr3, hm3⟩
  rw [HDD.out] at hr3
  have hmm := HM2.out.tr hm3
  have h3 := (hmm.block w.heap.size (Array.getElem?_eq_some_iff.1 H1.out).1 (by have := HP.out.1; omega)).trans H1.out
  have k0 : w3.cell? ⟨w.heap.size, 0, none⟩ = some (.int .u32 0) := cell_of h3 rfl
  have k1 : w3.cell? ⟨w.heap.size, 1, none⟩ = some (.int .u32 0) := cell_of h3 rfl
  have f0 := froz_of h3 0
  have f1 := froz_of h3 1
  have H3 := hid h3
  have HR3 := hid hr3
  have HMM := hid hmm
  clear hr3 hm3 hmm h3 HN2'
  go_wp2_with fail
  have hF : ((w3.setCell ⟨w.heap.size, 0, none⟩ (.int .u32 A)).setCell ⟨w.heap.size, 1, none⟩ (.int .u32 B)).heap[w.heap.size]? = some (.cells #[.int .u32 A, .int .u32 B] 28 (0, 0)) := setc (setc H3.out 0 _) 1 _
  have hMF : Mods (fun g => g = w.heap.size) w3 ((w3.setCell ⟨w.heap.size, 0, none⟩ (.int .u32 A)).setCell ⟨w.heap.size, 1, none⟩ (.int .u32 B)) := ((Mods.refl (fun g => g = w.heap.size) w3).setCell _ 0 _ rfl).setCell _ 1 _ rfl
  refine bodyPost_ret (results_c rfl _ _ w.heap.size #[.int .u32 A, .int .u32 B] _ _ rfl hF Tryz.underlying28 setTime) rfl ⟨rfl, ?_, ?_⟩
  · exact HR3.out.mods hMF (fun g hg => by subst hg; exact ⟨HP.out.2, by have := HP.out.1; omega⟩)
  · exact ((Mods.of_below HB1.out).tr HMM.out).trans hMF (fun b hb => by subst hb; exact .inr (Nat.le_refl _))
end Go.Proofs.YtaplmlldmhdhoaaGreatDoor
