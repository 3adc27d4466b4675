/- Tables of calls: boxes with keys, and the chapter's example. -/
import Derived.Test.YthgmghfegaemkaaQbH
namespace Go.Proofs.Ythgmghfegaemkaa
open Go.RowKit Go.Maps
set_option linter.unusedVariables false

/-- A key in a block of its own, beside a table's. -/
def KB (w : World) (S : Nat → Prop) (g : Nat) (K : Ky) : Prop := w.heap[g]? = some (.cells (kL K).toArray 33 (0, 0)) ∧ ¬ S g
section
variable {w w' : World} {S S' : Nat → Prop} {g : Nat} {K : Ky}
theorem KB.lt (h : KB w S g K) : g < w.heap.size := (Array.getElem?_eq_some_iff.1 h.1).1
theorem KB.kp (h : KB w S g K) (hk : Kp S w S' w') : KB w' S' g K := ⟨(hk.block h.lt h.2).trans h.1, hk.off h.lt h.2⟩
theorem KB.later (h : KB w S g K) (hb : Below w.heap.size w w') : KB w' S g K := ⟨(hb.block g h.lt).trans h.1, h.2⟩
end
theorem kOne (K : Ky) : (kL K).toArray.all (·.oneCell') = true := by simp [kL, Value.oneCell']
abbrev kZ : Array Value := #[.int .u32 0, .int .i64 0, .int .u32 0, .int .u32 0, .int .u32 0]
/-- A key is laid in a new block. -/
theorem box_one (w : World) (K : Ky) : ∃ W2 W3 g, w.heap.size = g ∧ W2 = w.alloc (.cells kZ 33) ∧ W2.heap[g]? = some (.cells kZ 33 (0, 0)) ∧ W3 = W2.setRow g (kL K).toArray ∧ W3.heap[g]? = some (.cells (kL K).toArray 33 (0, 0)) ∧ Below w.heap.size w W3 := by
  have b := below_alloc (Below.refl w.heap.size w) (Nat.le_refl _) (.cells kZ 33)
  have h2 := alloc_new w (.cells kZ 33)
  exact ⟨_, _, _, rfl, rfl, h2, rfl, setRow_heap _ _ _ _ _ _ h2, (setRow_mods _ _ _).to_below b b.size (fun y hy => by rw [hy]; exact Nat.le_refl _)⟩
/-- Two keys are laid in two new blocks. -/
theorem box_two (w : World) (K J : Ky) : ∃ W2 W3 W4 W5 g h, w.heap.size = g ∧ W2.heap.size = h ∧ W2 = w.alloc (.cells kZ 33) ∧ W3 = W2.alloc (.cells kZ 33) ∧ W3.heap[g]? = some (.cells kZ 33 (0, 0)) ∧ W4 = W3.setRow g (kL K).toArray ∧ W4.heap[h]? = some (.cells kZ 33 (0, 0)) ∧ W5 = W4.setRow h (kL J).toArray ∧ W5.heap[g]? = some (.cells (kL K).toArray 33 (0, 0)) ∧ W5.heap[h]? = some (.cells (kL J).toArray 33 (0, 0)) ∧ Below w.heap.size w W5 := by
  obtain ⟨W2, hW2⟩ : ∃ W, W = w.alloc (.cells kZ 33) := ⟨_, rfl⟩
  obtain ⟨W3, hW3⟩ : ∃ W, W = W2.alloc (.cells kZ 33) := ⟨_, rfl⟩
  have b2 : Below w.heap.size w W2 := by rw [hW2]; exact below_alloc (Below.refl _ _) (Nat.le_refl _) _
  have b23 : Below W2.heap.size W2 W3 := by rw [hW3]; exact below_alloc (Below.refl _ _) (Nat.le_refl _) _
  have h2 : W2.heap[w.heap.size]? = some (.cells kZ 33 (0, 0)) := by rw [hW2]; exact alloc_new w _
  have h3 : W3.heap[W2.heap.size]? = some (.cells kZ 33 (0, 0)) := by rw [hW3]; exact alloc_new W2 _
  have hl := (Array.getElem?_eq_some_iff.1 h2).1
  have h32 := (b23.block _ hl).trans h2
  have hne : W2.heap.size ≠ w.heap.size := by omega
  obtain ⟨W4, hW4⟩ : ∃ W, W = W3.setRow w.heap.size (kL K).toArray := ⟨_, rfl⟩
  have h4 : W4.heap[W2.heap.size]? = some (.cells kZ 33 (0, 0)) := by rw [hW4, setRow_other _ _ _ _ hne]; exact h3
  have h42 : W4.heap[w.heap.size]? = some (.cells (kL K).toArray 33 (0, 0)) := by rw [hW4]; exact setRow_heap _ _ _ _ _ _ h32
  have b3 := b2.trans (b23.mono b2.size)
  have b4 : Below w.heap.size w W4 := by rw [hW4]; exact (setRow_mods _ _ _).to_below b3 b3.size (fun y hy => by rw [hy]; exact Nat.le_refl _)
  exact ⟨W2, W3, W4, _, _, _, rfl, rfl, hW2, hW3, h32, hW4, h4, rfl, by rw [setRow_other _ _ _ _ (fun e => hne e.symm)]; exact h42, setRow_heap _ _ _ _ _ _ h4, (setRow_mods _ _ _).to_below b4 b4.size (fun y hy => by rw [hy]; exact b2.size)⟩
def kA : Ky := ⟨0, 0, 1, 0, 0⟩
def kB : Ky := ⟨0, 0, 2, 0, 0⟩
theorem ky_ok (a b c d e : Int) (ha : InU a) (hb : IsI b) (hc : InU c) (hd : InU d) (he : InU e) : Ky.Ok ⟨a, b, c, d, e⟩ := ⟨ha, hb, hc, hd, he⟩
theorem cell_fr (w : World) (c : Array Value) (t : TypeId) (fr : Nat × Nat) (i : Nat) (h : i < c.size) : (w.alloc (.cells c t fr)).cell? ⟨w.heap.size, i, none⟩ = some c[i] := new_cell w c t fr i h
theorem kA_ok : kA.Ok := ky_ok 0 0 1 0 0 (by unfold InU; omega) (isI_of (by omega) (by omega)) (by unfold InU; omega) (by unfold InU; omega) (by unfold InU; omega)
theorem kB_ok : kB.Ok := ky_ok 0 0 2 0 0 (by unfold InU; omega) (isI_of (by omega) (by omega)) (by unfold InU; omega) (by unfold InU; omega) (by unfold InU; omega)
set_option maxRecDepth 100000 in
set_option maxHeartbeats 2000000 in
theorem known18 (w : World) : Calls Try.prog 5 #[] w fun e w' => e = .returned (.bool true) ∧ Below w.heap.size w w' := by
  have HN := hid (dNew_yes w 1 (by omega) (by omega))
  go_enter Try.func5, Try.ntmps5
  go_upto_region 4 with (go_at_call 6; refine HN.out.mono ?_; rintro e w1 ⟨p, S, rfl, hT1, hB1, hS1⟩; have HT1 := hid hT1; have HB1 := hid hB1; have HS1 := hid hS1; clear hT1 hB1 hS1 HN)
  obtain ⟨W2, W3, W4, W5, ga, gb, hga, hgb, hW2, hW3, h3a, hW4, h4b, hW5, h5a, h5b, hb5⟩ := box_two w1 kA kB
  have H3A := hid h3a
  have H4B := hid h4b
  have HZ2 := hW2.symm
  have HZ3 := hW3.symm
  have hT5 := HT1.out.later hb5
  have hnA : ¬ S ga := fun e => by obtain ⟨gm, vo, hx⟩ := HT1.out; have := hx.slt ga e; omega
  have hnB : ¬ S gb := fun e => by obtain ⟨gm, vo, hx⟩ := HT1.out; have := hx.slt gb e; rw [← hgb, hW2] at this; simp at this; omega
  have HKA := hid (show KB W5 S ga kA from ⟨h5a, hnA⟩)
  have HKB := hid (show KB W5 S gb kB from ⟨h5b, hnB⟩)
  have HT5 := hid hT5
  have HB5 := hid (HB1.out.trans (hb5.mono HB1.out.size))
  clear h3a h4b hT5 hnA hnB h5a h5b hb5 HT1 HB1 hW2 hW3
  go_upto_region 5 with (first
    | (refine wpList_store_row rfl 33 _ _ rfl ga (kL kA).toArray rfl rfl 33 _ H3A.out sizeKy rfl (kOne kA) ?_; rw [← hW4]; clear hW4)
    | (refine wpList_store_row rfl 33 _ _ rfl gb (kL kB).toArray rfl rfl 33 _ H4B.out sizeKy rfl (kOne kB) ?_; rw [← hW5]; clear hW5))
  have HS5 : Hid (∀ b, S b → w.heap.size ≤ b) := HS1
  obtain ⟨S5, hS5e⟩ : ∃ S', S' = S := ⟨_, rfl⟩
  rw [← hS5e] at HT5 HKA HKB HS5
  have HSS := HS5
  clear HS5 HS1 hS5e
  have HBE := hid (Begin_any W5 p S5 1 [] 0 HT5.out kA kA_ok (by omega) (by omega) (by decide) (by omega) (fun l h => by simp [fndT] at h))
  go_upto_region 6 with (first
    | (refine wpList_load_row rfl 33 _ rfl ga rfl 33 _ (0, 0) _ HKA.out.1 Try.underlying33 rfl sizeKy ?_)
    | (go_at_call 8; refine HBE.out.mono ?_; rintro e w6 ⟨a6, c6, S6, rfl, hy6, hc6, hT6, hK6⟩; have HT6 : Hid (TbAt w6 p S6 1 [(kA, none)] 1) := hid hT6; have HKA2 := hid (HKA.out.kp hK6); have HKB2 := hid (HKB.out.kp hK6); have HB6 := hid ((Kp.below0 hK6 HB5.out HSS.out)); clear hy6 hc6 hT6 hK6))
  have HSS2 := hid HB6.out.2
  have HB6 := hid HB6.out.1
  clear HSS HKA HKB HBE
  have HKA := HKA2
  have HKB := HKB2
  have HSS := HSS2
  clear HKA2 HKB2 HSS2
  have HBE := hid (Begin_any w6 p S6 1 [(kA, none)] 1 HT6.out kB kB_ok (by omega) (by omega) (by decide) (by omega) (fun l h => by simp [fndT, kA, kB] at h))
  go_upto_region 7 with (first
    | (refine wpList_load_row rfl 33 _ rfl gb rfl 33 _ (0, 0) _ HKB.out.1 Try.underlying33 rfl sizeKy ?_)
    | (go_at_call 8; refine HBE.out.mono ?_; rintro e w7 ⟨a7, c7, S7, rfl, hy6, hc6, hT6, hK6⟩; have HT7 : Hid (TbAt w7 p S7 1 [(kA, none)] 2) := hid hT6; have HKA2 := hid (HKA.out.kp hK6); have HKB2 := hid (HKB.out.kp hK6); have HB7 := hid ((Kp.below0 hK6 HB6.out HSS.out)); clear hy6 hc6 hT6 hK6))
  have HSS2 := hid HB7.out.2
  have HB7 := hid HB7.out.1
  clear HSS HKA HKB HBE
  have HKA := HKA2
  have HKB := HKB2
  have HSS := HSS2
  clear HKA2 HKB2 HSS2
  have hB78 : Below w7.heap.size w7 (w7.alloc (.cells #[.int .u8 114] 5 (1, 2))) := below_alloc (Below.refl _ _) (Nat.le_refl _) _
  have HEN := hid (End_any _ p S7 1 [(kA, none)] 2 (HT7.out.later hB78) kA kA_ok (by omega) (some ⟨w7.heap.size, 0, none⟩) 1 1 [114] rfl (by omega) (Bytes.mk_ (l := [114]) (fun x hx => by simp at hx; unfold IsB; omega) (fun i hi => by simp at hi; subst hi; exact cell_fr w7 #[.int .u8 114] 5 (1, 2) 0 (by simp))))
  have HB7' := hid hB78
  have hcv := Lib.run_convert_bytes_const (P := Try.prog) w7 34 5 #[.int .u8 114] 1 1 Try.underlying34 Try.underlying5
  clear hB78
  go_upto_region 8 with (first
    | (refine wpList_load_row rfl 33 _ rfl ga rfl 33 _ (0, 0) _ HKA.out.1 Try.underlying33 rfl sizeKy ?_)
    | (go_at_call 11; refine HEN.out.mono ?_; rintro e w8 ⟨S8, rfl, hT8, hK8⟩; have HT8 : Hid (TbAt w8 p S8 1 [(kA, some [114])] 3) := hid hT8; have HKA2 := hid ((HKA.out.later HB7'.out).kp hK8); have HKB2 := hid ((HKB.out.later HB7'.out).kp hK8); have HB8 := hid (Kp.below0 hK8 (HB7.out.trans (HB7'.out.mono HB7.out.size)) HSS.out); clear hT8 hK8))
  have HSS2 := hid HB8.out.2
  have HB8 := hid HB8.out.1
  clear HSS HKA HKB HEN
  have HKA := HKA2
  have HKB := HKB2
  have HSS := HSS2
  clear HKA2 HKB2 HSS2 hcv
  have HBE := hid (Begin_any w8 p S8 1 [(kA, some [114])] 3 HT8.out kB kB_ok (by omega) (by omega) (by decide) (by omega) (fun l h => by simp [fndT, kA, kB] at h; first | done | (subst h; decide)))
  go_upto_region 9 with (first
    | (refine wpList_load_row rfl 33 _ rfl gb rfl 33 _ (0, 0) _ HKB.out.1 Try.underlying33 rfl sizeKy ?_)
    | (go_at_call 8; refine HBE.out.mono ?_; rintro e w9 ⟨a9, c9, S9, rfl, hy6, hc6, hT6, hK6⟩; have HT9 : Hid (TbAt w9 p S9 1 [(kB, none)] 4) := hid hT6; have HKA2 := hid (HKA.out.kp hK6); have HKB2 := hid (HKB.out.kp hK6); have HB9 := hid ((Kp.below0 hK6 HB8.out HSS.out)); clear hy6 hc6 hT6 hK6))
  have HSS2 := hid HB9.out.2
  have HB9 := hid HB9.out.1
  clear HSS HKA HKB HBE
  have HKA := HKA2
  have HKB := HKB2
  have HSS := HSS2
  clear HKA2 HKB2 HSS2
  have e1 : beC 1 [] kA = 1 := by decide
  have e2 : beC 1 [(kA, none)] kB = 2 := by decide
  have e3 : enC [(kA, none)] kA = 0 := by decide
  have e4 : beC 1 [(kA, some [114])] kB = 1 := by decide
  have e5 : beC 1 [(kB, none)] kA = 2 := by decide
  have HBE := hid (Begin_any w9 p S9 1 [(kB, none)] 4 HT9.out kA kA_ok (by omega) (by omega) (by decide) (by omega) (fun l h => by simp [fndT, kA, kB] at h; first | done | (subst h; decide)))
  go_wp2_with (first
    | (refine wpList_load_row rfl 33 _ rfl ga rfl 33 _ (0, 0) _ HKA.out.1 Try.underlying33 rfl sizeKy ?_)
    | (go_at_call 8; refine HBE.out.mono ?_; rintro e w10 ⟨a10, c10, S10, rfl, hy6, hc6, hT6, hK6⟩; have HT10 : Hid (TbAt w10 p S10 1 [(kB, none)] 5) := hid hT6; have HKA2 := hid (HKA.out.kp hK6); have HKB2 := hid (HKB.out.kp hK6); have HB10 := hid ((Kp.below0 hK6 HB9.out HSS.out)); clear hy6 hc6 hT6 hK6))
  go_ret
  exact ⟨rfl, HB10.out.1⟩
end Go.Proofs.Ythgmghfegaemkaa
