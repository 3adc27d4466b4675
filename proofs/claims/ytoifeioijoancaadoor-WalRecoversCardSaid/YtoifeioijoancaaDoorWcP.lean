/- What is recovered of what was recorded: plain mathematics. -/
import Derived.Test.YtoifeioijoancaaDoorWbG
namespace Go.Proofs.YtoifeioijoancaaDoor
open Go.RowKit Go.Maps
set_option linter.unusedVariables false

theorem rdN_at (A B : List Int) (n p : Nat) (v : Int) (hp : A.length = p) : rdN (A ++ (bytesLe n v ++ B)) p n = v % 256 ^ n := by
  unfold rdN
  rw [← hp, List.drop_left, List.take_append_of_le_length (by rw [len_le]; exact Nat.le_refl _), List.take_of_length_le (by rw [len_le]; exact Nat.le_refl _), leOf_bytes]
theorem flat_len (l : List Pt) : (l.flatMap fun p => bytesLe 4 p.blk).length = 4 * l.length := by
  induction l with
  | nil => rfl
  | cons x l ih => simp only [List.flatMap_cons, List.length_append, len_le, ih, List.length_cons]; omega
section
variable {seq : Int} {l : List Pt}
theorem headL_form (seq : Int) (l : List Pt) : ∃ R, headL seq l = headW ++ (bytesLe 8 seq ++ (bytesLe 4 l.length ++ ((l.flatMap fun p => bytesLe 4 p.blk) ++ R))) := by
  refine ⟨List.replicate (508 - (headB seq l.length l).length) 0 ++ bytesLe 4 (crcL (headP seq l)), ?_⟩
  unfold headL headP pad headB
  simp only [List.append_assoc]
theorem headL_word : (headL seq l).take 8 = headW := by
  obtain ⟨R, hR⟩ := headL_form seq l
  rw [hR]
  rfl
theorem headL_seq (h0 : 0 ≤ seq) (h1 : seq < 18446744073709551616) : rdN (headL seq l) 8 8 = seq := by
  obtain ⟨R, hR⟩ := headL_form seq l
  rw [hR, rdN_at headW _ 8 8 seq rfl]
  exact Int.emod_eq_of_lt h0 h1
theorem headL_n (h : l.length ≤ 64) : rdN (headL seq l) 16 4 = l.length := by
  obtain ⟨R, hR⟩ := headL_form seq l
  rw [hR, ← List.append_assoc, rdN_at (headW ++ bytesLe 8 seq) _ 4 16 _ (by simp [headW, len_le])]
  exact Int.emod_eq_of_lt (by omega) (by omega)
theorem headL_at (hI : ∀ p ∈ l, 0 ≤ p.blk ∧ p.blk < 4294967296) (i : Nat) (hi : i < l.length) : rdN (headL seq l) (20 + 4 * i) 4 = (l.getD i default).blk := by
  obtain ⟨R, hR⟩ := headL_form seq l
  have e : l = l.take i ++ ((l.getD i default) :: l.drop (i + 1)) := by
    conv => lhs; rw [← List.take_append_drop i l, List.drop_eq_getElem_cons hi]
    simp [List.getD, hi]
  have e2 : (l.flatMap fun p => bytesLe 4 p.blk) = ((l.take i).flatMap fun p => bytesLe 4 p.blk) ++ (bytesLe 4 (l.getD i default).blk ++ ((l.drop (i + 1)).flatMap fun p => bytesLe 4 p.blk)) := by
    conv => lhs; rw [e]
    rw [List.flatMap_append, List.flatMap_cons]
  rw [hR, e2]
  have e3 : headW ++ (bytesLe 8 seq ++ (bytesLe 4 l.length ++ ((((l.take i).flatMap fun p => bytesLe 4 p.blk) ++ (bytesLe 4 (l.getD i default).blk ++ ((l.drop (i + 1)).flatMap fun p => bytesLe 4 p.blk))) ++ R))) = (headW ++ bytesLe 8 seq ++ bytesLe 4 l.length ++ ((l.take i).flatMap fun p => bytesLe 4 p.blk)) ++ (bytesLe 4 (l.getD i default).blk ++ (((l.drop (i + 1)).flatMap fun p => bytesLe 4 p.blk) ++ R)) := by simp only [List.append_assoc]
  rw [e3, rdN_at _ _ 4 (20 + 4 * i) _ (by rw [List.length_append, flat_len, List.length_take]; simp [headW, len_le]; omega)]
  have hm : l.getD i default ∈ l := by simp [List.getD, hi]
  have := hI _ hm
  exact Int.emod_eq_of_lt this.1 this.2
theorem headL_508 (h : l.length ≤ 64) : (headL seq l).take 508 = headP seq l := by
  unfold headL
  rw [List.take_append_of_le_length (by rw [headP_len seq l h]; exact Nat.le_refl _), List.take_of_length_le (by rw [headP_len seq l h]; exact Nat.le_refl _)]
theorem headL_sum (h : l.length ≤ 64) : rdN (headL seq l) 508 4 = crcL (headP seq l) := by
  have := rdN_at (headP seq l) [] 4 508 (crcL (headP seq l)) (headP_len seq l h)
  rw [List.append_nil] at this
  unfold headL
  rw [this]
  have hb := crcL_bd (headP seq l) (headP_isB _ _)
  exact Int.emod_eq_of_lt hb.1 (by omega)
theorem headL_places (hI : ∀ p ∈ l, 0 ≤ p.blk ∧ p.blk < 4294967296) : placesL (headL seq l) l.length = l.map Pt.blk := by
  unfold placesL
  apply List.ext_getElem
  · simp
  · intro i h1 h2
    have hi : i < l.length := by simpa using h1
    simp only [List.getElem_map, List.getElem_range]
    rw [headL_at hI i hi]
    simp [List.getD, hi]
theorem headL_ok (hg : Good l) : HeadOk (headL seq l) := by
  have hI : ∀ p ∈ l, 0 ≤ p.blk ∧ p.blk < 4294967296 := fun p hp => ⟨(hg.ok p hp).1, (hg.ok p hp).2.1⟩
  have hp := hg.pos
  have hm := hg.many
  have hn := headL_n (seq := seq) hm
  refine ⟨headL_word, ?_, ?_, ?_, ?_⟩
  · rw [headL_sum hm, headL_508 hm]
  · rw [hn]; omega
  · rw [hn]; omega
  · rw [hn, Int.toNat_natCast, headL_places hI]; exact hg.once
end
/-- A log in which a group stands. -/
structure Stands (b : List Int) (seq : Int) (l : List Pt) : Prop where
  head : b.take 512 = headL seq l
  dat : ∀ i, i < l.length → (b.drop (512 * (i + 1))).take 512 = (l.getD i default).dat
theorem datL_cons (p : Pt) (l : List Pt) : datL (p :: l) = p.dat ++ datL l := by simp [datL]
theorem take_blocks (l : List Pt) : ∀ (b : List Int), (∀ p ∈ l, p.dat.length = 512) → 512 * l.length ≤ b.length → (∀ i, i < l.length → (b.drop (512 * i)).take 512 = (l.getD i default).dat) → b.take (512 * l.length) = datL l := by
  induction l with
  | nil => intro b _ _ _; simp [datL]
  | cons p l ih =>
    intro b hl hb h
    simp only [List.length_cons] at hb
    have h0 := h 0 (by simp)
    simp only [Nat.mul_zero, List.drop_zero] at h0
    have e0 : (p :: l).getD 0 default = p := rfl
    rw [e0] at h0
    have e1 : b = b.take 512 ++ b.drop 512 := (List.take_append_drop 512 b).symm
    have ih' := ih (b.drop 512) (fun q hq => hl q (by simp [hq])) (by simp; omega) (fun i hi => by
      have := h (i + 1) (by simpa using hi)
      rw [List.drop_drop, show 512 + 512 * i = 512 * (i + 1) by omega, this]
      simp)
    rw [datL_cons, ← ih', ← h0, List.length_cons, show 512 * (l.length + 1) = 512 + 512 * l.length by omega, List.take_add]
theorem Stands.front {b : List Int} {seq : Int} {l : List Pt} (h : Stands b seq l) (hg : Good l) (hb : b.length = 33792) : b.take (512 * (l.length + 1)) = headL seq l ++ datL l := by
  have hm := hg.many
  rw [show 512 * (l.length + 1) = 512 + 512 * l.length by omega, List.take_add, h.head]
  congr 1
  refine take_blocks l (b.drop 512) (fun p hp => (hg.ok p hp).2.2) (by simp; omega) (fun i hi => ?_)
  rw [List.drop_drop, show 512 + 512 * i = 512 * (i + 1) by omega]
  exact h.dat i hi
theorem Stands.n {b : List Int} {seq : Int} {l : List Pt} (h : b.take 512 = headL seq l) (hg : Good l) : recN b = l.length := by
  unfold recN
  rw [h, headL_n hg.many]
  simp
theorem Stands.seq {b : List Int} {seq : Int} {l : List Pt} (h : b.take 512 = headL seq l) (h0 : 0 ≤ seq) (h1 : seq < 18446744073709551616) : recSeq b = seq := by
  unfold recSeq
  rw [h, headL_seq h0 h1]
theorem Stands.out {b : List Int} {seq : Int} {l : List Pt} (h : Stands b seq l) (hg : Good l) : recOut b l.length = l := by
  unfold recOut
  apply List.ext_getElem
  · simp
  · intro i h1 h2
    have hi : i < l.length := h2
    simp only [List.getElem_map, List.getElem_range]
    unfold recAt
    rw [h.dat i hi, h.head, headL_at (fun p hp => ⟨(hg.ok p hp).1, (hg.ok p hp).2.1⟩) i hi]
    simp [List.getD, hi]
theorem Stands.ok {b : List Int} {seq : Int} {l : List Pt} (h : Stands b seq l) (hg : Good l) (hb : b.length = 33792) (h0 : 0 ≤ seq) (h1 : seq < 18446744073709551616) (he : (b.drop (512 * (l.length + 1))).take 512 = endL seq (sumL seq l)) : RecOk b := by
  refine ⟨by rw [h.head]; exact headL_ok hg, ?_⟩
  rw [Stands.n h.head hg, Stands.seq h.head h0 h1, h.front hg hb, he, endL_take]
  rfl
theorem endB_inj {s t x y : Int} (h : endB s x = endB t y) (hs0 : 0 ≤ s) (hs1 : s < 18446744073709551616) (ht0 : 0 ≤ t) (ht1 : t < 18446744073709551616) (hx0 : 0 ≤ x) (hx1 : x < 4294967296) (hy0 : 0 ≤ y) (hy1 : y < 4294967296) : s = t ∧ x = y := by
  have k : ∀ s x : Int, rdN (endB s x) 8 8 = s % 256 ^ 8 ∧ rdN (endB s x) 16 4 = x % 256 ^ 4 := fun s x => by
    constructor
    · unfold endB; rw [List.append_assoc]; exact rdN_at endW _ 8 8 s rfl
    · have := rdN_at (endW ++ bytesLe 8 s) [] 4 16 x (by simp [endW, len_le])
      rw [List.append_nil] at this
      unfold endB
      exact this
  obtain ⟨a1, a2⟩ := k s x
  obtain ⟨b1, b2⟩ := k t y
  rw [h] at a1 a2
  rw [a1, Int.emod_eq_of_lt hs0 (by omega), Int.emod_eq_of_lt ht0 (by omega)] at b1
  rw [a2, Int.emod_eq_of_lt hx0 (by omega), Int.emod_eq_of_lt hy0 (by omega)] at b2
  exact ⟨b1, b2⟩
end Go.Proofs.YtoifeioijoancaaDoor
