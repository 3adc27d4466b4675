/- An inode that came in. -/
import Derived.Test.YtgcaidjppcjjeaaGreatDoorIdF
import Derived.Test.YtgcaidjppcjjeaaGreatDoorIeM
import Derived.ChangeArms
import Derived.OpenShut
import Derived.WideShapes
namespace Go.Proofs.YtgcaidjppcjjeaaGreatDoor
open Go.ChangeShapes Go.WideShapes Go.ChangeAt Go.RowKit
set_option linter.unusedVariables false
theorem u32_wf {x : Int} (h : (Lit.int .u32 x).wf = true) : 0 ≤ x ∧ x < 4294967296 := by
  have h1 : IntKind.u32.min = 0 := rfl
  have h2 : IntKind.u32.max = 4294967295 := rfl
  simp only [Lit.wf, Bool.and_eq_true, decide_eq_true_eq] at h
  omega
theorem take1 {α : Type} (l : List α) (off : Nat) (h : off < l.length) : (l.drop off).take 1 = [l[off]] := by
  rw [List.drop_eq_getElem_cons h]
  rfl
theorem pick_lt {α : Type} [Inhabited α] {n : Nat} {p : Nat → α → Prop} (h : ∀ i, i < n → ∃ x, p i x) : ∃ f : Nat → α, ∀ i, i < n → p i (f i) :=
  ⟨fun i => if hi : i < n then (h i hi).choose else default, fun i hi => by simp only [hi, dif_pos]; exact (h i hi).choose_spec⟩
section
variable {H : Type} {enc : TypeId × Value → H} {W : World}
theorem int_at {fuel : Nat} {t : TypeId} {k : IntKind} {l : List Value} {x : DataW H × List MemPlace} (off : Nat) (hu : Tryz.prog.underlying t = some (.int k)) (hc : Tryz.prog.cellsOf t = 1) (hl : off < l.length)
    (h : DataW.trod enc Tryz.prog W 0 (fun _ => true) true fuel t ((l.drop off).take (Tryz.prog.cellsOf t)) = some x) : ∃ n, l[off]? = some (.int k n) ∧ (Lit.int k n).wf = true := by
  rw [hc, take1 l off hl] at h
  obtain ⟨n, e, _, hw⟩ := DataW.trod_int hu h
  injection e with e1 _
  exact ⟨n, by rw [List.getElem?_eq_getElem hl, e1], hw⟩
theorem time_at {fuel : Nat} {l : List Value} {x : DataW H × List MemPlace} (off : Nat) (hl : off + 2 ≤ l.length)
    (h : DataW.trod enc Tryz.prog W 0 (fun _ => true) true fuel 29 ((l.drop off).take (Tryz.prog.cellsOf 29)) = some x) : ∃ n m, l[off]? = some (.int .u32 n) ∧ l[off + 1]? = some (.int .u32 m) ∧ (Lit.int .u32 n).wf = true ∧ (Lit.int .u32 m).wf = true := by
  rw [show Tryz.prog.cellsOf 29 = 2 by kernel_rfl] at h
  obtain ⟨y0, y1, n, _, hlen, h0, h1⟩ := trod_struct2 Tryz.underlying29 h
  have hll : ((l.drop off).take 2).length = 2 := by rw [List.length_take, List.length_drop]; omega
  obtain ⟨a, ha, wa⟩ := int_at 0 (by kernel_rfl) (by kernel_rfl) (by rw [hll]; omega) h0
  obtain ⟨b, hb, wb⟩ := int_at 1 (by kernel_rfl) (by kernel_rfl) (by rw [hll]; omega) h1
  rw [List.getElem?_take, if_pos (by omega), List.getElem?_drop] at ha hb
  exact ⟨a, b, ha, hb, wa, wb⟩
set_option maxRecDepth 100000 in
set_option maxHeartbeats 1000000 in
theorem open_inode {base : Nat} {v : Value} {d : DataW H} {p : List MemPlace} (hval : Value.okWide Tryz.prog W .any base 39 v) (h : DataW.Trod enc Tryz.prog W 0 (fun _ => true) true 39 v d p) :
    ∃ (X : Int × Int × Int × (Nat → Int) × (Nat → Int)), v = .agg (rawC X.1 X.2.1 X.2.2.1 X.2.2.2.1 X.2.2.2.2) ∧ ∀ j, 0 ≤ X.2.2.2.1 j ∧ X.2.2.2.1 j < 18446744073709551616 ∧ (j ≠ 3 → j ≠ 4 → X.2.2.2.1 j < 4294967296) := by
  obtain ⟨cs, rfl, hsz⟩ := okWide_struct Tryz.underlying39 hval
  obtain ⟨fuel, hf⟩ := h
  rw [show (Value.agg cs).cells = cs from rfl] at hf
  rw [show Tryz.prog.cellsOf 39 = 23 by kernel_rfl] at hsz
  obtain ⟨l, hl⟩ : ∃ l, l = cs.toList := ⟨_, rfl⟩
  have hlen : l.length = 23 := by rw [hl, Array.length_toList]; exact hsz
  rw [← hl] at hf
  obtain ⟨xs, nf, _, _, _, hxl, hfl⟩ := DataW.trod_struct Tryz.underlying39 hf
  have hx : xs.length = 12 := hxl
  have get : ∀ j, j < 12 → ∃ y, xs[j]? = some y := fun j hj => ⟨_, List.getElem?_eq_getElem (by omega)⟩
  obtain ⟨y0, g0⟩ := get 0 (by omega)
  obtain ⟨y1, g1⟩ := get 1 (by omega)
  obtain ⟨y2, g2⟩ := get 2 (by omega)
  obtain ⟨y3, g3⟩ := get 3 (by omega)
  obtain ⟨y4, g4⟩ := get 4 (by omega)
  obtain ⟨y5, g5⟩ := get 5 (by omega)
  obtain ⟨y6, g6⟩ := get 6 (by omega)
  obtain ⟨y7, g7⟩ := get 7 (by omega)
  obtain ⟨y8, g8⟩ := get 8 (by omega)
  obtain ⟨y9, g9⟩ := get 9 (by omega)
  obtain ⟨y10, g10⟩ := get 10 (by omega)
  obtain ⟨y11, g11⟩ := get 11 (by omega)
  obtain ⟨n0, e0, w0⟩ := int_at (k := .i64) 0 (by kernel_rfl) (by kernel_rfl) (by omega) ((hfl 0 _ rfl).trans g0)
  obtain ⟨n1, e1, w1⟩ := int_at (k := .i64) 1 (by kernel_rfl) (by kernel_rfl) (by omega) ((hfl 1 _ rfl).trans g1)
  obtain ⟨n2, e2, w2⟩ := int_at (k := .i64) 2 (by kernel_rfl) (by kernel_rfl) (by omega) ((hfl 2 _ rfl).trans g2)
  obtain ⟨n3, e3, w3⟩ := int_at (k := .u32) 3 (by kernel_rfl) (by kernel_rfl) (by omega) ((hfl 3 _ rfl).trans g3)
  obtain ⟨n4, e4, w4⟩ := int_at (k := .u32) 4 (by kernel_rfl) (by kernel_rfl) (by omega) ((hfl 4 _ rfl).trans g4)
  obtain ⟨n5, e5, w5⟩ := int_at (k := .u32) 5 (by kernel_rfl) (by kernel_rfl) (by omega) ((hfl 5 _ rfl).trans g5)
  obtain ⟨n6, e6, w6⟩ := int_at (k := .u64) 6 (by kernel_rfl) (by kernel_rfl) (by omega) ((hfl 6 _ rfl).trans g6)
  obtain ⟨n7, e7, w7⟩ := int_at (k := .u64) 7 (by kernel_rfl) (by kernel_rfl) (by omega) ((hfl 7 _ rfl).trans g7)
  obtain ⟨n8, n9, e8, e9, w8, w9⟩ := time_at 8 (by omega) ((hfl 8 _ rfl).trans g8)
  obtain ⟨n10, n11, e10, e11, w10, w11⟩ := time_at 10 (by omega) ((hfl 9 _ rfl).trans g9)
  obtain ⟨n12, n13, e12, e13, w12, w13⟩ := time_at 12 (by omega) ((hfl 10 _ rfl).trans g10)
  have hp : DataW.trod enc Tryz.prog W 0 (fun _ => true) true nf 37 ((l.drop 14).take (Tryz.prog.cellsOf 37)) = some y11 := (hfl 11 _ rfl).trans g11
  rw [show Tryz.prog.cellsOf 37 = 9 by kernel_rfl] at hp
  have hll : ((l.drop 14).take 9).length = 9 := by rw [List.length_take, List.length_drop]; omega
  obtain ⟨zs, m, _, _, _, hzl, hz⟩ := DataW.trod_array Tryz.underlying37 hp
  have hP : ∀ i, i < 9 → ∃ n : Int, l[14 + i]? = some (.int .i64 n) := fun i hi => by
    obtain ⟨y, hy⟩ : ∃ y, zs[i]? = some y := ⟨_, List.getElem?_eq_getElem (by omega)⟩
    obtain ⟨n, hn, _⟩ := int_at (k := .i64) (i * Tryz.prog.cellsOf 3) (by kernel_rfl) (by kernel_rfl) (by rw [hll, show Tryz.prog.cellsOf 3 = 1 by kernel_rfl]; omega) ((hz i hi).trans hy)
    rw [show Tryz.prog.cellsOf 3 = 1 by kernel_rfl, Nat.mul_one, List.getElem?_take, if_pos hi, List.getElem?_drop] at hn
    exact ⟨n, hn⟩
  obtain ⟨f, hfp⟩ := pick_lt hP
  have r3 := u32_wf w3
  have r4 := u32_wf w4
  have r5 := u32_wf w5
  have r6 := u64_wf w6
  have r7 := u64_wf w7
  have r8 := u32_wf w8
  have r9 := u32_wf w9
  have r10 := u32_wf w10
  have r11 := u32_wf w11
  have r12 := u32_wf w12
  have r13 := u32_wf w13
  refine ⟨(n0, n1, n2, (fun j => match j with | 0 => n3 | 1 => n4 | 2 => n5 | 3 => n6 | 4 => n7 | 5 => n8 | 6 => n9 | 7 => n10 | 8 => n11 | 9 => n12 | 10 => n13 | _ => 0), f), ?_, fun j => ?_⟩
  · congr 1
    apply Array.ext_getElem?
    intro k
    rw [← Array.getElem?_toList, ← hl]
    by_cases h1 : k < 14
    · rcases (show k = 0 ∨ k = 1 ∨ k = 2 ∨ k = 3 ∨ k = 4 ∨ k = 5 ∨ k = 6 ∨ k = 7 ∨ k = 8 ∨ k = 9 ∨ k = 10 ∨ k = 11 ∨ k = 12 ∨ k = 13 by omega) with rfl | rfl | rfl | rfl | rfl | rfl | rfl | rfl | rfl | rfl | rfl | rfl | rfl | rfl
      · exact e0
      · exact e1
      · exact e2
      · exact e3
      · exact e4
      · exact e5
      · exact e6
      · exact e7
      · exact e8
      · exact e9
      · exact e10
      · exact e11
      · exact e12
      · exact e13
    · by_cases h2 : k < 23
      · obtain ⟨q, rfl⟩ : ∃ q, k = 14 + q := ⟨k - 14, by omega⟩
        rw [hfp q (by omega)]
        rcases (show q = 0 ∨ q = 1 ∨ q = 2 ∨ q = 3 ∨ q = 4 ∨ q = 5 ∨ q = 6 ∨ q = 7 ∨ q = 8 by omega) with rfl | rfl | rfl | rfl | rfl | rfl | rfl | rfl | rfl <;> rfl
      · rw [List.getElem?_eq_none (by omega), Array.getElem?_eq_none (by show 23 ≤ k; omega)]
  · match j with
    | 0 => exact ⟨r3.1, Int.lt_trans r3.2 (by decide), fun _ _ => r3.2⟩
    | 1 => exact ⟨r4.1, Int.lt_trans r4.2 (by decide), fun _ _ => r4.2⟩
    | 2 => exact ⟨r5.1, Int.lt_trans r5.2 (by decide), fun _ _ => r5.2⟩
    | 3 => exact ⟨r6.1, r6.2, fun h _ => absurd rfl h⟩
    | 4 => exact ⟨r7.1, r7.2, fun _ h => absurd rfl h⟩
    | 5 => exact ⟨r8.1, Int.lt_trans r8.2 (by decide), fun _ _ => r8.2⟩
    | 6 => exact ⟨r9.1, Int.lt_trans r9.2 (by decide), fun _ _ => r9.2⟩
    | 7 => exact ⟨r10.1, Int.lt_trans r10.2 (by decide), fun _ _ => r10.2⟩
    | 8 => exact ⟨r11.1, Int.lt_trans r11.2 (by decide), fun _ _ => r11.2⟩
    | 9 => exact ⟨r12.1, Int.lt_trans r12.2 (by decide), fun _ _ => r12.2⟩
    | 10 => exact ⟨r13.1, Int.lt_trans r13.2 (by decide), fun _ _ => r13.2⟩
    | (j + 11) => exact ⟨Int.le_refl _, show (0 : Int) < _ by decide, fun _ _ => show (0 : Int) < _ by decide⟩
end
end Go.Proofs.YtgcaidjppcjjeaaGreatDoor
