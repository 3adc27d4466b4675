/- What the program's writer writes: numbers. -/
import Derived.Test.YteeakkpbpffohaaXaB
namespace Go.Proofs.Yteeakkpbpffohaa
open Go.RowKit Go.Maps
set_option linter.unusedVariables false

abbrev nuL (k : Nat) (vs : List Int) : List Int := vs.flatMap (bytesBe k)
theorem nuL_len (k : Nat) (vs : List Int) : (nuL k vs).length = k * vs.length := by have := outBe_len [] k vs; simpa [outBe] using this
theorem nuL_isB (k : Nat) (vs : List Int) : ∀ x ∈ nuL k vs, IsB x := fun x hx => by
  obtain ⟨v, _, hv⟩ := List.mem_flatMap.1 hx
  exact be_isB k v x hv
/-- num.PutBe behind nothing. -/
theorem putNil (w : World) (a2 : Option Addr) (k m cap : Nat) (vs : List Int) (hm : vs.length = m) (hml : m ≤ 1000) (hk : k = 4 ∨ k = 8) (hv : ∀ v ∈ vs, 0 ≤ v ∧ v < 256 ^ k) (hw : Words w a2 vs) (K : Int) (hK : K = k) :
    Calls Try.prog 59 #[.slice none 0 0, .int .i64 K, .slice a2 m cap] w fun e w' => ∃ a3 c3, e = .returned (.tuple #[.slice a3 (k * m) c3, .int .i64 0]) ∧ Bytes w' a3 (nuL k vs) ∧ Below w.heap.size w w' := by
  subst hm hK
  have e0 : outBe [] k vs = nuL k vs := by simp [outBe]
  have key : ∀ w' : World, w'.rowIs w.heap.size 5 (([] : List Int).length + k * vs.length) (fun i => .int .u8 ((outBe [] k vs).getD i 0)) → Bytes w' (some ⟨w.heap.size, 0, none⟩) (nuL k vs) := fun w' hr => by
    rw [e0] at hr
    exact (By.of_row (S := fun _ => True) hr trivial (nuL_isB k vs) (by rw [nuL_len]; simp)).bytes
  rcases hk with rfl | rfl
  · refine (putBe_4 none a2 0 cap [] vs w (by simp) (by omega) (Bytes.nil_ _ _) hw (fitsB_all 4 vs hv)).mono ?_
    rintro e w' ⟨rfl, h1, h2, h3⟩
    simp only [List.length_nil, Nat.zero_add]
    exact ⟨_, _, rfl, key w' h3, h1⟩
  · refine (putBe_8 none a2 0 cap [] vs w (by simp) (by omega) (Bytes.nil_ _ _) hw (fitsB_all 8 vs hv)).mono ?_
    rintro e w' ⟨rfl, h1, h2, h3⟩
    simp only [List.length_nil, Nat.zero_add]
    exact ⟨_, _, rfl, key w' h3, h1⟩
theorem NewWriter_any (w : World) : Calls Try.prog 15 #[] w fun e w' => e = .returned (.pointer (some ⟨w.heap.size, 0, none⟩)) ∧ WX w' 73 w.heap.size (fun b => b = w.heap.size) [] ∧ Below w.heap.size w w' := by
  have hw : WX (w.alloc (.cells #[.slice none 0 0] 73)) 73 w.heap.size (fun b => b = w.heap.size) [] :=
    ⟨by decide, fun x hx => by simp at hx, ⟨.slice none 0 0, alloc_new w _, RW.nil _ 5 1, fun b hb => by simp [blkV] at hb⟩, rfl, fun b hb => by rw [hb]; simp⟩
  have hb : Below w.heap.size w (w.alloc (.cells #[.slice none 0 0] 73)) := below_alloc (Below.refl _ _) (Nat.le_refl _) _
  have HW := hid hw
  have HB := hid hb
  clear hw hb
  go_enter Try.func15, Try.ntmps15
  go_wp2
  go_ret
  exact ⟨rfl, HW.out, HB.out⟩
set_option maxRecDepth 100000 in
set_option maxHeartbeats 1000000 in
theorem numbers_any {w : World} {p : Nat} {S : Nat → Prop} {l : List Int} (h : WX w 73 p S l) (k m cap : Nat) (a2 : Option Addr) (vs : List Int) (hm : vs.length = m) (hml : m ≤ 1000) (hk : k = 4 ∨ k = 8) (hv : ∀ v ∈ vs, 0 ≤ v ∧ v < 256 ^ k) (hw : Words w a2 vs) (hl : l.length + 8 * m ≤ 900000) (K : Int) (hK : K = k) :
    Calls Try.prog 41 #[.pointer (some ⟨p, 0, none⟩), .int .i64 K, .slice a2 m cap] w fun e w' => e = .returned (.tuple #[]) ∧ ∃ S', WX w' 73 p S' (l ++ nuL k vs) ∧ Kp S w S' w' := by
  have HP := hid (putNil w a2 k m cap vs hm hml hk hv hw K hK)
  have hnl : (nuL k vs).length = k * m := by rw [nuL_len, hm]
  have hkm : k * m ≤ 8 * m := Nat.mul_le_mul_right m (by omega)
  obtain ⟨km, hkm2⟩ : ∃ x, k * m = x := ⟨_, rfl⟩
  rw [hkm2] at HP hnl hkm
  have hNI := nuL_isB k vs
  generalize nuL k vs = N at *
  obtain ⟨v, h1, h2, h3⟩ := h.box
  obtain ⟨a0, c0, rfl⟩ := h2.shape
  have HH := hid h
  have H1 := hid h1
  have H2 := hid h2
  have H3 := hid h3
  have HNL := hid hnl
  have HNI := hid hNI
  have HLL := hid hl
  have HKM := hid hkm
  clear h h1 h2 h3 hnl hNI hw hv hm hk hl hkm hkm2 hK
  go_enter Try.func41, Try.ntmps41
  go_wp2_with (first
    | (go_at_call 59
       refine HP.out.mono ?_
       rintro e w1 ⟨a3, c3, rfl, hb, hB⟩
       have hx := HH.out.later hB
       have g1 : w1.heap[p]? = some (.cells #[.slice a0 l.length c0] 73 (0, 0)) := (hB.block p (HH.out.slt p HH.out.sp)).trans H1.out
       have g2 := H2.out.later hB
       obtain ⟨a4, c4, w2, hap, hrc⟩ := (RWc.refl g2).push rfl N a3 km c3 HNL.out hb (by have := HLL.out; have := HKM.out; omega) 22
       obtain ⟨g3, S', g4, g5⟩ := hx.turn g1 g2 H3.out hrc (app_isB HH.out.isB HNI.out)
       have cA := cell_of g1 (i := 0) (v := .slice a0 l.length c0) rfl
       have cB := cell_of g3 (i := 0) (v := .slice a0 l.length c0) rfl
       have fB := froz_of g3 0
       have G4 := hid g4
       have G5 := hid ((Kp.below (S := S) hB).trans g5)
       have HAP := hid hap
       clear hx g1 g2 hap hrc g3 g4 g5 hb hB)
    | (at_builtin; refine wpList_append_run2 rfl (.tmp 18) (.tmp 19) 22 22 rfl (by kernel_rfl) (by kernel_rfl) HAP.out ?_))
  go_end0
  exact ⟨rfl, _, G4.out, G5.out⟩
end Go.Proofs.Yteeakkpbpffohaa
