/- XaB, XaC, XaD, XaE in one text. -/
import Derived.Test.YtbfdkbdjipiliaaDoorXaA
/- Writers in memory, the program's and the document's; numbers put behind what there is. -/
namespace Go.Proofs.YtbfdkbdjipiliaaDoor
open Go.RowKit Go.Maps
set_option linter.unusedVariables false

def pad4 (n : Nat) : Nat := (4 - n % 4) % 4
theorem pad4_lt (n : Nat) : pad4 n < 4 := by unfold pad4; omega
/-- Bytes and the noughts behind them. -/
def pdL (b : List Int) : List Int := b ++ List.replicate (pad4 b.length) 0
/-- Bytes with their length ahead. -/
def fuL (b : List Int) : List Int := bytesBe 4 b.length ++ pdL b
theorem pdL_len (b : List Int) : (pdL b).length = b.length + pad4 b.length := by simp [pdL]
theorem fuL_len (b : List Int) : (fuL b).length = 4 + (b.length + pad4 b.length) := by simp [fuL, pdL_len, len_be]
theorem pdL_isB (b : List Int) (h : ∀ x ∈ b, IsB x) : ∀ x ∈ pdL b, IsB x := fun x hx => by
  rcases List.mem_append.1 hx with h1 | h1
  · exact h x h1
  · rw [(List.mem_replicate.1 h1).2]; unfold IsB; omega
theorem fuL_isB (b : List Int) (h : ∀ x ∈ b, IsB x) : ∀ x ∈ fuL b, IsB x := fun x hx => by
  rcases List.mem_append.1 hx with h1 | h1
  · exact be_isB _ _ x h1
  · exact pdL_isB b h x h1
theorem app_isB {l m : List Int} (h : ∀ x ∈ l, IsB x) (h' : ∀ x ∈ m, IsB x) : ∀ x ∈ l ++ m, IsB x := fun x hx => by
  rcases List.mem_append.1 hx with h1 | h1
  · exact h x h1
  · exact h' x h1
/-- A writer at block p, of type T, over l; its blocks S. -/
structure WX (w : World) (T : TypeId) (p : Nat) (S : Nat → Prop) (l : List Int) : Prop where
  t5 : T ≠ 5
  isB : ∀ x ∈ l, IsB x
  box : ∃ v, w.heap[p]? = some (.cells #[v] T (0, 0)) ∧ RW w 5 1 v l.length (u8s l) ∧ ∀ b, blkV v = some b → S b
  sp : S p
  slt : ∀ b, S b → b < w.heap.size
section
variable {w w' : World} {T : TypeId} {p : Nat} {S : Nat → Prop} {l : List Int}
theorem WX.keep (h : WX w T p S l) (hk : ∀ b, S b → w'.heap[b]? = w.heap[b]?) (hs : w.heap.size ≤ w'.heap.size) : WX w' T p S l := by
  obtain ⟨v, h1, h2, h3⟩ := h.box
  exact ⟨h.t5, h.isB, ⟨v, (hk p h.sp).trans h1, h2.keep (fun b hb => hk b (h3 b hb)), h3⟩, h.sp, fun b hb => Nat.lt_of_lt_of_le (h.slt b hb) hs⟩
theorem WX.later (h : WX w T p S l) (hb : Below w.heap.size w w') : WX w' T p S l := h.keep (fun b hb2 => hb.block b (h.slt b hb2)) hb.size
/-- Another's call leaves it alone. -/
theorem WX.beside {S2 S2' : Nat → Prop} (h : WX w T p S l) (hk : Kp S2 w S2' w') (hd : ∀ b, S b → ¬ S2 b) : WX w' T p S l := h.keep (fun b hb => hk.block (h.slt b hb) (hd b hb)) hk.2.size
theorem WX.ne (h : WX w T p S l) {v : Value} (h1 : w.heap[p]? = some (.cells #[v] T (0, 0))) {v2 : Value} {n : Nat} {X : List Value} (h2 : RW w 5 1 v2 n X) : blkV v2 ≠ some p := fun e => by
  obtain ⟨cur, hk⟩ := h2.kind e
  rw [h1] at hk
  simp only [Option.some.injEq, Obj.cells.injEq] at hk
  exact h.t5 hk.2.1
/-- Its row turns. -/
theorem WX.turn (h : WX w T p S l) {v v2 : Value} {w2 : World} (h1 : w.heap[p]? = some (.cells #[v] T (0, 0))) (hr : RW w 5 1 v l.length (u8s l)) (hS : ∀ b, blkV v = some b → S b) {l2 : List Int} (hc : RWc w v w2 v2 l2) (hI : ∀ x ∈ l2, IsB x) :
    w2.heap[p]? = some (.cells #[v] T (0, 0)) ∧ ∃ S', WX (w2.setCell ⟨p, 0, none⟩ v2) T p S' l2 ∧ Kp S w S' (w2.setCell ⟨p, 0, none⟩ v2) := by
  have hbp : w2.heap[p]? = some (.cells #[v] T (0, 0)) := (hc.2.1.block p (h.slt p h.sp) (h.ne h1 hr)).trans h1
  have hsz : (w2.setCell ⟨p, 0, none⟩ v2).heap.size = w2.heap.size := by simp [World.setCell]
  refine ⟨hbp, fun b => S b ∨ blkV v2 = some b, ⟨h.t5, hI, ⟨v2, setc hbp 0 v2, ?_, fun b hb => .inr hb⟩, .inl h.sp, ?_⟩, ?_, ?_⟩
  · refine hc.1.keep (fun b hb => ?_)
    have hne : b ≠ p := fun e => by
      subst e
      obtain ⟨cur, hk⟩ := hc.1.kind hb
      rw [hbp] at hk
      simp only [Option.some.injEq, Obj.cells.injEq] at hk
      exact h.t5 hk.2.1
    exact ((Mods.refl (fun b => b = p) w2).setCell p 0 _ rfl).block b (hc.1.lt hb) hne
  · intro b hb
    rw [hsz]
    rcases hb with e | e
    · exact Nat.lt_of_lt_of_le (h.slt b e) hc.2.1.size
    · exact hc.1.lt e
  · intro b hb
    rcases hb with e | e
    · exact .inl e
    · rcases hc.2.2 with e2 | ⟨x, hx, e2⟩
      · exact .inl (hS b (by rw [← e2]; exact e))
      · rw [e2] at e; simp at e; exact .inr (by omega)
  · exact (hc.2.1.weak (al' := S) (fun b hb => .inl (hS b hb))).setCell p 0 v2 h.sp
end
theorem padding_any (n : Nat) (hn : n ≤ 9223372036854775807) (w : World) : Calls Tryd.prog 68 #[.int .i64 n] w fun e w' => e = .returned (.int .i64 (pad4 n : Nat)) ∧ w' = w := by
  have e1 : ((n : Int)).tmod 4 = ((n % 4 : Nat) : Int) := by
    rw [Int.tmod_eq_emod_of_nonneg (by omega)]; omega
  have hlt : n % 4 < 4 := Nat.mod_lt _ (by omega)
  have e2 : (4 - ((n % 4 : Nat) : Int)).tmod 4 = ((pad4 n : Nat) : Int) := by
    rw [Int.tmod_eq_emod_of_nonneg (by omega)]; unfold pad4; omega
  have w1 : IntKind.i64.wrap ((n : Int).tmod 4) = (n : Int).tmod 4 := IntWalk.i64_in _ (by rw [e1]; omega)
  have w2 : IntKind.i64.wrap (4 - (n : Int).tmod 4) = 4 - (n : Int).tmod 4 := IntWalk.i64_in _ (by rw [e1]; omega)
  have w3 : IntKind.i64.wrap ((4 - (n : Int).tmod 4).tmod 4) = (4 - (n : Int).tmod 4).tmod 4 := IntWalk.i64_in _ (by rw [e1, e2]; have := pad4_lt n; omega)
  have HE : Hid ((4 - (n : Int).tmod 4).tmod 4 = ((pad4 n : Nat) : Int)) := hid (by rw [e1, e2])
  clear e1 e2 hlt
  go_enter Tryd.func68, Tryd.ntmps68
  go_wp2
  go_ret
  refine ⟨ret_int ?_, rfl⟩
  first | exact HE.out | (unfold pad4; omega)
end Go.Proofs.YtbfdkbdjipiliaaDoor

/- What the program's writer writes: numbers. -/
namespace Go.Proofs.YtbfdkbdjipiliaaDoor
open Go.RowKit Go.Maps
set_option linter.unusedVariables false

abbrev nuL (k : Nat) (vs : List Int) : List Int := vs.flatMap (bytesBe k)
theorem nuL_len (k : Nat) (vs : List Int) : (nuL k vs).length = k * vs.length := by have := outBe_len [] k vs; simpa [outBe] using this
theorem nuL_isB (k : Nat) (vs : List Int) : ∀ x ∈ nuL k vs, IsB x := fun x hx => by
  obtain ⟨v, _, hv⟩ := List.mem_flatMap.1 hx
  exact be_isB k v x hv
/-- num.PutBe behind nothing. -/
theorem putNil (w : World) (a2 : Option Addr) (k m cap : Nat) (vs : List Int) (hm : vs.length = m) (hml : m ≤ 1000) (hk : k = 4 ∨ k = 8) (hv : ∀ v ∈ vs, 0 ≤ v ∧ v < 256 ^ k) (hw : Words w a2 vs) (K : Int) (hK : K = k) :
    Calls Tryd.prog 50 #[.slice none 0 0, .int .i64 K, .slice a2 m cap] w fun e w' => ∃ a3 c3, e = .returned (.tuple #[.slice a3 (k * m) c3, .int .i64 0]) ∧ Bytes w' a3 (nuL k vs) ∧ Below w.heap.size w w' := by
  subst hm hK
  have e0 : outBe [] k vs = nuL k vs := by simp [outBe]
  have key : ∀ w' : World, w'.rowIs w.heap.size 5 (([] : List Int).length + k * vs.length) (fun i => .int .u8 ((outBe [] k vs).getD i 0)) → Bytes w' (some ⟨w.heap.size, 0, none⟩) (nuL k vs) := fun w' hr => by
    rw [e0] at hr
    exact (By.of_row (S := fun _ => True) hr trivial (nuL_isB k vs) (by rw [nuL_len]; simp)).bytes
  rcases hk with rfl | rfl
  · refine (putBe_4 none a2 0 cap [] vs w (by simp) (by omega) (Bytes.nil_ _ _) hw (fitsB_all 4 vs hv)).mono ?_
    rintro e w' ⟨rfl, h1, h2, h3⟩
    simp only [List.length_nil, Nat.zero_add]
    exact ⟨_, _, rfl, key w' h3, h1⟩
  · refine (putBe_8 none a2 0 cap [] vs w (by simp) (by omega) (Bytes.nil_ _ _) hw (fitsB_all 8 vs hv)).mono ?_
    rintro e w' ⟨rfl, h1, h2, h3⟩
    simp only [List.length_nil, Nat.zero_add]
    exact ⟨_, _, rfl, key w' h3, h1⟩
theorem NewWriter_any (w : World) : Calls Tryd.prog 19 #[] w fun e w' => e = .returned (.pointer (some ⟨w.heap.size, 0, none⟩)) ∧ WX w' 98 w.heap.size (fun b => b = w.heap.size) [] ∧ Below w.heap.size w w' := by
  have hw : WX (w.alloc (.cells #[.slice none 0 0] 98)) 98 w.heap.size (fun b => b = w.heap.size) [] :=
    ⟨by decide, fun x hx => by simp at hx, ⟨.slice none 0 0, alloc_new w _, RW.nil _ 5 1, fun b hb => by simp [blkV] at hb⟩, rfl, fun b hb => by rw [hb]; simp⟩
  have hb : Below w.heap.size w (w.alloc (.cells #[.slice none 0 0] 98)) := below_alloc (Below.refl _ _) (Nat.le_refl _) _
  have HW := hid hw
  have HB := hid hb
  clear hw hb
  go_enter Tryd.func19, Tryd.ntmps19
  go_wp2
  go_ret
  exact ⟨rfl, HW.out, HB.out⟩
set_option maxRecDepth 100000 in
set_option maxHeartbeats 1000000 in
theorem numbers_any {w : World} {p : Nat} {S : Nat → Prop} {l : List Int} (h : WX w 98 p S l) (k m cap : Nat) (a2 : Option Addr) (vs : List Int) (hm : vs.length = m) (hml : m ≤ 1000) (hk : k = 4 ∨ k = 8) (hv : ∀ v ∈ vs, 0 ≤ v ∧ v < 256 ^ k) (hw : Words w a2 vs) (hl : l.length + 8 * m ≤ 900000) (K : Int) (hK : K = k) :
    Calls Tryd.prog 35 #[.pointer (some ⟨p, 0, none⟩), .int .i64 K, .slice a2 m cap] w fun e w' => e = .returned (.tuple #[]) ∧ ∃ S', WX w' 98 p S' (l ++ nuL k vs) ∧ Kp S w S' w' := by
  have HP := hid (putNil w a2 k m cap vs hm hml hk hv hw K hK)
  have hnl : (nuL k vs).length = k * m := by rw [nuL_len, hm]
  have hkm : k * m ≤ 8 * m := Nat.mul_le_mul_right m (by omega)
  obtain ⟨km, hkm2⟩ : ∃ x, k * m = x := ⟨_, rfl⟩
  rw [hkm2] at HP hnl hkm
  have hNI := nuL_isB k vs
  generalize nuL k vs = N at *
  obtain ⟨v, h1, h2, h3⟩ := h.box
  obtain ⟨a0, c0, rfl⟩ := h2.shape
  have HH := hid h
  have H1 := hid h1
  have H2 := hid h2
  have H3 := hid h3
  have HNL := hid hnl
  have HNI := hid hNI
  have HLL := hid hl
  have HKM := hid hkm
  clear h h1 h2 h3 hnl hNI hw hv hm hk hl hkm hkm2 hK
  go_enter Tryd.func35, Tryd.ntmps35
  go_wp2_with (first
    | (go_at_call 50
       refine HP.out.mono ?_
       rintro e w1 ⟨a3, c3, rfl, hb, hB⟩
       have hx := HH.out.later hB
       have g1 : w1.heap[p]? = some (.cells #[.slice a0 l.length c0] 98 (0, 0)) := (hB.block p (HH.out.slt p HH.out.sp)).trans H1.out
       have g2 := H2.out.later hB
       obtain ⟨a4, c4, w2, hap, hrc⟩ := (RWc.refl g2).push rfl N a3 km c3 HNL.out hb (by have := HLL.out; have := HKM.out; omega) 27
       obtain ⟨g3, S', g4, g5⟩ := hx.turn g1 g2 H3.out hrc (app_isB HH.out.isB HNI.out)
       have cA := cell_of g1 (i := 0) (v := .slice a0 l.length c0) rfl
       have cB := cell_of g3 (i := 0) (v := .slice a0 l.length c0) rfl
       have fB := froz_of g3 0
       have G4 := hid g4
       have G5 := hid ((Kp.below (S := S) hB).trans g5)
       have HAP := hid hap
       clear hx g1 g2 hap hrc g3 g4 g5 hb hB)
    | (at_builtin; refine wpList_append_run2 rfl (.tmp 18) (.tmp 19) 27 27 rfl (by kernel_rfl) (by kernel_rfl) HAP.out ?_))
  go_end0
  exact ⟨rfl, _, G4.out, G5.out⟩
end Go.Proofs.YtbfdkbdjipiliaaDoor

/- What the program's writer writes: rows of numbers. -/
namespace Go.Proofs.YtbfdkbdjipiliaaDoor
open Go.RowKit Go.Maps
set_option linter.unusedVariables false

/-- A row of numbers of four bytes in memory. -/
def U32s (w : World) (a : Option Addr) (l : List Int) : Prop :=
  ∀ i, i < l.length → ∃ b off, a = some ⟨b, off, none⟩ ∧ w.cell? ⟨b, off + i, none⟩ = some (.int .u32 (l.getD i 0)) ∧ IsU (l.getD i 0)
theorem U32s.isU {w : World} {a : Option Addr} {l : List Int} (h : U32s w a l) : ∀ x ∈ l, IsU x := by
  intro x hx
  obtain ⟨i, hi, rfl⟩ := List.getElem_of_mem hx
  obtain ⟨_, _, _, _, hb⟩ := h i hi
  simpa [List.getD, hi] using hb
theorem nuL_snoc (k : Nat) (vs : List Int) (i : Nat) (h : i < vs.length) : nuL k (vs.take (i + 1)) = nuL k (vs.take i) ++ bytesBe k (vs.getD i 0) := by
  have := outBe_snoc [] k vs i h
  simpa [outBe] using this
theorem nuL_one (k : Nat) (v : Int) : nuL k [v] = bytesBe k v := by simp
set_option maxRecDepth 100000 in
set_option maxHeartbeats 1000000 in
/-- One number. -/
theorem number1 {w : World} {p : Nat} {S : Nat → Prop} {l : List Int} (h : WX w 98 p S l) (k g cap : Nat) (v : Int) (hk : k = 4 ∨ k = 8) (hv : 0 ≤ v ∧ v < 256 ^ k) (hc : w.cell? ⟨g, 0, none⟩ = some (.int .u64 v)) (hl : l.length + 8 ≤ 900000) (K : Int) (hK : K = k) :
    Calls Tryd.prog 35 #[.pointer (some ⟨p, 0, none⟩), .int .i64 K, .slice (some ⟨g, 0, none⟩) 1 cap] w fun e w' => e = .returned (.tuple #[]) ∧ ∃ S', WX w' 98 p S' (l ++ bytesBe k v) ∧ Kp S w S' w' := by
  have h64 : v < 18446744073709551616 := by rcases hk with rfl | rfl <;> omega
  have := numbers_any h k 1 cap (some ⟨g, 0, none⟩) [v] rfl (by omega) hk (by simpa using hv) (fun i hi => by
    obtain rfl : i = 0 := by simp at hi; omega
    exact ⟨g, 0, rfl, hc, hv.1, h64⟩) (by omega) K hK
  rwa [nuL_one] at this
set_option maxRecDepth 100000 in
set_option maxHeartbeats 1000000 in
theorem WU32_any {w : World} {p : Nat} {S : Nat → Prop} {l : List Int} (h : WX w 98 p S l) (m cap : Nat) (a2 : Option Addr) (vs : List Int) (hm : vs.length = m) (hml : m ≤ 1000) (hw : ∀ W S2, Kp S w S2 W → U32s W a2 vs) (hl : l.length + 8 * m ≤ 800000) :
    Calls Tryd.prog 20 #[.pointer (some ⟨p, 0, none⟩), .slice a2 m cap] w fun e w' => e = .returned (.tuple #[]) ∧ ∃ S', WX w' 98 p S' (l ++ nuL 4 vs) ∧ Kp S w S' w' := by
  have HH := hid h
  have HW := hid hw
  have HM := hid hm
  have HL := hid hl
  clear h hw hm hl
  go_enter Tryd.func20, Tryd.ntmps20
  go_wp2
  go_loopw [8] (fun i wr => ∃ k : Nat, k ≤ m ∧ i = .int .i64 k ∧ ∃ S', WX wr 98 p S' (l ++ nuL 4 (vs.take k)) ∧ Kp S w S' wr) (fun i _ => m - (intOf i).toNat)
  case atStart => exact ⟨0, Nat.zero_le _, rfl, S, by simpa using HH.out, Kp.refl _ _⟩
  case round =>
    obtain ⟨k, hk, rfl, S1, hx, hkp⟩ := hrel
    by_cases hlt : k < m
    · have hkl : k < vs.length := by rw [HM.out]; exact hlt
      obtain ⟨b2, off2, rfl, hc, hu⟩ := HW.out wr S1 hkp k hkl
      have HO := hid (nuL_snoc 4 vs k hkl)
      have hlen : (l ++ nuL 4 (vs.take k)).length ≤ l.length + 4 * k := by rw [List.length_append, nuL_len, List.length_take]; have := Nat.min_le_left k vs.length; omega
      generalize vs.getD k 0 = x at *
      unfold IsU at hu
      obtain ⟨W1, hW1⟩ : ∃ W1, W1 = wr.alloc (.cells #[.int .u64 x] 62) := ⟨_, rfl⟩
      have hb1 : Below wr.heap.size wr W1 := by rw [hW1]; exact (Below.refl _ _).alloc (Nat.le_refl _) _
      have hc1 : W1.cell? ⟨wr.heap.size, 0, none⟩ = some (.int .u64 x) := by rw [hW1, new_cell _ _ _ _ 0 (by simp)]; rfl
      obtain ⟨vv, h1, _, _⟩ := hx.box
      have c0 := cell_of h1 (i := 0) (v := vv) rfl
      have HC := hid (number1 (hx.later hb1) 4 wr.heap.size 1 x (.inl rfl) ⟨hu.1, by simp; omega⟩ hc1 (by have := HL.out; omega) 4 rfl)
      have hw64 : IntKind.u64.wrap x = x := IntWalk.u64_in _ (by omega)
      have HKP := hid (hkp.trans (Kp.below hb1))
      clear hb1 hc1 hx hkp hlen h1
      have hWW := hW1.symm
      clear hW1
      go_wp2_with (go_at_call 35; (try rw [hWW]); refine HC.out.mono ?_; rintro e w2 ⟨rfl, S2, hx2, hk2⟩; have HX := hid hx2; have HK2 := hid (HKP.out.trans hk2); clear hx2 hk2)
      go_roundw
      case rel => exact ⟨k + 1, by omega, by go_num, S2, by rw [HO.out, ← List.append_assoc]; exact HX.out, HK2.out⟩
      case measure => simp [intOf]; omega
    · have HX := hid hx
      have HK2 := hid hkp
      clear hx hkp
      go_wp2
      go_end0
      have e : vs.take k = vs := List.take_of_length_le (by rw [HM.out]; omega)
      rw [e] at HX
      exact ⟨rfl, S1, HX.out, HK2.out⟩
end Go.Proofs.YtbfdkbdjipiliaaDoor

/- What the program's writer writes: truths; bytes and the noughts behind them. -/
namespace Go.Proofs.YtbfdkbdjipiliaaDoor
open Go.RowKit Go.Maps
set_option linter.unusedVariables false

/-- A row of truths in memory. -/
def Trus (w : World) (a : Option Addr) (l : List Bool) : Prop :=
  ∀ i, i < l.length → ∃ b off, a = some ⟨b, off, none⟩ ∧ w.cell? ⟨b, off + i, none⟩ = some (.bool (l.getD i false))
abbrev tnum (b : Bool) : Int := if b then 1 else 0
abbrev tnums (l : List Bool) : List Int := l.map tnum
theorem tnums_snoc (vs : List Bool) (i : Nat) (h : i < vs.length) : nuL 4 (tnums (vs.take (i + 1))) = nuL 4 (tnums (vs.take i)) ++ bytesBe 4 (tnum (vs.getD i false)) := by
  have h2 : i < (tnums vs).length := by simpa using h
  have e := nuL_snoc 4 (tnums vs) i h2
  have e2 : (tnums vs).getD i 0 = tnum (vs.getD i false) := by simp [List.getD, h]
  rw [e2] at e
  simpa using e
theorem tnum_bd (b : Bool) : 0 ≤ tnum b ∧ tnum b < 256 ^ 4 := by cases b <;> simp [tnum]
end Go.Proofs.YtbfdkbdjipiliaaDoor
