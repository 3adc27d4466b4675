/- What the program's writer writes: bytes and the noughts behind them. -/
import Derived.Test.YtbfdkbdjipiliaaDoorXaE
namespace Go.Proofs.YtbfdkbdjipiliaaDoor
open Go.RowKit Go.Maps
set_option linter.unusedVariables false

theorem nop_append {P : Program} {o : Oper} {a : Act} {w : World} (s x : Operand) (t u : TypeId) (ho : o.op = .call { callee := .builtin .append, args := #[s, x], argTypes := #[t, u] }) {v y v' : Value} {w' : World} (hs : a.eval s = v) (hx : a.eval x = y)
    (hrun : (Builtin.append_ #[t, u] o.type #[v, y]).run P w = .ok v' w') : (execOp a.eval o).run P w = .ok (.value v') w' := by
  unfold execOp
  simp only [ho, resolve, invoke, builtin, Sem.run_bind, Sem.run_pure, Result.andThen_ok, List.map_toArray, List.map_cons, List.map_nil, hs, hx, hrun]
set_option maxRecDepth 100000 in
theorem arr_cut (g n : Nat) (hn : n < 4) (W : World) : (Instr.sliceAt 155 (.pointer (some ⟨g, 0, none⟩)) none (some (.int .i64 n)) none).run Tryd.prog W = .ok (.slice (some ⟨g, 0, none⟩) n 4) W := by
  have h4 : Tryd.prog.arrayLen 155 = 4 := by kernel_rfl
  have h5 : Tryd.prog.elem 155 = 5 := by kernel_rfl
  have hz : (sizeOf 5).run Tryd.prog W = .ok 1 W := by kernel_rfl
  rw [run_sliceAt_array_h W 155 ⟨g, 0, none⟩ (by kernel_rfl) .i64 n (by omega) (by rw [h4]; omega), h5, hz, h4]
  simp [slicedAt, Addr.add]
theorem zeros_at (W : World) (g n : Nat) (t : TypeId) (hn : n < 4) (h : W.heap[g]? = some (.cells #[.int .u8 0, .int .u8 0, .int .u8 0, .int .u8 0] t (0, 0))) : Bytes W (some ⟨g, 0, none⟩) (List.replicate n 0) := Bytes.mk_ (fun x hx => by rw [(List.mem_replicate.1 hx).2]; unfold IsB; omega) (fun i hi => by
  have hi2 : i < n := by simpa using hi
  have e : (List.replicate n (0 : Int)).getD i 0 = 0 := by simp [List.getD, hi2]
  rw [e, Nat.zero_add]
  rcases (show i = 0 ∨ i = 1 ∨ i = 2 ∨ i = 3 by omega) with rfl | rfl | rfl | rfl <;> exact cell_of h rfl)
set_option maxRecDepth 100000 in
set_option maxHeartbeats 1000000 in
theorem padded_any {w : World} {p : Nat} {S : Nat → Prop} {l : List Int} (h : WX w 98 p S l) (n cp : Nat) (a : Option Addr) (b : List Int) (hn : b.length = n) (hb : Bytes w a b) (hl : l.length + n ≤ 800000) :
    Calls Tryd.prog 58 #[.pointer (some ⟨p, 0, none⟩), .slice a n cp] w fun e w' => e = .returned (.tuple #[]) ∧ ∃ S', WX w' 98 p S' (l ++ pdL b) ∧ Kp S w S' w' := by
  obtain ⟨W1, hW1⟩ : ∃ W, W = w.alloc (.cells #[.int .u8 0, .int .u8 0, .int .u8 0, .int .u8 0] 155) := ⟨_, rfl⟩
  have b1 : Below w.heap.size w W1 := by rw [hW1]; exact below_alloc (Below.refl _ _) (Nat.le_refl _) _
  have z1 : W1.heap[w.heap.size]? = some (.cells #[.int .u8 0, .int .u8 0, .int .u8 0, .int .u8 0] 155 (0, 0)) := by rw [hW1]; exact alloc_new w _
  have hX1 := h.later b1
  obtain ⟨v, h1, h2, h3⟩ := hX1.box
  obtain ⟨a0, c0, rfl⟩ := h2.shape
  obtain ⟨k0, hk0⟩ : ∃ k, l.length = k := ⟨_, rfl⟩
  obtain ⟨a4, c4, w2, hap, hrc⟩ := (RWc.refl h2).push rfl b a n cp hn (hb.later b1) (by omega) 27
  obtain ⟨g3, S2, g4, g5⟩ := hX1.turn h1 h2 h3 hrc (app_isB h.isB hb.isB)
  rw [hk0] at h1 hap hrc g3 g4 g5
  have cA := cell_of h1 (i := 0) (v := .slice a0 k0 c0) rfl
  have cB := cell_of g3 (i := 0) (v := .slice a0 k0 c0) rfl
  have fB := froz_of g3 0
  obtain ⟨W2, hW2⟩ : ∃ W, W = w2.setCell ⟨p, 0, none⟩ (.slice a4 (k0 + n) c4) := ⟨_, rfl⟩
  rw [← hW2] at g4 g5
  have hnS : ¬ S w.heap.size := fun e => by have := h.slt _ e; omega
  have z2 : W2.heap[w.heap.size]? = some (.cells #[.int .u8 0, .int .u8 0, .int .u8 0, .int .u8 0] 155 (0, 0)) := (g5.block (Array.getElem?_eq_some_iff.1 z1).1 hnS).trans z1
  have hb2 : W2.heap[p]? = some (.cells #[.slice a4 (k0 + n) c4] 98 (0, 0)) := by rw [hW2]; exact setc g3 0 _
  have HLN := hid (show (l ++ b).length = k0 + n by rw [List.length_append, hk0, hn])
  have HKP := hid ((Kp.below (S := S) b1).trans g5)
  have HX := hid g4
  have HBX := hid hb2
  have HZ := hid z2
  have HAP := hid hap
  have HN := hid hn
  have HL := hid (show k0 + n ≤ 800000 by omega)
  have hpl := pad4_lt n
  obtain ⟨q, hq⟩ : ∃ q, pad4 n = q := ⟨_, rfl⟩
  have HPA : Hid (∀ W, Calls Tryd.prog 68 #[.int .i64 n] W fun e w' => e = .returned (.int .i64 (q : Nat)) ∧ w' = W) := hid (fun W => by have := padding_any n (by omega) W; rwa [hq] at this)
  have HE : Hid (l ++ b ++ List.replicate q 0 = l ++ pdL b) := hid (by rw [pdL, hn, hq, List.append_assoc])
  rw [hq] at hpl
  have hW2' := hW2.symm
  have hW1' := hW1.symm
  clear hX1 hrc g3 g4 g5 hnS z2 hb2 h1 h2 h3 hap hb hn hl h b1 z1 hW1 hW2 hk0 hq
  go_enter Tryd.func58, Tryd.ntmps58
  go_upto_region 2 with (at_builtin; refine wpList_append_run2 rfl (.tmp 9) (.tmp 10) 27 27 rfl (by kernel_rfl) (by kernel_rfl) HAP.out ?_; clear HAP)
  try simp only [Act.put]
  refine wp_region_held_drew (S := (fun _ => True)) (by kernel_rfl) trivial (fun hS => ?_)
  try rw [hW2']
  obtain ⟨v0, hv0⟩ : ∃ W, W = W2.drew := ⟨_, rfl⟩
  rw [← hv0]
  have hX0 : WX v0 98 p S2 (l ++ b) := by rw [hv0]; exact HX.out.later ((Below.refl _ _).drew)
  have hK0 : Kp S w S2 v0 := by rw [hv0]; exact HKP.out.trans (Kp.below ((Below.refl _ _).drew))
  have hB0 : v0.heap[p]? = some (.cells #[.slice a4 (k0 + n) c4] 98 (0, 0)) := by rw [hv0]; exact HBX.out
  have hZ0 : v0.heap[w.heap.size]? = some (.cells #[.int .u8 0, .int .u8 0, .int .u8 0, .int .u8 0] 155 (0, 0)) := by rw [hv0]; exact HZ.out
  have cC := cell_of hB0 (i := 0) (v := .slice a4 (k0 + n) c4) rfl
  obtain ⟨v, h1, h2, h3⟩ := hX0.box
  obtain rfl : v = .slice a4 (k0 + n) c4 := by rw [hB0] at h1; simp at h1; exact h1.symm
  obtain ⟨a5, c5, w5, hap, hrc⟩ := (RWc.refl h2).push HLN.out (List.replicate q 0) (some ⟨w.heap.size, 0, none⟩) q 4 (by simp) (zeros_at v0 w.heap.size q _ hpl hZ0) (by have := HL.out; omega) 27
  obtain ⟨g3, S3, g4, g5⟩ := hX0.turn h1 h2 h3 hrc (app_isB hX0.isB (fun x hx => by rw [(List.mem_replicate.1 hx).2]; unfold IsB; omega))
  have cD := cell_of g3 (i := 0) (v := .slice a4 (k0 + n) c4) rfl
  have fD := froz_of g3 0
  rw [HE.out] at g4
  have G4 := hid g4
  have G5 := hid (hK0.trans g5)
  clear hX0 hK0 hB0 hZ0 h1 h2 h3 hrc g4 g5 hv0 g3
  refine nany_take 0 14 (.pointer (some ⟨p, 0, none⟩)) rfl rfl (by kernel_rfl) (by kernel_rfl) (by kernel_rfl) (fun _ _ _ h => h) (Or.inl ⟨by rfl, ?_⟩) trivial ?_
  · rintro w' -
    go_simp
  simp only [List.setIfInBounds_toArray, List.set_cons_zero, List.set_cons_succ]
  refine nany_take 1 15 (.pointer (some ⟨p, 0, none⟩)) rfl rfl (by kernel_rfl) (by kernel_rfl) (by kernel_rfl) (fun _ _ _ h => h) (Or.inl ⟨by rfl, ?_⟩) trivial ?_
  · rintro w' -
    go_simp
  simp only [List.setIfInBounds_toArray, List.set_cons_zero, List.set_cons_succ]
  refine nany_take 2 16 (.pointer (some ⟨p, 0, none⟩)) rfl rfl (by kernel_rfl) (by kernel_rfl) (by kernel_rfl) (fun _ _ _ h => h) (Or.inl ⟨by rfl, ?_⟩) trivial ?_
  · rintro w' -
    go_simp
  simp only [List.setIfInBounds_toArray, List.set_cons_zero, List.set_cons_succ]
  refine nany_take 3 17 (.pointer (some ⟨p, 0, none⟩)) rfl rfl (by kernel_rfl) (by kernel_rfl) (by kernel_rfl) (fun _ _ _ h => h) (Or.inl ⟨by rfl, ?_⟩) trivial ?_
  · rintro w' -
    go_simp
  simp only [List.setIfInBounds_toArray, List.set_cons_zero, List.set_cons_succ]
  refine nany_take 5 19 (.slice a n cp) rfl rfl (by kernel_rfl) (by kernel_rfl) (by kernel_rfl) (fun _ _ _ h => h) (Or.inl ⟨by rfl, ?_⟩) trivial ?_
  · rintro w' -
    go_simp
  simp only [List.setIfInBounds_toArray, List.set_cons_zero, List.set_cons_succ]
  refine nany_take 6 20 (.int .i64 n) rfl rfl (by kernel_rfl) (by kernel_rfl) (by kernel_rfl) (fun _ _ _ h => h) (Or.inl ⟨by rfl, ?_⟩) trivial ?_
  · rintro w' -
    go_simp
  simp only [List.setIfInBounds_toArray, List.set_cons_zero, List.set_cons_succ]
  refine nany_two 4 7 (by kernel_rfl) ?_ ?_
  · refine nop_value' 18 (v := .slice a4 (k0 + n) c4) (w' := v0) rfl (by rfl) rfl (by go_simp) ?_
    refine ⟨trivial, ?_⟩
    simp only [List.setIfInBounds_toArray, List.set_cons_zero, List.set_cons_succ]
    refine nany_one 7 (by kernel_rfl) ?_
    refine nop_callE 21 (f := 68) (args := #[.int .i64 n]) (R := fun v w' => v = .int .i64 (q : Nat) ∧ w' = v0) rfl (by rfl) rfl (by go_simp) ((HPA.out v0).mono (fun e w' h => ⟨_, h.1, rfl, h.2⟩)) ?_
    rintro v v5 ⟨rfl, hv5⟩
    subst hv5
    refine ⟨trivial, ?_⟩
    simp only [List.setIfInBounds_toArray, List.set_cons_zero, List.set_cons_succ]
    refine nany_take 8 22 (.slice (some ⟨w.heap.size, 0, none⟩) q 4) rfl rfl (by kernel_rfl) (by kernel_rfl) (by kernel_rfl) (fun _ _ _ h => h) (Or.inl ⟨by rfl, ?_⟩) trivial ?_
    · rintro w' -
      go_simp; rw [arr_cut w.heap.size q hpl]; rfl
    simp only [List.setIfInBounds_toArray, List.set_cons_zero, List.set_cons_succ]
    refine nany_one 9 (by kernel_rfl) ?_
    refine nop_value' 23 (v := .slice a5 (k0 + n + q) c5) (w' := w5) rfl (by rfl) rfl (nop_append (.tmp 18) (.tmp 22) 27 27 rfl (by kernel_rfl) (by kernel_rfl) hap) ?_
    refine ⟨trivial, ?_⟩
    simp only [List.setIfInBounds_toArray, List.set_cons_zero, List.set_cons_succ]
    refine nany_take 10 24 (.pointer (some ⟨p, 0, none⟩)) rfl rfl (by kernel_rfl) (by kernel_rfl) (by kernel_rfl) (fun _ _ _ h => h) (Or.inl ⟨by rfl, ?_⟩) trivial ?_
    · rintro w' -
      go_simp
    simp only [List.setIfInBounds_toArray, List.set_cons_zero, List.set_cons_succ]
    refine nany_take 11 25 (.pointer (some ⟨p, 0, none⟩)) rfl rfl (by kernel_rfl) (by kernel_rfl) (by kernel_rfl) (fun _ _ _ h => h) (Or.inl ⟨by rfl, ?_⟩) trivial ?_
    · rintro w' -
      go_simp
    simp only [List.setIfInBounds_toArray, List.set_cons_zero, List.set_cons_succ]
    refine nany_one 12 (by kernel_rfl) ?_
    refine nop_skip (w' := w5.setCell ⟨p, 0, none⟩ (.slice a5 (k0 + n + q) c5)) rfl (by rfl) rfl (by go_simp) ?_
    refine ⟨trivial, ?_⟩
    refine wpAnyH_done (by kernel_rfl) ?_ _
    go_wp2
    go_end0
    exact ⟨rfl, S3, G4.out, G5.out⟩
  · refine nop_callE 21 (f := 68) (args := #[.int .i64 n]) (R := fun v w' => v = .int .i64 (q : Nat) ∧ w' = v0) rfl (by rfl) rfl (by go_simp) ((HPA.out v0).mono (fun e w' h => ⟨_, h.1, rfl, h.2⟩)) ?_
    rintro v v5 ⟨rfl, hv5⟩
    subst hv5
    refine ⟨trivial, ?_⟩
    simp only [List.setIfInBounds_toArray, List.set_cons_zero, List.set_cons_succ]
    refine nany_take 8 22 (.slice (some ⟨w.heap.size, 0, none⟩) q 4) rfl rfl (by kernel_rfl) (by kernel_rfl) (by kernel_rfl) (fun _ _ _ h => h) (Or.inl ⟨by rfl, ?_⟩) trivial ?_
    · rintro w' -
      go_simp; rw [arr_cut w.heap.size q hpl]; rfl
    simp only [List.setIfInBounds_toArray, List.set_cons_zero, List.set_cons_succ]
    refine nany_one 4 (by kernel_rfl) ?_
    refine nop_value' 18 (v := .slice a4 (k0 + n) c4) (w' := v5) rfl (by rfl) rfl (by go_simp) ?_
    refine ⟨trivial, ?_⟩
    simp only [List.setIfInBounds_toArray, List.set_cons_zero, List.set_cons_succ]
    refine nany_one 9 (by kernel_rfl) ?_
    refine nop_value' 23 (v := .slice a5 (k0 + n + q) c5) (w' := w5) rfl (by rfl) rfl (nop_append (.tmp 18) (.tmp 22) 27 27 rfl (by kernel_rfl) (by kernel_rfl) hap) ?_
    refine ⟨trivial, ?_⟩
    simp only [List.setIfInBounds_toArray, List.set_cons_zero, List.set_cons_succ]
    refine nany_take 10 24 (.pointer (some ⟨p, 0, none⟩)) rfl rfl (by kernel_rfl) (by kernel_rfl) (by kernel_rfl) (fun _ _ _ h => h) (Or.inl ⟨by rfl, ?_⟩) trivial ?_
    · rintro w' -
      go_simp
    simp only [List.setIfInBounds_toArray, List.set_cons_zero, List.set_cons_succ]
    refine nany_take 11 25 (.pointer (some ⟨p, 0, none⟩)) rfl rfl (by kernel_rfl) (by kernel_rfl) (by kernel_rfl) (fun _ _ _ h => h) (Or.inl ⟨by rfl, ?_⟩) trivial ?_
    · rintro w' -
      go_simp
    simp only [List.setIfInBounds_toArray, List.set_cons_zero, List.set_cons_succ]
    refine nany_one 12 (by kernel_rfl) ?_
    refine nop_skip (w' := w5.setCell ⟨p, 0, none⟩ (.slice a5 (k0 + n + q) c5)) rfl (by rfl) rfl (by go_simp) ?_
    refine ⟨trivial, ?_⟩
    refine wpAnyH_done (by kernel_rfl) ?_ _
    go_wp2
    go_end0
    exact ⟨rfl, S3, G4.out, G5.out⟩
end Go.Proofs.YtbfdkbdjipiliaaDoor
