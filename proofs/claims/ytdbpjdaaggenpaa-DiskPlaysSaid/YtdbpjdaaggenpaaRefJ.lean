/- The document's own disk: Write. -/
import Derived.Test.YtdbpjdaaggenpaaRefI
namespace Go.Proofs.Ytdbpjdaaggenpaa
open Go.RowKit

theorem wpList_append_run {P : Program} {w : World} {ops : Array Oper} {rest : List Oper} {o : Oper} {a : Act} {Q : Exit → Act → World → Prop} (hgd : o.guard = none) (s x : Operand) (t : TypeId)
    (ho : o.op = .call { callee := .builtin .append, args := #[s, x], argTypes := #[t, t] }) {v y v' : Value} {w' : World} (hs : a.eval s = v) (hx : a.eval x = y)
    (hrun : (Builtin.append_ #[t, t] o.type #[v, y]).run P w = .ok v' w') (h : wpList P ops Q rest (a.put o.dst v') w') : wpList P ops Q (o :: rest) a w := by
  refine wpList_plain hgd fun K hK => ?_
  unfold Oper.wp execOp
  simp only [ho, resolve, invoke, builtin, Sem.run_bind, Sem.run_pure, Result.andThen_ok, List.map_toArray, List.map_cons, List.map_nil, hs, hx, hrun]
  exact hK _ _ h

set_option maxRecDepth 100000 in
theorem cut_run4 (b off len cap lo hi : Nat) (h : lo < hi) (hh : hi ≤ len) (hc : len ≤ cap) (W : World) : (Instr.slice 42 (.slice (some ⟨b, off, none⟩) len cap) (some (.int .i64 lo)) (some (.int .i64 hi)) none).run Try.prog W = .ok (.slice (some ⟨b, off + lo, none⟩) (hi - lo) (cap - lo)) W := by
  have hz : (sizeOf 5).run Try.prog W = .ok 1 W := by kernel_rfl
  rw [run_slice_lh (P := Try.prog) W 42 (some ⟨b, off, none⟩) len cap Try.underlying42 .i64 .i64 lo hi (by omega) (by omega) (by omega)]
  have e : Try.prog.elem 42 = 5 := by kernel_rfl
  rw [e, hz]
  have h2 : ¬ (cap = lo) := by omega
  simp [sliced, Addr.add, h2]

theorem wrA_len (A : Abs) (x : Int) (ls : List (List Int)) (k : Int) : ((wrA A x ls).V k).length ≤ (A.V k).length + 1 := by
  simp only [wrA, List.length_append]
  split <;> simp

set_option maxRecDepth 100000 in
set_option maxHeartbeats 4000000 in
theorem RWrite_any (w : World) (px : Nat) (A : Abs) (n : Nat) (al : Nat → Prop) (hd : RDisk w px A n al) (hn : n ≤ 549755813888) (x : Int) (b cap m M : Nat) (hM : M = 512 * m) (hm : m ≤ 65536) (hcap : M ≤ cap) (hh : hasB A.N x m = true)
    (ls : List (List Int)) (hll : ls.length = m) (hl5 : ∀ i, i < m → (ls.getD i []).length = 512 ∧ ∀ y ∈ ls.getD i [], IsB y) (hdat : ∀ i, i < m → ∀ j, j < 512 → w.cell? ⟨b, 512 * i + j, none⟩ = some (.int .u8 ((ls.getD i []).getD j 0))) (hb : b < w.heap.size) (hnb : ¬ al b) :
    Calls Try.prog 22 #[.pointer (some ⟨px, 0, none⟩), .int .i64 x, .slice (some ⟨b, 0, none⟩) M cap] w fun e w' => e = .returned (.int .i64 0) ∧ RStep w w' px (wrA A x ls) (n + m) al := by
  obtain ⟨vL, es, d, hel, hvl⟩ := hd
  have hc0 : w.cell? ⟨px, 0, none⟩ = some (.int .i64 A.N) := by simp [World.cell?, d.box]
  have hN := d.hN
  have hr : 1 ≤ m ∧ 0 ≤ x ∧ x + m ≤ A.N := by unfold hasB at hh; simp at hh; omega
  have g2 : ¬ (x < 0) := by omega
  have g3 : ¬ (A.N ≤ x) := by omega
  have g4 : ¬ (A.N - x < (m : Int)) := by omega
  have g5 : ¬ ((m : Int) = 0) := by omega
  have hr1 : (M : Int).tmod 512 = 0 := by rw [hM, Int.tmod_eq_emod_of_nonneg (by omega)]; omega
  have hr2 : (M : Int).tdiv 512 = (m : Int) := by rw [hM, Int.tdiv_eq_ediv_of_nonneg (by omega)]; omega
  have ew : IntKind.i64.wrap (A.N - x) = A.N - x := IntWalk.i64_in _ (by omega)
  have hmk := run_make_row' (P := Try.prog) 42 5 (.int .u8 0) 1 Try.underlying42 info5 rfl .i64 .i64 512 (by omega) (by omega)
  rw [show ((512 : Nat) : Int) = 512 by omega] at hmk
  have HD := hid d
  have HM := hid hM
  have HDat := hid hdat
  have HL5 := hid hl5
  have HVL := hid hvl
  clear d hvl hM hdat hl5
  go_enter Try.func22, Try.ntmps22
  go_wp2_with fail
  go_loopw [8] (fun i wr => ∃ k : Nat, k ≤ m ∧ i = .int .i64 k ∧ ∃ vL' es' al', RDiskAt wr px vL' es' (wrA A x (ls.take k)) al' ∧ es'.length ≤ n + k ∧ (∀ b, al' b → al b ∨ w.heap.size ≤ b) ∧ Mods al w wr) (fun i _ => m - (RowKit.intOf i).toNat)
  case atStart => exact ⟨0, Nat.zero_le _, rfl, vL, es, al, by rw [List.take_zero, wrA_nil]; exact HD.out, by omega, fun b h => .inl h, Mods.refl _ _⟩
  case round =>
    obtain ⟨k, hk, rfl, vL', es', al', d, hel', hal', hmo⟩ := hrel
    have HDk := hid d
    have HMo := hid hmo
    have HAl := hid hal'
    by_cases hlt : k < m
    · have hki : (k : Int) < m := by omega
      have ew2 : IntKind.i64.wrap (x + (k : Int)) = x + k := IntWalk.i64_in _ (by omega)
      have ew3 : IntKind.i64.wrap ((k : Int) * 512) = 512 * (k : Int) := by rw [IntWalk.i64_in _ (by omega)]; omega
      have ew4 : IntKind.i64.wrap ((k : Int) + 1) = (k : Int) + 1 := IntWalk.i64_in _ (by omega)
      have ew5 : IntKind.i64.wrap (((k : Int) + 1) * 512) = 512 * (k : Int) + 512 := by rw [IntWalk.i64_in _ (by omega)]; omega
      have hsl := cut_run4 b 0 M cap (512 * k) (512 * k + 512) (by omega) (by rw [HM.out]; omega) hcap
      rw [Nat.zero_add, show 512 * k + 512 - 512 * k = 512 by omega, show ((512 * k + 512 : Nat) : Int) = 512 * (k : Int) + 512 by omega, show ((512 * k : Nat) : Int) = 512 * (k : Int) by omega] at hsl
      have hat := hid (At_any wr px vL' es' _ al' d (by omega) (x + k))
      have hxI : IsI (x + k) := isI_of (by omega) (by omega)
      have htk : ls.take (k + 1) = ls.take k ++ [ls.getD k []] := by
        rw [List.take_add_one, List.getElem?_eq_getElem (by omega)]
        simp [List.getD, List.getElem?_eq_getElem (show k < ls.length by omega)]
      have hnext : wr1 (wrA A x (ls.take k)) (x + k) (ls.getD k []) = wrA A x (ls.take (k + 1)) := by
        rw [htk, wrA_snoc, List.length_take, Nat.min_eq_left (by omega)]
        rfl
      have hvlk : ((wrA A x (ls.take k)).V (x + k)).length ≤ 1099511627776 := by have := wrA_len A x (ls.take k) (x + k); have := HVL.out (x + k); omega
      have HNx := hid hnext
      have HVk := hid hvlk
      clear d hmo hal' htk hnext hvlk
      cases hf : findAt es' (x + k) with
      | none =>
        rw [hf] at hat
        obtain ⟨vP, w4, hr4, hc4a, hc4b, hf4, ⟨gP, cP, rfl⟩, HP⟩ := push_runs HDk.out (x + k) hxI (findAt_none hf) (by omega)
        obtain ⟨w5, hw5⟩ : ∃ w5, w5 = w4.setCell ⟨px, 1, none⟩ (.slice (some ⟨gP, 0, none⟩) (es'.length + 1) cP) := ⟨_, rfl⟩
        rw [← hw5] at HP
        obtain ⟨alp, dp, halp, hmop⟩ := HP.out
        have hmo2 : Mods al w w5 := HMo.out.trans hmop HAl.out
        have hsrc : ∀ i, i < 512 → w5.cell? ⟨b, 512 * k + i, none⟩ = some (.int .u8 ((ls.getD k []).getD i 0)) := fun i hi => (World.cell?_of_block (w := w) (hmo2.block b hb hnb)).trans (HDat.out k hlt i hi)
        obtain ⟨v82, w82, v84, w84, q1, q2, q3, q4, q5, q6, q7, q8, ⟨⟨g82, c82, rfl⟩, g84, c84, e84⟩, HF⟩ := wrote_en dp ⟨x + k, wr.heap.size + 1, .slice (some ⟨wr.heap.size, 0, none⟩) 512 512, .slice none 0 0⟩ (by simp) b (512 * k) (cap - 512 * k) (ls.getD k []) (HL5.out k hlt) hsrc HVk.out (by show 0 ≤ x + (k : Int) ∧ x + (k : Int) < A.N; omega)
        simp only at q1 q2 q3 q4 q5 q6 q7 q8 HF e84
        generalize ((wrA A x (ls.take k)).V (x + k)).length + 1 = L84 at e84
        subst e84
        have HFin : Hid (∃ vL' es' al', RDiskAt (w84.setCell ⟨wr.heap.size + 1, 2, none⟩ (.slice (some ⟨g84, 0, none⟩) L84 c84)) px vL' es' (wrA A x (ls.take (k + 1))) al' ∧ es'.length ≤ n + (k + 1) ∧ (∀ b, al' b → al b ∨ w.heap.size ≤ b) ∧ Mods al w (w84.setCell ⟨wr.heap.size + 1, 2, none⟩ (.slice (some ⟨g84, 0, none⟩) L84 c84))) := hid (by
          obtain ⟨es2, al2, h1, h2, h3, h4⟩ := HF.out
          rw [HNx.out] at h1
          refine ⟨_, es2, al2, h1, by rw [h2, List.length_append, List.length_singleton]; omega, fun b hb2 => ?_, hmo2.trans h4 (fun b hb2 => ?_)⟩
          · rcases h3 b hb2 with h5 | h5
            · rcases halp b h5 with h6 | h6
              · exact HAl.out b h6
              · right; have := HMo.out.size; omega
            · right; have := hmo2.size; omega
          · rcases halp b hb2 with h6 | h6
            · exact HAl.out b h6
            · right; have := HMo.out.size; omega)
        have q4' : (w5.alloc (.cells #[] 5)).cell? ⟨wr.heap.size + 1, 2, none⟩ = some (.slice none 0 0) := q4
        clear hf HP dp halp hmop hmo2 hsrc HF
        go_wp2_with fail
        refine hat.out.mono ?_
        rintro e w2 ⟨rfl, hw⟩
        rw [hw]
        clear hw w2
        simp only [ptrOf]
        go_wp2_with (at_builtin; refine wpList_append_run rfl _ _ 35 rfl rfl rfl hr4 ?_)
        rw [← hw5]
        clear hw5 hr4 hc4a hc4b hf4
        refine wp_region_held_drew (S := fun _ => True) (by kernel_rfl) trivial (fun hS => ?_)
        refine any_take 0 69 (.pointer (some ⟨wr.heap.size + 1, 0, none⟩)) rfl rfl (by kernel_rfl) (by kernel_rfl) (by kernel_rfl) (fun _ _ _ h => h) (Or.inl ⟨by rfl, ?_⟩) hS ?_
        · rintro w' hw'
          go_simp
        simp only [List.setIfInBounds_toArray, List.set_cons_zero, List.set_cons_succ]
        refine any_take 1 70 (.pointer (some ⟨wr.heap.size + 1, 0, none⟩)) rfl rfl (by kernel_rfl) (by kernel_rfl) (by kernel_rfl) (fun _ _ _ h => h) (Or.inl ⟨by rfl, ?_⟩) hS ?_
        · rintro w' hw'
          go_simp
        simp only [List.setIfInBounds_toArray, List.set_cons_zero, List.set_cons_succ]
        refine any_take 2 71 (.pointer (some ⟨wr.heap.size + 1, 0, none⟩)) rfl rfl (by kernel_rfl) (by kernel_rfl) (by kernel_rfl) (fun _ _ _ h => h) (Or.inl ⟨by rfl, ?_⟩) hS ?_
        · rintro w' hw'
          go_simp
        simp only [List.setIfInBounds_toArray, List.set_cons_zero, List.set_cons_succ]
        refine any_take 3 72 (.pointer (some ⟨wr.heap.size + 1, 2, none⟩)) rfl rfl (by kernel_rfl) (by kernel_rfl) (by kernel_rfl) (fun _ _ _ h => h) (Or.inl ⟨by rfl, ?_⟩) hS ?_
        · rintro w' hw'
          go_simp
        simp only [List.setIfInBounds_toArray, List.set_cons_zero, List.set_cons_succ]
        refine any_take 6 75 (.slice (some ⟨b, 0, none⟩) M cap) rfl rfl (by kernel_rfl) (by kernel_rfl) (by kernel_rfl) (fun _ _ _ h => h) (Or.inl ⟨by rfl, ?_⟩) hS ?_
        · rintro w' hw'
          go_simp
        simp only [List.setIfInBounds_toArray, List.set_cons_zero, List.set_cons_succ]
        refine any_take 7 76 (.int .i64 k) rfl rfl (by kernel_rfl) (by kernel_rfl) (by kernel_rfl) (fun _ _ _ h => h) (Or.inl ⟨by rfl, ?_⟩) hS ?_
        · rintro w' hw'
          go_simp
        simp only [List.setIfInBounds_toArray, List.set_cons_zero, List.set_cons_succ]
        refine any_take 8 77 (.int .i64 (512 * (k : Int))) rfl rfl (by kernel_rfl) (by kernel_rfl) (by kernel_rfl) (fun _ _ _ h => h) (Or.inl ⟨by rfl, ?_⟩) hS ?_
        · rintro w' hw'
          go_simp
        simp only [List.setIfInBounds_toArray, List.set_cons_zero, List.set_cons_succ]
        refine any_take 9 78 (.int .i64 k) rfl rfl (by kernel_rfl) (by kernel_rfl) (by kernel_rfl) (fun _ _ _ h => h) (Or.inl ⟨by rfl, ?_⟩) hS ?_
        · rintro w' hw'
          go_simp
        simp only [List.setIfInBounds_toArray, List.set_cons_zero, List.set_cons_succ]
        refine any_take 10 79 (.int .i64 ((k : Int) + 1)) rfl rfl (by kernel_rfl) (by kernel_rfl) (by kernel_rfl) (fun _ _ _ h => h) (Or.inl ⟨by rfl, ?_⟩) hS ?_
        · rintro w' hw'
          go_simp
        simp only [List.setIfInBounds_toArray, List.set_cons_zero, List.set_cons_succ]
        refine any_take 11 80 (.int .i64 (512 * (k : Int) + 512)) rfl rfl (by kernel_rfl) (by kernel_rfl) (by kernel_rfl) (fun _ _ _ h => h) (Or.inl ⟨by rfl, ?_⟩) hS ?_
        · rintro w' hw'
          go_simp
        simp only [List.setIfInBounds_toArray, List.set_cons_zero, List.set_cons_succ]
        refine any_take 12 81 (.slice (some ⟨b, 512 * k, none⟩) 512 (cap - 512 * k)) rfl rfl (by kernel_rfl) (by kernel_rfl) (by kernel_rfl) (fun _ _ _ h => h) (Or.inl ⟨by rfl, ?_⟩) hS ?_
        · rintro w' hw'
          go_simp
        simp only [List.setIfInBounds_toArray, List.set_cons_zero, List.set_cons_succ]
        refine any_two 4 5 (by kernel_rfl) ?_ ?_
        · refine op_value' 73 (v := .slice none 0 0) (w' := w5.drew) rfl (by rfl) rfl (by go_simp) ⟨trivial, ?_⟩
          simp only [List.setIfInBounds_toArray, List.set_cons_zero, List.set_cons_succ]
          refine any_one 5 (by kernel_rfl) ?_
          refine op_value' 74 (v := .slice (some ⟨w5.heap.size, 0, none⟩) 0 0) (w' := (w5.drew.alloc (.cells #[] 5))) rfl (by rfl) rfl (by go_simp) ⟨trivial, ?_⟩
          simp only [List.setIfInBounds_toArray, List.set_cons_zero, List.set_cons_succ]
          refine any_one 13 (by kernel_rfl) ?_
          refine op_append' 82 (v := .slice (some ⟨w5.heap.size, 0, none⟩) 0 0) (y := .slice (some ⟨b, 512 * k, none⟩) 512 (cap - 512 * k)) (v' := .slice (some ⟨g82, 0, none⟩) 512 c82) (w' := w82) rfl (by rfl) rfl (.tmp 74) (.tmp 81) 42 rfl rfl rfl 42 rfl q1 ⟨trivial, ?_⟩
          simp only [List.setIfInBounds_toArray, List.set_cons_zero, List.set_cons_succ]
          refine any_one 14 (by kernel_rfl) ?_
          refine op_value' 83 (v := .slice (some ⟨w82.heap.size, 0, none⟩) 1 1) (w' := (w82.alloc (.cells #[.slice (some ⟨g82, 0, none⟩) 512 c82] 42))) rfl (by rfl) rfl (by go_simp) ⟨trivial, ?_⟩
          simp only [List.setIfInBounds_toArray, List.set_cons_zero, List.set_cons_succ]
          refine any_one 15 (by kernel_rfl) ?_
          refine op_append' 84 (v := .slice none 0 0) (y := .slice (some ⟨w82.heap.size, 0, none⟩) 1 1) (v' := .slice (some ⟨g84, 0, none⟩) L84 c84) (w' := w84) rfl (by rfl) rfl (.tmp 73) (.tmp 83) 71 rfl rfl rfl 71 rfl q2 ⟨trivial, ?_⟩
          simp only [List.setIfInBounds_toArray, List.set_cons_zero, List.set_cons_succ]
          refine any_one 16 (by kernel_rfl) ?_
          refine op_value' 85 (v := .pointer (some ⟨wr.heap.size + 1, 0, none⟩)) (w' := w84) rfl (by rfl) rfl (by go_simp) ⟨trivial, ?_⟩
          simp only [List.setIfInBounds_toArray, List.set_cons_zero, List.set_cons_succ]
          refine any_one 17 (by kernel_rfl) ?_
          refine op_value' 86 (v := .pointer (some ⟨wr.heap.size + 1, 2, none⟩)) (w' := w84) rfl (by rfl) rfl (by go_simp) ⟨trivial, ?_⟩
          simp only [List.setIfInBounds_toArray, List.set_cons_zero, List.set_cons_succ]
          refine any_one 18 (by kernel_rfl) ?_
          refine op_skip (w' := w84.setCell ⟨wr.heap.size + 1, 2, none⟩ (.slice (some ⟨g84, 0, none⟩) L84 c84)) rfl (by rfl) (by go_simp) ⟨trivial, ?_⟩
          refine wpAnyH_done (by kernel_rfl) ?_ _
          go_wp2
          go_roundw
          case rel => exact ⟨k + 1, by omega, by go_num, HFin.out⟩
          case measure => simp [RowKit.intOf]; omega
        · refine op_value' 74 (v := .slice (some ⟨w5.heap.size, 0, none⟩) 0 0) (w' := (w5.drew.alloc (.cells #[] 5))) rfl (by rfl) rfl (by go_simp) ⟨trivial, ?_⟩
          simp only [List.setIfInBounds_toArray, List.set_cons_zero, List.set_cons_succ]
          refine any_two 4 13 (by kernel_rfl) ?_ ?_
          · refine op_value' 73 (v := .slice none 0 0) (w' := (w5.drew.alloc (.cells #[] 5))) rfl (by rfl) rfl (by go_simp) ⟨trivial, ?_⟩
            simp only [List.setIfInBounds_toArray, List.set_cons_zero, List.set_cons_succ]
            refine any_one 13 (by kernel_rfl) ?_
            refine op_append' 82 (v := .slice (some ⟨w5.heap.size, 0, none⟩) 0 0) (y := .slice (some ⟨b, 512 * k, none⟩) 512 (cap - 512 * k)) (v' := .slice (some ⟨g82, 0, none⟩) 512 c82) (w' := w82) rfl (by rfl) rfl (.tmp 74) (.tmp 81) 42 rfl rfl rfl 42 rfl q1 ⟨trivial, ?_⟩
            simp only [List.setIfInBounds_toArray, List.set_cons_zero, List.set_cons_succ]
            refine any_one 14 (by kernel_rfl) ?_
            refine op_value' 83 (v := .slice (some ⟨w82.heap.size, 0, none⟩) 1 1) (w' := (w82.alloc (.cells #[.slice (some ⟨g82, 0, none⟩) 512 c82] 42))) rfl (by rfl) rfl (by go_simp) ⟨trivial, ?_⟩
            simp only [List.setIfInBounds_toArray, List.set_cons_zero, List.set_cons_succ]
            refine any_one 15 (by kernel_rfl) ?_
            refine op_append' 84 (v := .slice none 0 0) (y := .slice (some ⟨w82.heap.size, 0, none⟩) 1 1) (v' := .slice (some ⟨g84, 0, none⟩) L84 c84) (w' := w84) rfl (by rfl) rfl (.tmp 73) (.tmp 83) 71 rfl rfl rfl 71 rfl q2 ⟨trivial, ?_⟩
            simp only [List.setIfInBounds_toArray, List.set_cons_zero, List.set_cons_succ]
            refine any_one 16 (by kernel_rfl) ?_
            refine op_value' 85 (v := .pointer (some ⟨wr.heap.size + 1, 0, none⟩)) (w' := w84) rfl (by rfl) rfl (by go_simp) ⟨trivial, ?_⟩
            simp only [List.setIfInBounds_toArray, List.set_cons_zero, List.set_cons_succ]
            refine any_one 17 (by kernel_rfl) ?_
            refine op_value' 86 (v := .pointer (some ⟨wr.heap.size + 1, 2, none⟩)) (w' := w84) rfl (by rfl) rfl (by go_simp) ⟨trivial, ?_⟩
            simp only [List.setIfInBounds_toArray, List.set_cons_zero, List.set_cons_succ]
            refine any_one 18 (by kernel_rfl) ?_
            refine op_skip (w' := w84.setCell ⟨wr.heap.size + 1, 2, none⟩ (.slice (some ⟨g84, 0, none⟩) L84 c84)) rfl (by rfl) (by go_simp) ⟨trivial, ?_⟩
            refine wpAnyH_done (by kernel_rfl) ?_ _
            go_wp2
            go_roundw
            case rel => exact ⟨k + 1, by omega, by go_num, HFin.out⟩
            case measure => simp [RowKit.intOf]; omega
          · refine op_append' 82 (v := .slice (some ⟨w5.heap.size, 0, none⟩) 0 0) (y := .slice (some ⟨b, 512 * k, none⟩) 512 (cap - 512 * k)) (v' := .slice (some ⟨g82, 0, none⟩) 512 c82) (w' := w82) rfl (by rfl) rfl (.tmp 74) (.tmp 81) 42 rfl rfl rfl 42 rfl q1 ⟨trivial, ?_⟩
            simp only [List.setIfInBounds_toArray, List.set_cons_zero, List.set_cons_succ]
            refine any_two 4 14 (by kernel_rfl) ?_ ?_
            · refine op_value' 73 (v := .slice none 0 0) (w' := w82) rfl (by rfl) rfl (by go_simp) ⟨trivial, ?_⟩
              simp only [List.setIfInBounds_toArray, List.set_cons_zero, List.set_cons_succ]
              refine any_one 14 (by kernel_rfl) ?_
              refine op_value' 83 (v := .slice (some ⟨w82.heap.size, 0, none⟩) 1 1) (w' := (w82.alloc (.cells #[.slice (some ⟨g82, 0, none⟩) 512 c82] 42))) rfl (by rfl) rfl (by go_simp) ⟨trivial, ?_⟩
              simp only [List.setIfInBounds_toArray, List.set_cons_zero, List.set_cons_succ]
              refine any_one 15 (by kernel_rfl) ?_
              refine op_append' 84 (v := .slice none 0 0) (y := .slice (some ⟨w82.heap.size, 0, none⟩) 1 1) (v' := .slice (some ⟨g84, 0, none⟩) L84 c84) (w' := w84) rfl (by rfl) rfl (.tmp 73) (.tmp 83) 71 rfl rfl rfl 71 rfl q2 ⟨trivial, ?_⟩
              simp only [List.setIfInBounds_toArray, List.set_cons_zero, List.set_cons_succ]
              refine any_one 16 (by kernel_rfl) ?_
              refine op_value' 85 (v := .pointer (some ⟨wr.heap.size + 1, 0, none⟩)) (w' := w84) rfl (by rfl) rfl (by go_simp) ⟨trivial, ?_⟩
              simp only [List.setIfInBounds_toArray, List.set_cons_zero, List.set_cons_succ]
              refine any_one 17 (by kernel_rfl) ?_
              refine op_value' 86 (v := .pointer (some ⟨wr.heap.size + 1, 2, none⟩)) (w' := w84) rfl (by rfl) rfl (by go_simp) ⟨trivial, ?_⟩
              simp only [List.setIfInBounds_toArray, List.set_cons_zero, List.set_cons_succ]
              refine any_one 18 (by kernel_rfl) ?_
              refine op_skip (w' := w84.setCell ⟨wr.heap.size + 1, 2, none⟩ (.slice (some ⟨g84, 0, none⟩) L84 c84)) rfl (by rfl) (by go_simp) ⟨trivial, ?_⟩
              refine wpAnyH_done (by kernel_rfl) ?_ _
              go_wp2
              go_roundw
              case rel => exact ⟨k + 1, by omega, by go_num, HFin.out⟩
              case measure => simp [RowKit.intOf]; omega
            · refine op_value' 83 (v := .slice (some ⟨w82.heap.size, 0, none⟩) 1 1) (w' := (w82.alloc (.cells #[.slice (some ⟨g82, 0, none⟩) 512 c82] 42))) rfl (by rfl) rfl (by go_simp) ⟨trivial, ?_⟩
              simp only [List.setIfInBounds_toArray, List.set_cons_zero, List.set_cons_succ]
              refine any_one 4 (by kernel_rfl) ?_
              refine op_value' 73 (v := .slice none 0 0) (w' := (w82.alloc (.cells #[.slice (some ⟨g82, 0, none⟩) 512 c82] 42))) rfl (by rfl) rfl (by go_simp) ⟨trivial, ?_⟩
              simp only [List.setIfInBounds_toArray, List.set_cons_zero, List.set_cons_succ]
              refine any_one 15 (by kernel_rfl) ?_
              refine op_append' 84 (v := .slice none 0 0) (y := .slice (some ⟨w82.heap.size, 0, none⟩) 1 1) (v' := .slice (some ⟨g84, 0, none⟩) L84 c84) (w' := w84) rfl (by rfl) rfl (.tmp 73) (.tmp 83) 71 rfl rfl rfl 71 rfl q2 ⟨trivial, ?_⟩
              simp only [List.setIfInBounds_toArray, List.set_cons_zero, List.set_cons_succ]
              refine any_one 16 (by kernel_rfl) ?_
              refine op_value' 85 (v := .pointer (some ⟨wr.heap.size + 1, 0, none⟩)) (w' := w84) rfl (by rfl) rfl (by go_simp) ⟨trivial, ?_⟩
              simp only [List.setIfInBounds_toArray, List.set_cons_zero, List.set_cons_succ]
              refine any_one 17 (by kernel_rfl) ?_
              refine op_value' 86 (v := .pointer (some ⟨wr.heap.size + 1, 2, none⟩)) (w' := w84) rfl (by rfl) rfl (by go_simp) ⟨trivial, ?_⟩
              simp only [List.setIfInBounds_toArray, List.set_cons_zero, List.set_cons_succ]
              refine any_one 18 (by kernel_rfl) ?_
              refine op_skip (w' := w84.setCell ⟨wr.heap.size + 1, 2, none⟩ (.slice (some ⟨g84, 0, none⟩) L84 c84)) rfl (by rfl) (by go_simp) ⟨trivial, ?_⟩
              refine wpAnyH_done (by kernel_rfl) ?_ _
              go_wp2
              go_roundw
              case rel => exact ⟨k + 1, by omega, by go_num, HFin.out⟩
              case measure => simp [RowKit.intOf]; omega
      | some en =>
        rw [hf] at hat
        obtain ⟨hmem, hek⟩ := findAt_some hf
        have hsrc : ∀ i, i < 512 → wr.cell? ⟨b, 512 * k + i, none⟩ = some (.int .u8 ((ls.getD k []).getD i 0)) := fun i hi => (World.cell?_of_block (w := w) (HMo.out.block b hb hnb)).trans (HDat.out k hlt i hi)
        obtain ⟨v82, w82, v84, w84, q1, q2, q3, q4, q5, q6, q7, q8, ⟨⟨g82, c82, rfl⟩, g84, c84, e84⟩, HF⟩ := wrote_en HDk.out en hmem b (512 * k) (cap - 512 * k) (ls.getD k []) (HL5.out k hlt) hsrc (by rw [hek]; exact HVk.out) (by rw [hek]; show 0 ≤ x + (k : Int) ∧ x + (k : Int) < A.N; omega)
        generalize ((wrA A x (ls.take k)).V en.at_).length + 1 = L84 at e84
        subst e84
        have HFin : Hid (∃ vL' es' al', RDiskAt (w84.setCell ⟨en.ad, 2, none⟩ (.slice (some ⟨g84, 0, none⟩) L84 c84)) px vL' es' (wrA A x (ls.take (k + 1))) al' ∧ es'.length ≤ n + (k + 1) ∧ (∀ b, al' b → al b ∨ w.heap.size ≤ b) ∧ Mods al w (w84.setCell ⟨en.ad, 2, none⟩ (.slice (some ⟨g84, 0, none⟩) L84 c84))) := hid (by
          obtain ⟨es2, al2, h1, h2, h3, h4⟩ := HF.out
          rw [hek, HNx.out] at h1
          refine ⟨_, es2, al2, h1, by rw [h2]; omega, fun b hb2 => ?_, HMo.out.trans h4 HAl.out⟩
          rcases h3 b hb2 with h5 | h5
          · exact HAl.out b h5
          · right; have := HMo.out.size; omega)
        have q4' : (wr.alloc (.cells #[] 5)).cell? ⟨en.ad, 2, none⟩ = some en.vv := q4
        clear hf hmem hek hsrc HF
        go_wp2_with fail
        refine hat.out.mono ?_
        rintro e w2 ⟨rfl, hw⟩
        rw [hw]
        clear hw w2
        simp only [ptrOf]
        go_wp2_with fail
        refine wp_region_held_drew (S := fun _ => True) (by kernel_rfl) trivial (fun hS => ?_)
        refine any_take 0 69 (.pointer (some ⟨en.ad, 0, none⟩)) rfl rfl (by kernel_rfl) (by kernel_rfl) (by kernel_rfl) (fun _ _ _ h => h) (Or.inl ⟨by rfl, ?_⟩) hS ?_
        · rintro w' hw'
          go_simp
        simp only [List.setIfInBounds_toArray, List.set_cons_zero, List.set_cons_succ]
        refine any_take 1 70 (.pointer (some ⟨en.ad, 0, none⟩)) rfl rfl (by kernel_rfl) (by kernel_rfl) (by kernel_rfl) (fun _ _ _ h => h) (Or.inl ⟨by rfl, ?_⟩) hS ?_
        · rintro w' hw'
          go_simp
        simp only [List.setIfInBounds_toArray, List.set_cons_zero, List.set_cons_succ]
        refine any_take 2 71 (.pointer (some ⟨en.ad, 0, none⟩)) rfl rfl (by kernel_rfl) (by kernel_rfl) (by kernel_rfl) (fun _ _ _ h => h) (Or.inl ⟨by rfl, ?_⟩) hS ?_
        · rintro w' hw'
          go_simp
        simp only [List.setIfInBounds_toArray, List.set_cons_zero, List.set_cons_succ]
        refine any_take 3 72 (.pointer (some ⟨en.ad, 2, none⟩)) rfl rfl (by kernel_rfl) (by kernel_rfl) (by kernel_rfl) (fun _ _ _ h => h) (Or.inl ⟨by rfl, ?_⟩) hS ?_
        · rintro w' hw'
          go_simp
        simp only [List.setIfInBounds_toArray, List.set_cons_zero, List.set_cons_succ]
        refine any_take 6 75 (.slice (some ⟨b, 0, none⟩) M cap) rfl rfl (by kernel_rfl) (by kernel_rfl) (by kernel_rfl) (fun _ _ _ h => h) (Or.inl ⟨by rfl, ?_⟩) hS ?_
        · rintro w' hw'
          go_simp
        simp only [List.setIfInBounds_toArray, List.set_cons_zero, List.set_cons_succ]
        refine any_take 7 76 (.int .i64 k) rfl rfl (by kernel_rfl) (by kernel_rfl) (by kernel_rfl) (fun _ _ _ h => h) (Or.inl ⟨by rfl, ?_⟩) hS ?_
        · rintro w' hw'
          go_simp
        simp only [List.setIfInBounds_toArray, List.set_cons_zero, List.set_cons_succ]
        refine any_take 8 77 (.int .i64 (512 * (k : Int))) rfl rfl (by kernel_rfl) (by kernel_rfl) (by kernel_rfl) (fun _ _ _ h => h) (Or.inl ⟨by rfl, ?_⟩) hS ?_
        · rintro w' hw'
          go_simp
        simp only [List.setIfInBounds_toArray, List.set_cons_zero, List.set_cons_succ]
        refine any_take 9 78 (.int .i64 k) rfl rfl (by kernel_rfl) (by kernel_rfl) (by kernel_rfl) (fun _ _ _ h => h) (Or.inl ⟨by rfl, ?_⟩) hS ?_
        · rintro w' hw'
          go_simp
        simp only [List.setIfInBounds_toArray, List.set_cons_zero, List.set_cons_succ]
        refine any_take 10 79 (.int .i64 ((k : Int) + 1)) rfl rfl (by kernel_rfl) (by kernel_rfl) (by kernel_rfl) (fun _ _ _ h => h) (Or.inl ⟨by rfl, ?_⟩) hS ?_
        · rintro w' hw'
          go_simp
        simp only [List.setIfInBounds_toArray, List.set_cons_zero, List.set_cons_succ]
        refine any_take 11 80 (.int .i64 (512 * (k : Int) + 512)) rfl rfl (by kernel_rfl) (by kernel_rfl) (by kernel_rfl) (fun _ _ _ h => h) (Or.inl ⟨by rfl, ?_⟩) hS ?_
        · rintro w' hw'
          go_simp
        simp only [List.setIfInBounds_toArray, List.set_cons_zero, List.set_cons_succ]
        refine any_take 12 81 (.slice (some ⟨b, 512 * k, none⟩) 512 (cap - 512 * k)) rfl rfl (by kernel_rfl) (by kernel_rfl) (by kernel_rfl) (fun _ _ _ h => h) (Or.inl ⟨by rfl, ?_⟩) hS ?_
        · rintro w' hw'
          go_simp
        simp only [List.setIfInBounds_toArray, List.set_cons_zero, List.set_cons_succ]
        refine any_two 4 5 (by kernel_rfl) ?_ ?_
        · refine op_value' 73 (v := en.vv) (w' := wr.drew) rfl (by rfl) rfl (by go_simp) ⟨trivial, ?_⟩
          simp only [List.setIfInBounds_toArray, List.set_cons_zero, List.set_cons_succ]
          refine any_one 5 (by kernel_rfl) ?_
          refine op_value' 74 (v := .slice (some ⟨wr.heap.size, 0, none⟩) 0 0) (w' := (wr.drew.alloc (.cells #[] 5))) rfl (by rfl) rfl (by go_simp) ⟨trivial, ?_⟩
          simp only [List.setIfInBounds_toArray, List.set_cons_zero, List.set_cons_succ]
          refine any_one 13 (by kernel_rfl) ?_
          refine op_append' 82 (v := .slice (some ⟨wr.heap.size, 0, none⟩) 0 0) (y := .slice (some ⟨b, 512 * k, none⟩) 512 (cap - 512 * k)) (v' := .slice (some ⟨g82, 0, none⟩) 512 c82) (w' := w82) rfl (by rfl) rfl (.tmp 74) (.tmp 81) 42 rfl rfl rfl 42 rfl q1 ⟨trivial, ?_⟩
          simp only [List.setIfInBounds_toArray, List.set_cons_zero, List.set_cons_succ]
          refine any_one 14 (by kernel_rfl) ?_
          refine op_value' 83 (v := .slice (some ⟨w82.heap.size, 0, none⟩) 1 1) (w' := (w82.alloc (.cells #[.slice (some ⟨g82, 0, none⟩) 512 c82] 42))) rfl (by rfl) rfl (by go_simp) ⟨trivial, ?_⟩
          simp only [List.setIfInBounds_toArray, List.set_cons_zero, List.set_cons_succ]
          refine any_one 15 (by kernel_rfl) ?_
          refine op_append' 84 (v := en.vv) (y := .slice (some ⟨w82.heap.size, 0, none⟩) 1 1) (v' := .slice (some ⟨g84, 0, none⟩) L84 c84) (w' := w84) rfl (by rfl) rfl (.tmp 73) (.tmp 83) 71 rfl rfl rfl 71 rfl q2 ⟨trivial, ?_⟩
          simp only [List.setIfInBounds_toArray, List.set_cons_zero, List.set_cons_succ]
          refine any_one 16 (by kernel_rfl) ?_
          refine op_value' 85 (v := .pointer (some ⟨en.ad, 0, none⟩)) (w' := w84) rfl (by rfl) rfl (by go_simp) ⟨trivial, ?_⟩
          simp only [List.setIfInBounds_toArray, List.set_cons_zero, List.set_cons_succ]
          refine any_one 17 (by kernel_rfl) ?_
          refine op_value' 86 (v := .pointer (some ⟨en.ad, 2, none⟩)) (w' := w84) rfl (by rfl) rfl (by go_simp) ⟨trivial, ?_⟩
          simp only [List.setIfInBounds_toArray, List.set_cons_zero, List.set_cons_succ]
          refine any_one 18 (by kernel_rfl) ?_
          refine op_skip (w' := w84.setCell ⟨en.ad, 2, none⟩ (.slice (some ⟨g84, 0, none⟩) L84 c84)) rfl (by rfl) (by go_simp) ⟨trivial, ?_⟩
          refine wpAnyH_done (by kernel_rfl) ?_ _
          go_wp2
          go_roundw
          case rel => exact ⟨k + 1, by omega, by go_num, HFin.out⟩
          case measure => simp [RowKit.intOf]; omega
        · refine op_value' 74 (v := .slice (some ⟨wr.heap.size, 0, none⟩) 0 0) (w' := (wr.drew.alloc (.cells #[] 5))) rfl (by rfl) rfl (by go_simp) ⟨trivial, ?_⟩
          simp only [List.setIfInBounds_toArray, List.set_cons_zero, List.set_cons_succ]
          refine any_two 4 13 (by kernel_rfl) ?_ ?_
          · refine op_value' 73 (v := en.vv) (w' := (wr.drew.alloc (.cells #[] 5))) rfl (by rfl) rfl (by go_simp) ⟨trivial, ?_⟩
            simp only [List.setIfInBounds_toArray, List.set_cons_zero, List.set_cons_succ]
            refine any_one 13 (by kernel_rfl) ?_
            refine op_append' 82 (v := .slice (some ⟨wr.heap.size, 0, none⟩) 0 0) (y := .slice (some ⟨b, 512 * k, none⟩) 512 (cap - 512 * k)) (v' := .slice (some ⟨g82, 0, none⟩) 512 c82) (w' := w82) rfl (by rfl) rfl (.tmp 74) (.tmp 81) 42 rfl rfl rfl 42 rfl q1 ⟨trivial, ?_⟩
            simp only [List.setIfInBounds_toArray, List.set_cons_zero, List.set_cons_succ]
            refine any_one 14 (by kernel_rfl) ?_
            refine op_value' 83 (v := .slice (some ⟨w82.heap.size, 0, none⟩) 1 1) (w' := (w82.alloc (.cells #[.slice (some ⟨g82, 0, none⟩) 512 c82] 42))) rfl (by rfl) rfl (by go_simp) ⟨trivial, ?_⟩
            simp only [List.setIfInBounds_toArray, List.set_cons_zero, List.set_cons_succ]
            refine any_one 15 (by kernel_rfl) ?_
            refine op_append' 84 (v := en.vv) (y := .slice (some ⟨w82.heap.size, 0, none⟩) 1 1) (v' := .slice (some ⟨g84, 0, none⟩) L84 c84) (w' := w84) rfl (by rfl) rfl (.tmp 73) (.tmp 83) 71 rfl rfl rfl 71 rfl q2 ⟨trivial, ?_⟩
            simp only [List.setIfInBounds_toArray, List.set_cons_zero, List.set_cons_succ]
            refine any_one 16 (by kernel_rfl) ?_
            refine op_value' 85 (v := .pointer (some ⟨en.ad, 0, none⟩)) (w' := w84) rfl (by rfl) rfl (by go_simp) ⟨trivial, ?_⟩
            simp only [List.setIfInBounds_toArray, List.set_cons_zero, List.set_cons_succ]
            refine any_one 17 (by kernel_rfl) ?_
            refine op_value' 86 (v := .pointer (some ⟨en.ad, 2, none⟩)) (w' := w84) rfl (by rfl) rfl (by go_simp) ⟨trivial, ?_⟩
            simp only [List.setIfInBounds_toArray, List.set_cons_zero, List.set_cons_succ]
            refine any_one 18 (by kernel_rfl) ?_
            refine op_skip (w' := w84.setCell ⟨en.ad, 2, none⟩ (.slice (some ⟨g84, 0, none⟩) L84 c84)) rfl (by rfl) (by go_simp) ⟨trivial, ?_⟩
            refine wpAnyH_done (by kernel_rfl) ?_ _
            go_wp2
            go_roundw
            case rel => exact ⟨k + 1, by omega, by go_num, HFin.out⟩
            case measure => simp [RowKit.intOf]; omega
          · refine op_append' 82 (v := .slice (some ⟨wr.heap.size, 0, none⟩) 0 0) (y := .slice (some ⟨b, 512 * k, none⟩) 512 (cap - 512 * k)) (v' := .slice (some ⟨g82, 0, none⟩) 512 c82) (w' := w82) rfl (by rfl) rfl (.tmp 74) (.tmp 81) 42 rfl rfl rfl 42 rfl q1 ⟨trivial, ?_⟩
            simp only [List.setIfInBounds_toArray, List.set_cons_zero, List.set_cons_succ]
            refine any_two 4 14 (by kernel_rfl) ?_ ?_
            · refine op_value' 73 (v := en.vv) (w' := w82) rfl (by rfl) rfl (by go_simp) ⟨trivial, ?_⟩
              simp only [List.setIfInBounds_toArray, List.set_cons_zero, List.set_cons_succ]
              refine any_one 14 (by kernel_rfl) ?_
              refine op_value' 83 (v := .slice (some ⟨w82.heap.size, 0, none⟩) 1 1) (w' := (w82.alloc (.cells #[.slice (some ⟨g82, 0, none⟩) 512 c82] 42))) rfl (by rfl) rfl (by go_simp) ⟨trivial, ?_⟩
              simp only [List.setIfInBounds_toArray, List.set_cons_zero, List.set_cons_succ]
              refine any_one 15 (by kernel_rfl) ?_
              refine op_append' 84 (v := en.vv) (y := .slice (some ⟨w82.heap.size, 0, none⟩) 1 1) (v' := .slice (some ⟨g84, 0, none⟩) L84 c84) (w' := w84) rfl (by rfl) rfl (.tmp 73) (.tmp 83) 71 rfl rfl rfl 71 rfl q2 ⟨trivial, ?_⟩
              simp only [List.setIfInBounds_toArray, List.set_cons_zero, List.set_cons_succ]
              refine any_one 16 (by kernel_rfl) ?_
              refine op_value' 85 (v := .pointer (some ⟨en.ad, 0, none⟩)) (w' := w84) rfl (by rfl) rfl (by go_simp) ⟨trivial, ?_⟩
              simp only [List.setIfInBounds_toArray, List.set_cons_zero, List.set_cons_succ]
              refine any_one 17 (by kernel_rfl) ?_
              refine op_value' 86 (v := .pointer (some ⟨en.ad, 2, none⟩)) (w' := w84) rfl (by rfl) rfl (by go_simp) ⟨trivial, ?_⟩
              simp only [List.setIfInBounds_toArray, List.set_cons_zero, List.set_cons_succ]
              refine any_one 18 (by kernel_rfl) ?_
              refine op_skip (w' := w84.setCell ⟨en.ad, 2, none⟩ (.slice (some ⟨g84, 0, none⟩) L84 c84)) rfl (by rfl) (by go_simp) ⟨trivial, ?_⟩
              refine wpAnyH_done (by kernel_rfl) ?_ _
              go_wp2
              go_roundw
              case rel => exact ⟨k + 1, by omega, by go_num, HFin.out⟩
              case measure => simp [RowKit.intOf]; omega
            · refine op_value' 83 (v := .slice (some ⟨w82.heap.size, 0, none⟩) 1 1) (w' := (w82.alloc (.cells #[.slice (some ⟨g82, 0, none⟩) 512 c82] 42))) rfl (by rfl) rfl (by go_simp) ⟨trivial, ?_⟩
              simp only [List.setIfInBounds_toArray, List.set_cons_zero, List.set_cons_succ]
              refine any_one 4 (by kernel_rfl) ?_
              refine op_value' 73 (v := en.vv) (w' := (w82.alloc (.cells #[.slice (some ⟨g82, 0, none⟩) 512 c82] 42))) rfl (by rfl) rfl (by go_simp) ⟨trivial, ?_⟩
              simp only [List.setIfInBounds_toArray, List.set_cons_zero, List.set_cons_succ]
              refine any_one 15 (by kernel_rfl) ?_
              refine op_append' 84 (v := en.vv) (y := .slice (some ⟨w82.heap.size, 0, none⟩) 1 1) (v' := .slice (some ⟨g84, 0, none⟩) L84 c84) (w' := w84) rfl (by rfl) rfl (.tmp 73) (.tmp 83) 71 rfl rfl rfl 71 rfl q2 ⟨trivial, ?_⟩
              simp only [List.setIfInBounds_toArray, List.set_cons_zero, List.set_cons_succ]
              refine any_one 16 (by kernel_rfl) ?_
              refine op_value' 85 (v := .pointer (some ⟨en.ad, 0, none⟩)) (w' := w84) rfl (by rfl) rfl (by go_simp) ⟨trivial, ?_⟩
              simp only [List.setIfInBounds_toArray, List.set_cons_zero, List.set_cons_succ]
              refine any_one 17 (by kernel_rfl) ?_
              refine op_value' 86 (v := .pointer (some ⟨en.ad, 2, none⟩)) (w' := w84) rfl (by rfl) rfl (by go_simp) ⟨trivial, ?_⟩
              simp only [List.setIfInBounds_toArray, List.set_cons_zero, List.set_cons_succ]
              refine any_one 18 (by kernel_rfl) ?_
              refine op_skip (w' := w84.setCell ⟨en.ad, 2, none⟩ (.slice (some ⟨g84, 0, none⟩) L84 c84)) rfl (by rfl) (by go_simp) ⟨trivial, ?_⟩
              refine wpAnyH_done (by kernel_rfl) ?_ _
              go_wp2
              go_roundw
              case rel => exact ⟨k + 1, by omega, by go_num, HFin.out⟩
              case measure => simp [RowKit.intOf]; omega
    · have hki : ¬ ((k : Int) < m) := by omega
      obtain rfl : k = m := by omega
      clear d hmo hal'
      go_wp2
      go_ret
      refine ⟨rfl, al', ⟨vL', es', ?_, hel', fun q => ?_⟩, HAl.out, HMo.out⟩
      · have := HDk.out
        rw [List.take_of_length_le (by omega)] at this
        exact this
      · have := wrA_len A x ls q
        have := HVL.out q
        omega
end Go.Proofs.Ytdbpjdaaggenpaa
