/- point: a pointer that led nowhere leads to a block. -/
import Derived.Test.YtldlnidbeiggoaaGreatDoorIbE
import Derived.Deep.CutBlock
import Derived.Deep.DeepCutAuto
namespace Go.Proofs.YtldlnidbeiggoaaGreatDoor
open Go.RowKit Go.Maps
set_option linter.unusedVariables false

theorem run_storeRow_op {a : Act} {o : Oper} {w : World} (ty : TypeId) (x y : Operand) (ho : o.op = .store ty x y) (g : Nat) (cells : Array Value) (hx : a.eval x = .pointer (some ⟨g, 0, none⟩)) (hy : a.eval y = .agg cells)
    (t : TypeId) (old : Array Value) (hg : w.heap[g]? = some (.cells old t (0, 0))) (hi : (Tryz.prog.info? ty).map (·.size) = some cells.size) (hold : old.size = cells.size) (h1 : cells.all (·.oneCell') = true) :
    (execOp a.eval o).run Tryz.prog w = .ok .skip (w.setRow g cells) := by
  unfold execOp
  simp only [ho, hx, hy, Instr.storeAt, Instr.sureAddr, Sem.run_bind, Sem.run_pure, Result.andThen_ok, run_storeVar_row w g t ty old cells hg hi hold h1]
theorem run_loadRow_op {a : Act} {o : Oper} {w : World} (ty : TypeId) (x : Operand) (ho : o.op = .load ty x) (g : Nat) (hx : a.eval x = .pointer (some ⟨g, 0, none⟩)) (t : TypeId) (cs : Array Value) (m : Nat) (e : TypeId) (hg : w.heap[g]? = some (.cells cs t (0, 0)))
    (hu : Tryz.prog.underlying ty = some (.array m e)) (hi : (Tryz.prog.info? ty).map (·.size) = some cs.size) :
    (execOp a.eval o).run Tryz.prog w = .ok (.value (.agg cs)) w := by
  unfold execOp
  simp only [ho, hx, Instr.loadAt, Instr.sureAddr, Sem.run_bind, Sem.run_pure, Result.andThen_ok, run_loadVar_row w g t ty cs (0, 0) _ hg hu rfl hi]
theorem sizePs : (Tryz.prog.info? 243).map (·.size) = some 128 := (zero_of_info infoPs).2
set_option maxRecDepth 100000 in
set_option maxHeartbeats 2000000 in
/-- A pointer of the inode. -/
theorem point_0 (w : World) (pf pd ph slot b nx : Nat) (A : Array Value) (size : Int) (ptr : Nat → Nat) (hA : w.heap[pf]? = some (.cells A 115 (0, 0))) (hF : FileIs A pd size ptr) (hh : w.heap[ph]? = some (.cells #[n64 2, n64 (0 : Nat), n64 slot, n64 nx] 203 (0, 0))) (hs : slot < 9) :
    Calls Tryz.prog 163 #[ptrV pf, ptrV ph, n64 b] w fun e w' => e = .returned .nilIface ∧ w'.heap[pf]? = some (.cells (A.setIfInBounds (15 + slot) (n64 b)) 115 (0, 0)) ∧ Mods (fun g => g = pf) w w' := by
  have h1 : w.cell? ⟨ph, 1, none⟩ = some (.int .i64 0) := cell_of hh rfl
  have h2 : w.cell? ⟨ph, 2, none⟩ = some (n64 slot) := cell_of hh rfl
  have p1 : w.cell? ⟨pf, 15 + slot, none⟩ = some (n64 (ptr slot)) := cell_of hA (hF.ptr slot hs)
  have pz := froz_of hA (15 + slot)
  have hs' : (slot : Int) < 9 := by omega
  have HE := hid (setc hA (15 + slot) (n64 b))
  have HM : Hid (Mods (fun g => g = pf) w (w.setCell ⟨pf, 15 + slot, none⟩ (n64 b))) := hid ((Mods.refl (fun g => g = pf) w).setCell pf _ _ rfl)
  clear hA hF hh
  go_enter Tryz.func163, Tryz.ntmps163
  go_wp2_with fail
  go_region
  go_wp2
  go_ret
  exact ⟨rfl, HE.out, HM.out.drew⟩
set_option maxRecDepth 100000 in
set_option maxHeartbeats 8000000 in
/-- A pointer of a block of pointers. -/
theorem point_1 {w : World} {pd n N : Nat} {S T : Nat → Prop} {i : Int} {base : Value} {P : Int → Option (List Int)} {bc c : Nat → List Int} (hD : Dw w pd S N i base T bc n P c) (hn : n < 900000) (pf ph slot b nx blk : Nat) (A : Array Value) (size : Int) (ptr : Nat → Nat) (hA : w.heap[pf]? = some (.cells A 115 (0, 0))) (hF : FileIs A pd size ptr) (hh : w.heap[ph]? = some (.cells #[n64 2, n64 blk, n64 slot, n64 nx] 203 (0, 0))) (hs : slot < 128) (hblk : blk < N) (hb0 : blk ≠ 0) (hb : b < 4294967296) (hpf : ¬ S pf) (hph : ¬ S ph) :
    Calls Tryz.prog 163 #[ptrV pf, ptrV ph, n64 b] w fun e w' => e = .returned .nilIface ∧ ∃ S', Dw w' pd S' N i base T bc (n + 1) (upd P (blk : Int) (some (encPs ((ptrsL (c blk)).set slot b)))) (updN c blk (encPs ((ptrsL (c blk)).set slot b))) ∧ Kp S w S' w' := by
  have h1 : w.cell? ⟨ph, 1, none⟩ = some (n64 blk) := cell_of hh rfl
  have p0 : w.cell? ⟨pf, 0, none⟩ = some (ptrV pd) := cell_of hA hF.view
  have hb0' : ¬ (blk : Int) = 0 := by omega
  have HPO := hid (fun (W : World) (hbW : Below w.heap.size w W) => pointersOf_any (hD.later hbW) blk hblk)
  have HIB := hid (hD.isB blk hblk)
  have HPP := hid (fun (W : World) (hbW : Below w.heap.size w W) => putPointers_any (hD.later hbW) hn blk hblk ((ptrsL (c blk)).set slot (b : Int)) (by rw [List.length_set, ptrsL_len]) (fun x hx => by
    rcases List.mem_or_eq_of_mem_set hx with h | h
    · simp only [ptrsL, List.mem_map, List.mem_range] at h
      obtain ⟨s, _, rfl⟩ := h
      have := (pAt_bd (c blk) s HIB.out).2
      omega
    · omega))
  obtain ⟨L0, hL0⟩ : ∃ L0, L0 = ptrsL (c blk) := ⟨_, rfl⟩
  have hl0 : L0.length = 128 := by rw [hL0]; exact ptrsL_len _
  rw [← hL0] at HPO HPP ⊢
  obtain ⟨X, hX⟩ : ∃ X, X = (u64s L0).toArray := ⟨_, rfl⟩
  have hXs : X.size = 128 := by rw [hX]; simp [u64s, hl0]
  have hXa : X.all (·.oneCell') = true := by rw [hX]; simp [u64s, Value.oneCell']
  rw [← hX] at HPO
  have HXS := hid hXs
  have HXA := hid hXa
  have HXE : Hid (X.setIfInBounds slot (.int .u64 (b : Int)) = (u64s (L0.set slot (b : Int))).toArray) := hid (by rw [hX]; simp [u64s, List.map_set])
  rw [← HXE.out] at HPP
  have HC : Hid (∀ W, Below w.heap.size w W → W.cell? ⟨pf, 0, none⟩ = some (ptrV pd) ∧ W.cell? ⟨ph, 1, none⟩ = some (n64 blk) ∧ W.cell? ⟨ph, 2, none⟩ = some (n64 slot)) := hid (fun W hbW => ⟨cell_later hbW p0, cell_later hbW h1, cell_later hbW (cell_of hh rfl)⟩)
  have HNS : Hid (∀ g, w.heap.size ≤ g → ¬ S g) := hid (fun g hg h => by have := hD.s g h; omega)
  have HLT : Hid (pf < w.heap.size ∧ ph < w.heap.size) := hid ⟨(Array.getElem?_eq_some_iff.1 hA).1, (Array.getElem?_eq_some_iff.1 hh).1⟩
  clear hD hA hF hh hL0 hl0 hX hXs hXa hn hblk hb0 HXE HIB
  go_enter Tryz.func163, Tryz.ntmps163
  go_upto_region 4 with fail
  go_cut [7, 8] from 24 to 35 (fun p e wc => ∃ g, p = ptrV g ∧ e = .nilIface ∧ wc.heap[g]? = some (.cells X 243 (0, 0)) ∧ w.heap.size ≤ g ∧ Below w.heap.size w wc)
  case first =>
    have hbd : Below w.heap.size w w.drew := (Below.refl _ w).drew
    refine wp_region_held_drew (S := fun w' => w'.cell? ⟨pf, 0, none⟩ = some (ptrV pd) ∧ w'.cell? ⟨ph, 1, none⟩ = some (n64 blk)) (by kernel_rfl) (show w.drew.cell? ⟨pf, 0, none⟩ = some (ptrV pd) ∧ w.drew.cell? ⟨ph, 1, none⟩ = some (n64 blk) from ⟨p0, h1⟩) (fun hS => ?_)
    refine nany_take 0 25 (ptrV pf) rfl rfl (by kernel_rfl) (by kernel_rfl) (by kernel_rfl) (fun _ _ _ h => h) (Or.inl ⟨by rfl, ?_⟩) hS ?_
    · rintro w' ⟨x0, x1⟩
      go_simp
    simp only [List.setIfInBounds_toArray, List.set_cons_zero, List.set_cons_succ]
    refine nany_take 1 26 (ptrV pf) rfl rfl (by kernel_rfl) (by kernel_rfl) (by kernel_rfl) (fun _ _ _ h => h) (Or.inl ⟨by rfl, ?_⟩) hS ?_
    · rintro w' ⟨x0, x1⟩
      go_simp
    simp only [List.setIfInBounds_toArray, List.set_cons_zero, List.set_cons_succ]
    refine nany_take 2 27 (.pointer (some ⟨pf, 0, none⟩)) rfl rfl (by kernel_rfl) (by kernel_rfl) (by kernel_rfl) (fun _ _ _ h => h) (Or.inl ⟨by rfl, ?_⟩) hS ?_
    · rintro w' ⟨x0, x1⟩
      go_simp
    simp only [List.setIfInBounds_toArray, List.set_cons_zero, List.set_cons_succ]
    refine nany_take 3 28 (ptrV pd) rfl rfl (by kernel_rfl) (by kernel_rfl) (by kernel_rfl) (fun _ _ _ h => h) (Or.inl ⟨by rfl, ?_⟩) hS ?_
    · rintro w' ⟨x0, x1⟩
      go_simp
    simp only [List.setIfInBounds_toArray, List.set_cons_zero, List.set_cons_succ]
    refine nany_take 4 29 (ptrV ph) rfl rfl (by kernel_rfl) (by kernel_rfl) (by kernel_rfl) (fun _ _ _ h => h) (Or.inl ⟨by rfl, ?_⟩) hS ?_
    · rintro w' ⟨x0, x1⟩
      go_simp
    simp only [List.setIfInBounds_toArray, List.set_cons_zero, List.set_cons_succ]
    refine nany_take 5 30 (ptrV ph) rfl rfl (by kernel_rfl) (by kernel_rfl) (by kernel_rfl) (fun _ _ _ h => h) (Or.inl ⟨by rfl, ?_⟩) hS ?_
    · rintro w' ⟨x0, x1⟩
      go_simp
    simp only [List.setIfInBounds_toArray, List.set_cons_zero, List.set_cons_succ]
    refine nany_take 6 31 (.pointer (some ⟨ph, 1, none⟩)) rfl rfl (by kernel_rfl) (by kernel_rfl) (by kernel_rfl) (fun _ _ _ h => h) (Or.inl ⟨by rfl, ?_⟩) hS ?_
    · rintro w' ⟨x0, x1⟩
      go_simp
    simp only [List.setIfInBounds_toArray, List.set_cons_zero, List.set_cons_succ]
    refine nany_take 7 32 (n64 blk) rfl rfl (by kernel_rfl) (by kernel_rfl) (by kernel_rfl) (fun _ _ _ h => h) (Or.inl ⟨by rfl, ?_⟩) hS ?_
    · rintro w' ⟨x0, x1⟩
      go_simp
    simp only [List.setIfInBounds_toArray, List.set_cons_zero, List.set_cons_succ]
    refine nany_two 8 12 (by kernel_rfl) ?_ ?_
    · skip
      refine nop_callE 33 (f := 160) (args := #[ptrV pd, n64 blk]) (R := fun v w' => v = .tuple #[.agg X, .nilIface] ∧ Below w.drew.heap.size w.drew w') rfl (by rfl) rfl (by go_simp) ((HPO.out w.drew hbd).mono (fun e w' h => ⟨_, h.1, rfl, h.2⟩)) ?_
      rintro v5 w5 ⟨rfl, hbw5⟩
      have hBw5 : Below w.heap.size w w5 := (hbd).trans (hbw5.mono (hbd).size)
      clear hS
      have hS : w5.cell? ⟨pf, 0, none⟩ = some (ptrV pd) ∧ w5.cell? ⟨ph, 1, none⟩ = some (n64 blk) := ⟨(HC.out _ hBw5).1, (HC.out _ hBw5).2.1⟩
      refine ⟨hS, ?_⟩
      simp only [List.setIfInBounds_toArray, List.set_cons_zero, List.set_cons_succ]
      refine nany_take 9 24 (.tuple #[.agg X, .nilIface]) rfl rfl (by kernel_rfl) (by kernel_rfl) (by kernel_rfl) (fun _ _ _ h => h) (Or.inl ⟨by rfl, ?_⟩) hS ?_
      · rintro w' ⟨x0, x1⟩
        go_simp
      simp only [List.setIfInBounds_toArray, List.set_cons_zero, List.set_cons_succ]
      refine nany_take 10 34 (.agg X) rfl rfl (by kernel_rfl) (by kernel_rfl) (by kernel_rfl) (fun _ _ _ h => h) (Or.inl ⟨by rfl, ?_⟩) hS ?_
      · rintro w' ⟨x0, x1⟩
        go_simp
      simp only [List.setIfInBounds_toArray, List.set_cons_zero, List.set_cons_succ]
      refine nany_take 11 35 (.nilIface) rfl rfl (by kernel_rfl) (by kernel_rfl) (by kernel_rfl) (fun _ _ _ h => h) (Or.inl ⟨by rfl, ?_⟩) hS ?_
      · rintro w' ⟨x0, x1⟩
        go_simp
      simp only [List.setIfInBounds_toArray, List.set_cons_zero, List.set_cons_succ]
      refine nany_one 12 (by kernel_rfl) ?_
      refine nop_value' 7 (v := .pointer (some ⟨w5.heap.size, 0, none⟩)) (w' := w5.alloc (.cells zeroP128 243)) rfl (by rfl) rfl (by kernel_rfl) ?_
      obtain ⟨X6, hX6⟩ : ∃ X, X = w5.alloc (.cells zeroP128 243) := ⟨_, rfl⟩
      have hzX6 : X6.heap[w5.heap.size]? = some (.cells zeroP128 243 (0, 0)) := by rw [hX6]; exact alloc_new w5 _
      have hBX6 : Below w.heap.size w X6 := by rw [hX6]; exact (hBw5).alloc (hBw5).size _
      rw [← hX6]
      clear hX6
      clear hS
      have hS : X6.cell? ⟨pf, 0, none⟩ = some (ptrV pd) ∧ X6.cell? ⟨ph, 1, none⟩ = some (n64 blk) := ⟨(HC.out _ hBX6).1, (HC.out _ hBX6).2.1⟩
      refine ⟨hS, ?_⟩
      simp only [List.setIfInBounds_toArray, List.set_cons_zero, List.set_cons_succ]
      refine nany_one 13 (by kernel_rfl) ?_
      refine nop_skip (w' := X6.setRow w5.heap.size X) rfl (by rfl) rfl (run_storeRow_op 243 _ _ rfl w5.heap.size X rfl rfl 243 zeroP128 hzX6 (by rw [HXS.out]; exact sizePs) (by rw [HXS.out]; simp [zeroP128]) HXA.out) ?_
      have hF := setRow_heap X6 w5.heap.size zeroP128 X _ _ hzX6
      have hFB : Below w.heap.size w (X6.setRow w5.heap.size X) := (setRow_mods X6 w5.heap.size X).to_below hBX6 (hBX6).size (fun b hb => by subst hb; exact hBw5.size)
      clear hS
      have hS : (X6.setRow w5.heap.size X).cell? ⟨pf, 0, none⟩ = some (ptrV pd) ∧ (X6.setRow w5.heap.size X).cell? ⟨ph, 1, none⟩ = some (n64 blk) := ⟨(HC.out _ hFB).1, (HC.out _ hFB).2.1⟩
      refine ⟨hS, ?_⟩
      refine nany_take 14 8 (.nilIface) rfl rfl (by kernel_rfl) (by kernel_rfl) (by kernel_rfl) (fun _ _ _ h => h) (Or.inl ⟨by rfl, ?_⟩) hS ?_
      · rintro w' ⟨x0, x1⟩
        go_simp
      simp only [List.setIfInBounds_toArray, List.set_cons_zero, List.set_cons_succ]
      refine wpAnyH_done (by kernel_rfl) ?_ _
      have HF := hid hF
      have HFB := hid hFB
      have HG : Hid (w.heap.size ≤ w5.heap.size) := hid hBw5.size
      clear hS hF hFB
      go_wp2_with fail
      go_meet
      exact ⟨_, rfl, rfl, HF.out, HG.out, HFB.out⟩
    · skip
      refine nop_value' 7 (v := .pointer (some ⟨w.drew.heap.size, 0, none⟩)) (w' := w.drew.alloc (.cells zeroP128 243)) rfl (by rfl) rfl (by kernel_rfl) ?_
      obtain ⟨X5, hX5⟩ : ∃ X, X = w.drew.alloc (.cells zeroP128 243) := ⟨_, rfl⟩
      have hzX5 : X5.heap[w.drew.heap.size]? = some (.cells zeroP128 243 (0, 0)) := by rw [hX5]; exact alloc_new w.drew _
      have hBX5 : Below w.heap.size w X5 := by rw [hX5]; exact (hbd).alloc (hbd).size _
      rw [← hX5]
      clear hX5
      clear hS
      have hS : X5.cell? ⟨pf, 0, none⟩ = some (ptrV pd) ∧ X5.cell? ⟨ph, 1, none⟩ = some (n64 blk) := ⟨(HC.out _ hBX5).1, (HC.out _ hBX5).2.1⟩
      refine ⟨hS, ?_⟩
      simp only [List.setIfInBounds_toArray, List.set_cons_zero, List.set_cons_succ]
      refine nany_one 8 (by kernel_rfl) ?_
      refine nop_callE 33 (f := 160) (args := #[ptrV pd, n64 blk]) (R := fun v w' => v = .tuple #[.agg X, .nilIface] ∧ Below X5.heap.size X5 w') rfl (by rfl) rfl (by go_simp) ((HPO.out X5 hBX5).mono (fun e w' h => ⟨_, h.1, rfl, h.2⟩)) ?_
      rintro v5 w6 ⟨rfl, hbw6⟩
      have hBw6 : Below w.heap.size w w6 := (hBX5).trans (hbw6.mono (hBX5).size)
      have hzw6 := (hbw6.block _ (Array.getElem?_eq_some_iff.1 hzX5).1).trans hzX5
      clear hS
      have hS : w6.cell? ⟨pf, 0, none⟩ = some (ptrV pd) ∧ w6.cell? ⟨ph, 1, none⟩ = some (n64 blk) := ⟨(HC.out _ hBw6).1, (HC.out _ hBw6).2.1⟩
      refine ⟨hS, ?_⟩
      simp only [List.setIfInBounds_toArray, List.set_cons_zero, List.set_cons_succ]
      refine nany_take 9 24 (.tuple #[.agg X, .nilIface]) rfl rfl (by kernel_rfl) (by kernel_rfl) (by kernel_rfl) (fun _ _ _ h => h) (Or.inl ⟨by rfl, ?_⟩) hS ?_
      · rintro w' ⟨x0, x1⟩
        go_simp
      simp only [List.setIfInBounds_toArray, List.set_cons_zero, List.set_cons_succ]
      refine nany_take 10 34 (.agg X) rfl rfl (by kernel_rfl) (by kernel_rfl) (by kernel_rfl) (fun _ _ _ h => h) (Or.inl ⟨by rfl, ?_⟩) hS ?_
      · rintro w' ⟨x0, x1⟩
        go_simp
      simp only [List.setIfInBounds_toArray, List.set_cons_zero, List.set_cons_succ]
      refine nany_take 11 35 (.nilIface) rfl rfl (by kernel_rfl) (by kernel_rfl) (by kernel_rfl) (fun _ _ _ h => h) (Or.inl ⟨by rfl, ?_⟩) hS ?_
      · rintro w' ⟨x0, x1⟩
        go_simp
      simp only [List.setIfInBounds_toArray, List.set_cons_zero, List.set_cons_succ]
      refine nany_one 13 (by kernel_rfl) ?_
      refine nop_skip (w' := w6.setRow w.heap.size X) rfl (by rfl) rfl (run_storeRow_op 243 _ _ rfl w.heap.size X rfl rfl 243 zeroP128 hzw6 (by rw [HXS.out]; exact sizePs) (by rw [HXS.out]; simp [zeroP128]) HXA.out) ?_
      have hF := setRow_heap w6 w.heap.size zeroP128 X _ _ hzw6
      have hFB : Below w.heap.size w (w6.setRow w.heap.size X) := (setRow_mods w6 w.heap.size X).to_below hBw6 (hBw6).size (fun b hb => by subst hb; exact Nat.le_refl _)
      clear hS
      have hS : (w6.setRow w.heap.size X).cell? ⟨pf, 0, none⟩ = some (ptrV pd) ∧ (w6.setRow w.heap.size X).cell? ⟨ph, 1, none⟩ = some (n64 blk) := ⟨(HC.out _ hFB).1, (HC.out _ hFB).2.1⟩
      refine ⟨hS, ?_⟩
      refine nany_take 14 8 (.nilIface) rfl rfl (by kernel_rfl) (by kernel_rfl) (by kernel_rfl) (fun _ _ _ h => h) (Or.inl ⟨by rfl, ?_⟩) hS ?_
      · rintro w' ⟨x0, x1⟩
        go_simp
      simp only [List.setIfInBounds_toArray, List.set_cons_zero, List.set_cons_succ]
      refine wpAnyH_done (by kernel_rfl) ?_ _
      have HF := hid hF
      have HFB := hid hFB
      have HG : Hid (w.heap.size ≤ w.heap.size) := hid Nat.le_refl _
      clear hS hF hFB
      go_wp2_with fail
      go_meet
      exact ⟨_, rfl, rfl, HF.out, HG.out, HFB.out⟩
  case rest =>
    obtain ⟨g, rfl, rfl, hg, hgl, hb⟩ := hcut
    rename World => V
    obtain ⟨_, _, k2⟩ := HC.out V hb
    obtain ⟨v0, hv0⟩ : ∃ v, X[slot]? = some v := ⟨_, Array.getElem?_eq_getElem (by have := HXS.out; omega)⟩
    have kx : V.cell? ⟨g, slot, none⟩ = some v0 := cell_of hg hv0
    have kf := froz_of hg slot
    have hs' : (slot : Int) < 128 := by omega
    have hu : IntKind.u64.wrap (b : Int) = (b : Int) := by rw [IntKind.wrap_u64]; omega
    obtain ⟨W7, hW7⟩ : ∃ W, W = V.setCell ⟨g, slot, none⟩ (.int .u64 (b : Int)) := ⟨_, rfl⟩
    have h7 : W7.heap[g]? = some (.cells (X.setIfInBounds slot (.int .u64 (b : Int))) 243 (0, 0)) := by rw [hW7]; exact setc hg slot _
    have hb7 : Below w.heap.size w W7 := by rw [hW7]; exact hb.setCell hgl _
    have HB7 := hid hb7
    have H7 := hid h7
    obtain ⟨j0, j1, _⟩ := HC.out W7 hb7
    clear hg hb hv0 h7
    go_upto_region 8 with (first | (rw [← hW7]; clear hW7))
    clear k2 kx kf
    have hbd : Below w.heap.size w W7.drew := hb7.drew
    refine wp_region_held_drew (S := fun w' => w'.cell? ⟨pf, 0, none⟩ = some (ptrV pd) ∧ w'.cell? ⟨ph, 1, none⟩ = some (n64 blk) ∧ w'.heap[g]? = some (.cells (X.setIfInBounds slot (.int .u64 (b : Int))) 243 (0, 0))) (by kernel_rfl) (show W7.drew.cell? ⟨pf, 0, none⟩ = some (ptrV pd) ∧ W7.drew.cell? ⟨ph, 1, none⟩ = some (n64 blk) ∧ W7.drew.heap[g]? = some (.cells (X.setIfInBounds slot (.int .u64 (b : Int))) 243 (0, 0)) from ⟨j0, j1, H7.out⟩) (fun hS => ?_)
    refine nany_take 0 46 (ptrV pf) rfl rfl (by kernel_rfl) (by kernel_rfl) (by kernel_rfl) (fun _ _ _ h => h) (Or.inl ⟨by rfl, ?_⟩) hS ?_
    · rintro w' ⟨x0, x1, x2⟩
      go_simp
    simp only [List.setIfInBounds_toArray, List.set_cons_zero, List.set_cons_succ]
    refine nany_take 1 47 (ptrV pf) rfl rfl (by kernel_rfl) (by kernel_rfl) (by kernel_rfl) (fun _ _ _ h => h) (Or.inl ⟨by rfl, ?_⟩) hS ?_
    · rintro w' ⟨x0, x1, x2⟩
      go_simp
    simp only [List.setIfInBounds_toArray, List.set_cons_zero, List.set_cons_succ]
    refine nany_take 2 48 (.pointer (some ⟨pf, 0, none⟩)) rfl rfl (by kernel_rfl) (by kernel_rfl) (by kernel_rfl) (fun _ _ _ h => h) (Or.inl ⟨by rfl, ?_⟩) hS ?_
    · rintro w' ⟨x0, x1, x2⟩
      go_simp
    simp only [List.setIfInBounds_toArray, List.set_cons_zero, List.set_cons_succ]
    refine nany_take 3 49 (ptrV pd) rfl rfl (by kernel_rfl) (by kernel_rfl) (by kernel_rfl) (fun _ _ _ h => h) (Or.inl ⟨by rfl, ?_⟩) hS ?_
    · rintro w' ⟨x0, x1, x2⟩
      go_simp
    simp only [List.setIfInBounds_toArray, List.set_cons_zero, List.set_cons_succ]
    refine nany_take 4 50 (ptrV ph) rfl rfl (by kernel_rfl) (by kernel_rfl) (by kernel_rfl) (fun _ _ _ h => h) (Or.inl ⟨by rfl, ?_⟩) hS ?_
    · rintro w' ⟨x0, x1, x2⟩
      go_simp
    simp only [List.setIfInBounds_toArray, List.set_cons_zero, List.set_cons_succ]
    refine nany_take 5 51 (ptrV ph) rfl rfl (by kernel_rfl) (by kernel_rfl) (by kernel_rfl) (fun _ _ _ h => h) (Or.inl ⟨by rfl, ?_⟩) hS ?_
    · rintro w' ⟨x0, x1, x2⟩
      go_simp
    simp only [List.setIfInBounds_toArray, List.set_cons_zero, List.set_cons_succ]
    refine nany_take 6 52 (.pointer (some ⟨ph, 1, none⟩)) rfl rfl (by kernel_rfl) (by kernel_rfl) (by kernel_rfl) (fun _ _ _ h => h) (Or.inl ⟨by rfl, ?_⟩) hS ?_
    · rintro w' ⟨x0, x1, x2⟩
      go_simp
    simp only [List.setIfInBounds_toArray, List.set_cons_zero, List.set_cons_succ]
    refine nany_take 7 53 (n64 blk) rfl rfl (by kernel_rfl) (by kernel_rfl) (by kernel_rfl) (fun _ _ _ h => h) (Or.inl ⟨by rfl, ?_⟩) hS ?_
    · rintro w' ⟨x0, x1, x2⟩
      go_simp
    simp only [List.setIfInBounds_toArray, List.set_cons_zero, List.set_cons_succ]
    refine nany_take 8 54 (.agg (X.setIfInBounds slot (.int .u64 (b : Int)))) rfl rfl (by kernel_rfl) (by kernel_rfl) (by kernel_rfl) (fun _ _ _ h => h) (Or.inl ⟨by rfl, ?_⟩) hS ?_
    · rintro w' ⟨x0, x1, x2⟩
      exact run_loadRow_op 243 _ rfl g rfl 243 _ _ _ x2 Tryz.underlying243 (by rw [Array.size_setIfInBounds, HXS.out]; exact sizePs)
    simp only [List.setIfInBounds_toArray, List.set_cons_zero, List.set_cons_succ]
    refine nany_one 9 (by kernel_rfl) ?_
    refine nop_callE 55 (f := 139) (args := #[ptrV pd, n64 blk, .agg (X.setIfInBounds slot (.int .u64 (b : Int)))]) (R := fun v w' => v = .nilIface ∧ ∃ S', Dw w' pd S' N i base T bc (n + 1) (upd P (blk : Int) (some (encPs (L0.set slot b)))) (updN c blk (encPs (L0.set slot b))) ∧ Kp S W7.drew S' w') rfl (by rfl) rfl (by go_simp) ((HPP.out W7.drew hbd).mono (fun e w' h => ⟨_, h.1, rfl, h.2⟩)) ?_
    rintro v5 w9 ⟨rfl, S', hd9, hk9⟩
    have hS9 : w9.cell? ⟨pf, 0, none⟩ = some (ptrV pd) ∧ w9.cell? ⟨ph, 1, none⟩ = some (n64 blk) ∧ w9.heap[g]? = some (.cells (X.setIfInBounds slot (.int .u64 (b : Int))) 243 (0, 0)) := ⟨hk9.cell hS.1 hpf, hk9.cell hS.2.1 hph, (hk9.block (Array.getElem?_eq_some_iff.1 hS.2.2).1 (HNS.out g hgl)).trans hS.2.2⟩
    clear hS
    have hS := hS9
    refine ⟨hS, ?_⟩
    simp only [List.setIfInBounds_toArray, List.set_cons_zero, List.set_cons_succ]
    refine nany_take 10 6 (.nilIface) rfl rfl (by kernel_rfl) (by kernel_rfl) (by kernel_rfl) (fun _ _ _ h => h) (Or.inl ⟨by rfl, ?_⟩) hS ?_
    · rintro w' ⟨x0, x1, x2⟩
      go_simp
    simp only [List.setIfInBounds_toArray, List.set_cons_zero, List.set_cons_succ]
    refine wpAnyH_done (by kernel_rfl) ?_ _
    have HD9 := hid hd9
    have HK9 : Hid (Kp S w S' w9) := hid ((Kp.below hbd).trans hk9)
    clear hS hd9 hk9 hS9
    go_wp2
    go_ret
    exact ⟨rfl, S', HD9.out, HK9.out⟩
end Go.Proofs.YtldlnidbeiggoaaGreatDoor
