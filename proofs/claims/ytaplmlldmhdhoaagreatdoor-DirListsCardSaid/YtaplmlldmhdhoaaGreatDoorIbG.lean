/- IbF, IbG in one text. -/
import Derived.Test.YtaplmlldmhdhoaaGreatDoorIbE
import Derived.Deep.CutBlock
import Derived.Deep.DeepCutAuto
import Derived.Laws.CopyOwn
/- point: a pointer that led nowhere leads to a block. -/
namespace Go.Proofs.YtaplmlldmhdhoaaGreatDoor
open Go.RowKit Go.Maps
set_option linter.unusedVariables false

theorem run_storeRow_op {a : Act} {o : Oper} {w : World} (ty : TypeId) (x y : Operand) (ho : o.op = .store ty x y) (g : Nat) (cells : Array Value) (hx : a.eval x = .pointer (some ⟨g, 0, none⟩)) (hy : a.eval y = .agg cells)
    (t : TypeId) (old : Array Value) (hg : w.heap[g]? = some (.cells old t (0, 0))) (hi : (Tryz.prog.info? ty).map (·.size) = some cells.size) (hold : old.size = cells.size) (h1 : cells.all (·.oneCell') = true) :
    (execOp a.eval o).run Tryz.prog w = .ok .skip (w.setRow g cells) := by
  unfold execOp
  simp only [ho, hx, hy, Instr.storeAt, Instr.sureAddr, Sem.run_bind, Sem.run_pure, Result.andThen_ok, run_storeVar_row w g t ty old cells hg hi hold h1]
theorem run_loadRow_op {a : Act} {o : Oper} {w : World} (ty : TypeId) (x : Operand) (ho : o.op = .load ty x) (g : Nat) (hx : a.eval x = .pointer (some ⟨g, 0, none⟩)) (t : TypeId) (cs : Array Value) (m : Nat) (e : TypeId) (hg : w.heap[g]? = some (.cells cs t (0, 0)))
    (hu : Tryz.prog.underlying ty = some (.array m e)) (hi : (Tryz.prog.info? ty).map (·.size) = some cs.size) :
    (execOp a.eval o).run Tryz.prog w = .ok (.value (.agg cs)) w := by
  unfold execOp
  simp only [ho, hx, Instr.loadAt, Instr.sureAddr, Sem.run_bind, Sem.run_pure, Result.andThen_ok, run_loadVar_row w g t ty cs (0, 0) _ hg hu rfl hi]
theorem sizePs : (Tryz.prog.info? 211).map (·.size) = some 128 := (zero_of_info infoPs).2
set_option maxRecDepth 100000 in
set_option maxHeartbeats 2000000 in
/-- A pointer of the inode. -/
theorem point_0 (w : World) (pf pd ph slot b nx : Nat) (A : Array Value) (size : Int) (ptr : Nat → Nat) (hA : w.heap[pf]? = some (.cells A 135 (0, 0))) (hF : FileIs A pd size ptr) (hh : w.heap[ph]? = some (.cells #[n64 2, n64 (0 : Nat), n64 slot, n64 nx] 181 (0, 0))) (hs : slot < 9) :
    Calls Tryz.prog 101 #[ptrV pf, ptrV ph, n64 b] w fun e w' => e = .returned .nilIface ∧ w'.heap[pf]? = some (.cells (A.setIfInBounds (15 + slot) (n64 b)) 135 (0, 0)) ∧ Mods (fun g => g = pf) w w' := by
  have h1 : w.cell? ⟨ph, 1, none⟩ = some (.int .i64 0) := cell_of hh rfl
  have h2 : w.cell? ⟨ph, 2, none⟩ = some (n64 slot) := cell_of hh rfl
  have p1 : w.cell? ⟨pf, 15 + slot, none⟩ = some (n64 (ptr slot)) := cell_of hA (hF.ptr slot hs)
  have pz := froz_of hA (15 + slot)
  have hs' : (slot : Int) < 9 := by omega
  have HE := hid (setc hA (15 + slot) (n64 b))
  have HM : Hid (Mods (fun g => g = pf) w (w.setCell ⟨pf, 15 + slot, none⟩ (n64 b))) := hid ((Mods.refl (fun g => g = pf) w).setCell pf _ _ rfl)
  clear hA hF hh
  go_enter Tryz.func101, Tryz.ntmps101
  go_wp2_with fail
  go_region
  go_wp2
  go_ret
  exact ⟨rfl, HE.out, HM.out.drew⟩
set_option maxRecDepth 100000 in
set_option maxHeartbeats 8000000 in
/-- A pointer of a block of pointers. -/
theorem point_1 {w : World} {pd n N : Nat} {S T : Nat → Prop} {i : Int} {base : Value} {P : Int → Option (List Int)} {bc c : Nat → List Int} (hD : Dw w pd S N i base T bc n P c) (hn : n < 900000) (pf ph slot b nx blk : Nat) (A : Array Value) (size : Int) (ptr : Nat → Nat) (hA : w.heap[pf]? = some (.cells A 135 (0, 0))) (hF : FileIs A pd size ptr) (hh : w.heap[ph]? = some (.cells #[n64 2, n64 blk, n64 slot, n64 nx] 181 (0, 0))) (hs : slot < 128) (hblk : blk < N) (hb0 : blk ≠ 0) (hb : b < 4294967296) (hpf : ¬ S pf) (hph : ¬ S ph) :
    Calls Tryz.prog 101 #[ptrV pf, ptrV ph, n64 b] w fun e w' => e = .returned .nilIface ∧ ∃ S', Dw w' pd S' N i base T bc (n + 1) (upd P (blk : Int) (some (encPs ((ptrsL (c blk)).set slot b)))) (updN c blk (encPs ((ptrsL (c blk)).set slot b))) ∧ Kp S w S' w' := by
  have h1 : w.cell? ⟨ph, 1, none⟩ = some (n64 blk) := cell_of hh rfl
  have p0 : w.cell? ⟨pf, 0, none⟩ = some (ptrV pd) := cell_of hA hF.view
  have hb0' : ¬ (blk : Int) = 0 := by omega
  have HPO := hid (fun (W : World) (hbW : Below w.heap.size w W) => pointersOf_any (hD.later hbW) blk hblk)
  have HIB := hid (hD.isB blk hblk)
  have HPP := hid (fun (W : World) (hbW : Below w.heap.size w W) => putPointers_any (hD.later hbW) hn blk hblk ((ptrsL (c blk)).set slot (b : Int)) (by rw [List.length_set, ptrsL_len]) (fun x hx => by
    rcases List.mem_or_eq_of_mem_set hx with h | h
    · simp only [ptrsL, List.mem_map, List.mem_range] at h
      obtain ⟨s, _, rfl⟩ := h
      have := (pAt_bd (c blk) s HIB.out).2
      omega
    · omega))
  obtain ⟨L0, hL0⟩ : ∃ L0, L0 = ptrsL (c blk) := ⟨_, rfl⟩
  have hl0 : L0.length = 128 := by rw [hL0]; exact ptrsL_len _
  rw [← hL0] at HPO HPP ⊢
  obtain ⟨X, hX⟩ : ∃ X, X = (u64s L0).toArray := ⟨_, rfl⟩
  have hXs : X.size = 128 := by rw [hX]; simp [u64s, hl0]
  have hXa : X.all (·.oneCell') = true := by rw [hX]; simp [u64s, Value.oneCell']
  rw [← hX] at HPO
  have HXS := hid hXs
  have HXA := hid hXa
  have HXE : Hid (X.setIfInBounds slot (.int .u64 (b : Int)) = (u64s (L0.set slot (b : Int))).toArray) := hid (by rw [hX]; simp [u64s, List.map_set])
  rw [← HXE.out] at HPP
  have HC : Hid (∀ W, Below w.heap.size w W → W.cell? ⟨pf, 0, none⟩ = some (ptrV pd) ∧ W.cell? ⟨ph, 1, none⟩ = some (n64 blk) ∧ W.cell? ⟨ph, 2, none⟩ = some (n64 slot)) := hid (fun W hbW => ⟨cell_later hbW p0, cell_later hbW h1, cell_later hbW (cell_of hh rfl)⟩)
  have HNS : Hid (∀ g, w.heap.size ≤ g → ¬ S g) := hid (fun g hg h => by have := hD.s g h; omega)
  have HLT : Hid (pf < w.heap.size ∧ ph < w.heap.size) := hid ⟨(Array.getElem?_eq_some_iff.1 hA).1, (Array.getElem?_eq_some_iff.1 hh).1⟩
  clear hD hA hF hh hL0 hl0 hX hXs hXa hn hblk hb0 HXE HIB
  go_enter Tryz.func101, Tryz.ntmps101
  go_upto_region 4 with fail
  go_cut [7, 8] from 24 to 35 (fun p e wc => ∃ g, p = ptrV g ∧ e = .nilIface ∧ wc.heap[g]? = some (.cells X 211 (0, 0)) ∧ w.heap.size ≤ g ∧ Below w.heap.size w wc)
  case first =>
    have hbd : Below w.heap.size w w.drew := (Below.refl _ w).drew
    refine wp_region_held_drew (S := fun w' => w'.cell? ⟨pf, 0, none⟩ = some (ptrV pd) ∧ w'.cell? ⟨ph, 1, none⟩ = some (n64 blk)) (by kernel_rfl) (show w.drew.cell? ⟨pf, 0, none⟩ = some (ptrV pd) ∧ w.drew.cell? ⟨ph, 1, none⟩ = some (n64 blk) from ⟨p0, h1⟩) (fun hS => ?_)
    refine nany_take 0 25 (ptrV pf) rfl rfl (by kernel_rfl) (by kernel_rfl) (by kernel_rfl) (fun _ _ _ h => h) (Or.inl ⟨by rfl, ?_⟩) hS ?_
    · rintro w' ⟨x0, x1⟩
      go_simp
    simp only [List.setIfInBounds_toArray, List.set_cons_zero, List.set_cons_succ]
    refine nany_take 1 26 (ptrV pf) rfl rfl (by kernel_rfl) (by kernel_rfl) (by kernel_rfl) (fun _ _ _ h => h) (Or.inl ⟨by rfl, ?_⟩) hS ?_
    · rintro w' ⟨x0, x1⟩
      go_simp
    simp only [List.setIfInBounds_toArray, List.set_cons_zero, List.set_cons_succ]
    refine nany_take 2 27 (.pointer (some ⟨pf, 0, none⟩)) rfl rfl (by kernel_rfl) (by kernel_rfl) (by kernel_rfl) (fun _ _ _ h => h) (Or.inl ⟨by rfl, ?_⟩) hS ?_
    · rintro w' ⟨x0, x1⟩
      go_simp
    simp only [List.setIfInBounds_toArray, List.set_cons_zero, List.set_cons_succ]
    refine nany_take 3 28 (ptrV pd) rfl rfl (by kernel_rfl) (by kernel_rfl) (by kernel_rfl) (fun _ _ _ h => h) (Or.inl ⟨by rfl, ?_⟩) hS ?_
    · rintro w' ⟨x0, x1⟩
      go_simp
    simp only [List.setIfInBounds_toArray, List.set_cons_zero, List.set_cons_succ]
    refine nany_take 4 29 (ptrV ph) rfl rfl (by kernel_rfl) (by kernel_rfl) (by kernel_rfl) (fun _ _ _ h => h) (Or.inl ⟨by rfl, ?_⟩) hS ?_
    · rintro w' ⟨x0, x1⟩
      go_simp
    simp only [List.setIfInBounds_toArray, List.set_cons_zero, List.set_cons_succ]
    refine nany_take 5 30 (ptrV ph) rfl rfl (by kernel_rfl) (by kernel_rfl) (by kernel_rfl) (fun _ _ _ h => h) (Or.inl ⟨by rfl, ?_⟩) hS ?_
    · rintro w' ⟨x0, x1⟩
      go_simp
    simp only [List.setIfInBounds_toArray, List.set_cons_zero, List.set_cons_succ]
    refine nany_take 6 31 (.pointer (some ⟨ph, 1, none⟩)) rfl rfl (by kernel_rfl) (by kernel_rfl) (by kernel_rfl) (fun _ _ _ h => h) (Or.inl ⟨by rfl, ?_⟩) hS ?_
    · rintro w' ⟨x0, x1⟩
      go_simp
    simp only [List.setIfInBounds_toArray, List.set_cons_zero, List.set_cons_succ]
    refine nany_take 7 32 (n64 blk) rfl rfl (by kernel_rfl) (by kernel_rfl) (by kernel_rfl) (fun _ _ _ h => h) (Or.inl ⟨by rfl, ?_⟩) hS ?_
    · rintro w' ⟨x0, x1⟩
      go_simp
    simp only [List.setIfInBounds_toArray, List.set_cons_zero, List.set_cons_succ]
    refine nany_two 8 12 (by kernel_rfl) ?_ ?_
    · skip
      refine nop_callE 33 (f := 106) (args := #[ptrV pd, n64 blk]) (R := fun v w' => v = .tuple #[.agg X, .nilIface] ∧ Below w.drew.heap.size w.drew w') rfl (by rfl) rfl (by go_simp) ((HPO.out w.drew hbd).mono (fun e w' h => ⟨_, h.1, rfl, h.2⟩)) ?_
      rintro v5 w5 ⟨rfl, hbw5⟩
      have hBw5 : Below w.heap.size w w5 := (hbd).trans (hbw5.mono (hbd).size)
      clear hS
      have hS : w5.cell? ⟨pf, 0, none⟩ = some (ptrV pd) ∧ w5.cell? ⟨ph, 1, none⟩ = some (n64 blk) := ⟨(HC.out _ hBw5).1, (HC.out _ hBw5).2.1⟩
      refine ⟨hS, ?_⟩
      simp only [List.setIfInBounds_toArray, List.set_cons_zero, List.set_cons_succ]
      refine nany_take 9 24 (.tuple #[.agg X, .nilIface]) rfl rfl (by kernel_rfl) (by kernel_rfl) (by kernel_rfl) (fun _ _ _ h => h) (Or.inl ⟨by rfl, ?_⟩) hS ?_
      · rintro w' ⟨x0, x1⟩
        go_simp
      simp only [List.setIfInBounds_toArray, List.set_cons_zero, List.set_cons_succ]
      refine nany_take 10 34 (.agg X) rfl rfl (by kernel_rfl) (by kernel_rfl) (by kernel_rfl) (fun _ _ _ h => h) (Or.inl ⟨by rfl, ?_⟩) hS ?_
      · rintro w' ⟨x0, x1⟩
        go_simp
      simp only [List.setIfInBounds_toArray, List.set_cons_zero, List.set_cons_succ]
      refine nany_take 11 35 (.nilIface) rfl rfl (by kernel_rfl) (by kernel_rfl) (by kernel_rfl) (fun _ _ _ h => h) (Or.inl ⟨by rfl, ?_⟩) hS ?_
      · rintro w' ⟨x0, x1⟩
        go_simp
      simp only [List.setIfInBounds_toArray, List.set_cons_zero, List.set_cons_succ]
      refine nany_one 12 (by kernel_rfl) ?_
      refine nop_value' 7 (v := .pointer (some ⟨w5.heap.size, 0, none⟩)) (w' := w5.alloc (.cells zeroP128 211)) rfl (by rfl) rfl (by kernel_rfl) ?_
      obtain ⟨X6, hX6⟩ : ∃ X, X = w5.alloc (.cells zeroP128 211) := ⟨_, rfl⟩
      have hzX6 : X6.heap[w5.heap.size]? = some (.cells zeroP128 211 (0, 0)) := by rw [hX6]; exact alloc_new w5 _
      have hBX6 : Below w.heap.size w X6 := by rw [hX6]; exact (hBw5).alloc (hBw5).size _
      rw [← hX6]
      clear hX6
      clear hS
      have hS : X6.cell? ⟨pf, 0, none⟩ = some (ptrV pd) ∧ X6.cell? ⟨ph, 1, none⟩ = some (n64 blk) := ⟨(HC.out _ hBX6).1, (HC.out _ hBX6).2.1⟩
      refine ⟨hS, ?_⟩
      simp only [List.setIfInBounds_toArray, List.set_cons_zero, List.set_cons_succ]
      refine nany_one 13 (by kernel_rfl) ?_
      refine nop_skip (w' := X6.setRow w5.heap.size X) rfl (by rfl) rfl (run_storeRow_op 211 _ _ rfl w5.heap.size X rfl rfl 211 zeroP128 hzX6 (by rw [HXS.out]; exact sizePs) (by rw [HXS.out]; simp [zeroP128]) HXA.out) ?_
      have hF := setRow_heap X6 w5.heap.size zeroP128 X _ _ hzX6
      have hFB : Below w.heap.size w (X6.setRow w5.heap.size X) := (setRow_mods X6 w5.heap.size X).to_below hBX6 (hBX6).size (fun b hb => by subst hb; exact hBw5.size)
      clear hS
      have hS : (X6.setRow w5.heap.size X).cell? ⟨pf, 0, none⟩ = some (ptrV pd) ∧ (X6.setRow w5.heap.size X).cell? ⟨ph, 1, none⟩ = some (n64 blk) := ⟨(HC.out _ hFB).1, (HC.out _ hFB).2.1⟩
      refine ⟨hS, ?_⟩
      refine nany_take 14 8 (.nilIface) rfl rfl (by kernel_rfl) (by kernel_rfl) (by kernel_rfl) (fun _ _ _ h => h) (Or.inl ⟨by rfl, ?_⟩) hS ?_
      · rintro w' ⟨x0, x1⟩
        go_simp
      simp only [List.setIfInBounds_toArray, List.set_cons_zero, List.set_cons_succ]
      refine wpAnyH_done (by kernel_rfl) ?_ _
      have HF := hid hF
      have HFB := hid hFB
      have HG : Hid (w.heap.size ≤ w5.heap.size) := hid hBw5.size
      clear hS hF hFB
      go_wp2_with fail
      go_meet
      exact ⟨_, rfl, rfl, HF.out, HG.out, HFB.out⟩
    · skip
      refine nop_value' 7 (v := .pointer (some ⟨w.drew.heap.size, 0, none⟩)) (w' := w.drew.alloc (.cells zeroP128 211)) rfl (by rfl) rfl (by kernel_rfl) ?_
      obtain ⟨X5, hX5⟩ : ∃ X, X = w.drew.alloc (.cells zeroP128 211) := ⟨_, rfl⟩
      have hzX5 : X5.heap[w.drew.heap.size]? = some (.cells zeroP128 211 (0, 0)) := by rw [hX5]; exact alloc_new w.drew _
      have hBX5 : Below w.heap.size w X5 := by rw [hX5]; exact (hbd).alloc (hbd).size _
      rw [← hX5]
      clear hX5
      clear hS
      have hS : X5.cell? ⟨pf, 0, none⟩ = some (ptrV pd) ∧ X5.cell? ⟨ph, 1, none⟩ = some (n64 blk) := ⟨(HC.out _ hBX5).1, (HC.out _ hBX5).2.1⟩
      refine ⟨hS, ?_⟩
      simp only [List.setIfInBounds_toArray, List.set_cons_zero, List.set_cons_succ]
      refine nany_one 8 (by kernel_rfl) ?_
      refine nop_callE 33 (f := 106) (args := #[ptrV pd, n64 blk]) (R := fun v w' => v = .tuple #[.agg X, .nilIface] ∧ Below X5.heap.size X5 w') rfl (by rfl) rfl (by go_simp) ((HPO.out X5 hBX5).mono (fun e w' h => ⟨_, h.1, rfl, h.2⟩)) ?_
      rintro v5 w6 ⟨rfl, hbw6⟩
      have hBw6 : Below w.heap.size w w6 := (hBX5).trans (hbw6.mono (hBX5).size)
      have hzw6 := (hbw6.block _ (Array.getElem?_eq_some_iff.1 hzX5).1).trans hzX5
      clear hS
      have hS : w6.cell? ⟨pf, 0, none⟩ = some (ptrV pd) ∧ w6.cell? ⟨ph, 1, none⟩ = some (n64 blk) := ⟨(HC.out _ hBw6).1, (HC.out _ hBw6).2.1⟩
      refine ⟨hS, ?_⟩
      simp only [List.setIfInBounds_toArray, List.set_cons_zero, List.set_cons_succ]
      refine nany_take 9 24 (.tuple #[.agg X, .nilIface]) rfl rfl (by kernel_rfl) (by kernel_rfl) (by kernel_rfl) (fun _ _ _ h => h) (Or.inl ⟨by rfl, ?_⟩) hS ?_
      · rintro w' ⟨x0, x1⟩
        go_simp
      simp only [List.setIfInBounds_toArray, List.set_cons_zero, List.set_cons_succ]
      refine nany_take 10 34 (.agg X) rfl rfl (by kernel_rfl) (by kernel_rfl) (by kernel_rfl) (fun _ _ _ h => h) (Or.inl ⟨by rfl, ?_⟩) hS ?_
      · rintro w' ⟨x0, x1⟩
        go_simp
      simp only [List.setIfInBounds_toArray, List.set_cons_zero, List.set_cons_succ]
      refine nany_take 11 35 (.nilIface) rfl rfl (by kernel_rfl) (by kernel_rfl) (by kernel_rfl) (fun _ _ _ h => h) (Or.inl ⟨by rfl, ?_⟩) hS ?_
      · rintro w' ⟨x0, x1⟩
        go_simp
      simp only [List.setIfInBounds_toArray, List.set_cons_zero, List.set_cons_succ]
      refine nany_one 13 (by kernel_rfl) ?_
      refine nop_skip (w' := w6.setRow w.heap.size X) rfl (by rfl) rfl (run_storeRow_op 211 _ _ rfl w.heap.size X rfl rfl 211 zeroP128 hzw6 (by rw [HXS.out]; exact sizePs) (by rw [HXS.out]; simp [zeroP128]) HXA.out) ?_
      have hF := setRow_heap w6 w.heap.size zeroP128 X _ _ hzw6
      have hFB : Below w.heap.size w (w6.setRow w.heap.size X) := (setRow_mods w6 w.heap.size X).to_below hBw6 (hBw6).size (fun b hb => by subst hb; exact Nat.le_refl _)
      clear hS
      have hS : (w6.setRow w.heap.size X).cell? ⟨pf, 0, none⟩ = some (ptrV pd) ∧ (w6.setRow w.heap.size X).cell? ⟨ph, 1, none⟩ = some (n64 blk) := ⟨(HC.out _ hFB).1, (HC.out _ hFB).2.1⟩
      refine ⟨hS, ?_⟩
      refine nany_take 14 8 (.nilIface) rfl rfl (by kernel_rfl) (by kernel_rfl) (by kernel_rfl) (fun _ _ _ h => h) (Or.inl ⟨by rfl, ?_⟩) hS ?_
      · rintro w' ⟨x0, x1⟩
        go_simp
      simp only [List.setIfInBounds_toArray, List.set_cons_zero, List.set_cons_succ]
      refine wpAnyH_done (by kernel_rfl) ?_ _
      have HF := hid hF
      have HFB := hid hFB
      have HG : Hid (w.heap.size ≤ w.heap.size) := hid Nat.le_refl _
      clear hS hF hFB
      go_wp2_with fail
      go_meet
      exact ⟨_, rfl, rfl, HF.out, HG.out, HFB.out⟩
  case rest =>
    obtain ⟨g, rfl, rfl, hg, hgl, hb⟩ := hcut
    rename World => V
    obtain ⟨_, _, k2⟩ := HC.out V hb
    obtain ⟨v0, hv0⟩ : ∃ v, X[slot]? = some v := ⟨_, Array.getElem?_eq_getElem (by have := HXS.out; omega)⟩
    have kx : V.cell? ⟨g, slot, none⟩ = some v0 := cell_of hg hv0
    have kf := froz_of hg slot
    have hs' : (slot : Int) < 128 := by omega
    have hu : IntKind.u64.wrap (b : Int) = (b : Int) := by rw [IntKind.wrap_u64]; omega
    obtain ⟨W7, hW7⟩ : ∃ W, W = V.setCell ⟨g, slot, none⟩ (.int .u64 (b : Int)) := ⟨_, rfl⟩
    have h7 : W7.heap[g]? = some (.cells (X.setIfInBounds slot (.int .u64 (b : Int))) 211 (0, 0)) := by rw [hW7]; exact setc hg slot _
    have hb7 : Below w.heap.size w W7 := by rw [hW7]; exact hb.setCell hgl _
    have HB7 := hid hb7
    have H7 := hid h7
    obtain ⟨j0, j1, _⟩ := HC.out W7 hb7
    clear hg hb hv0 h7
    go_upto_region 8 with (first | (rw [← hW7]; clear hW7))
    clear k2 kx kf
    have hbd : Below w.heap.size w W7.drew := hb7.drew
    refine wp_region_held_drew (S := fun w' => w'.cell? ⟨pf, 0, none⟩ = some (ptrV pd) ∧ w'.cell? ⟨ph, 1, none⟩ = some (n64 blk) ∧ w'.heap[g]? = some (.cells (X.setIfInBounds slot (.int .u64 (b : Int))) 211 (0, 0))) (by kernel_rfl) (show W7.drew.cell? ⟨pf, 0, none⟩ = some (ptrV pd) ∧ W7.drew.cell? ⟨ph, 1, none⟩ = some (n64 blk) ∧ W7.drew.heap[g]? = some (.cells (X.setIfInBounds slot (.int .u64 (b : Int))) 211 (0, 0)) from ⟨j0, j1, H7.out⟩) (fun hS => ?_)
    refine nany_take 0 46 (ptrV pf) rfl rfl (by kernel_rfl) (by kernel_rfl) (by kernel_rfl) (fun _ _ _ h => h) (Or.inl ⟨by rfl, ?_⟩) hS ?_
    · rintro w' ⟨x0, x1, x2⟩
      go_simp
    simp only [List.setIfInBounds_toArray, List.set_cons_zero, List.set_cons_succ]
    refine nany_take 1 47 (ptrV pf) rfl rfl (by kernel_rfl) (by kernel_rfl) (by kernel_rfl) (fun _ _ _ h => h) (Or.inl ⟨by rfl, ?_⟩) hS ?_
    · rintro w' ⟨x0, x1, x2⟩
      go_simp
    simp only [List.setIfInBounds_toArray, List.set_cons_zero, List.set_cons_succ]
    refine nany_take 2 48 (.pointer (some ⟨pf, 0, none⟩)) rfl rfl (by kernel_rfl) (by kernel_rfl) (by kernel_rfl) (fun _ _ _ h => h) (Or.inl ⟨by rfl, ?_⟩) hS ?_
    · rintro w' ⟨x0, x1, x2⟩
      go_simp
    simp only [List.setIfInBounds_toArray, List.set_cons_zero, List.set_cons_succ]
    refine nany_take 3 49 (ptrV pd) rfl rfl (by kernel_rfl) (by kernel_rfl) (by kernel_rfl) (fun _ _ _ h => h) (Or.inl ⟨by rfl, ?_⟩) hS ?_
    · rintro w' ⟨x0, x1, x2⟩
      go_simp
    simp only [List.setIfInBounds_toArray, List.set_cons_zero, List.set_cons_succ]
    refine nany_take 4 50 (ptrV ph) rfl rfl (by kernel_rfl) (by kernel_rfl) (by kernel_rfl) (fun _ _ _ h => h) (Or.inl ⟨by rfl, ?_⟩) hS ?_
    · rintro w' ⟨x0, x1, x2⟩
      go_simp
    simp only [List.setIfInBounds_toArray, List.set_cons_zero, List.set_cons_succ]
    refine nany_take 5 51 (ptrV ph) rfl rfl (by kernel_rfl) (by kernel_rfl) (by kernel_rfl) (fun _ _ _ h => h) (Or.inl ⟨by rfl, ?_⟩) hS ?_
    · rintro w' ⟨x0, x1, x2⟩
      go_simp
    simp only [List.setIfInBounds_toArray, List.set_cons_zero, List.set_cons_succ]
    refine nany_take 6 52 (.pointer (some ⟨ph, 1, none⟩)) rfl rfl (by kernel_rfl) (by kernel_rfl) (by kernel_rfl) (fun _ _ _ h => h) (Or.inl ⟨by rfl, ?_⟩) hS ?_
    · rintro w' ⟨x0, x1, x2⟩
      go_simp
    simp only [List.setIfInBounds_toArray, List.set_cons_zero, List.set_cons_succ]
    refine nany_take 7 53 (n64 blk) rfl rfl (by kernel_rfl) (by kernel_rfl) (by kernel_rfl) (fun _ _ _ h => h) (Or.inl ⟨by rfl, ?_⟩) hS ?_
    · rintro w' ⟨x0, x1, x2⟩
      go_simp
    simp only [List.setIfInBounds_toArray, List.set_cons_zero, List.set_cons_succ]
    refine nany_take 8 54 (.agg (X.setIfInBounds slot (.int .u64 (b : Int)))) rfl rfl (by kernel_rfl) (by kernel_rfl) (by kernel_rfl) (fun _ _ _ h => h) (Or.inl ⟨by rfl, ?_⟩) hS ?_
    · rintro w' ⟨x0, x1, x2⟩
      exact run_loadRow_op 211 _ rfl g rfl 211 _ _ _ x2 Tryz.underlying211 (by rw [Array.size_setIfInBounds, HXS.out]; exact sizePs)
    simp only [List.setIfInBounds_toArray, List.set_cons_zero, List.set_cons_succ]
    refine nany_one 9 (by kernel_rfl) ?_
    refine nop_callE 55 (f := 107) (args := #[ptrV pd, n64 blk, .agg (X.setIfInBounds slot (.int .u64 (b : Int)))]) (R := fun v w' => v = .nilIface ∧ ∃ S', Dw w' pd S' N i base T bc (n + 1) (upd P (blk : Int) (some (encPs (L0.set slot b)))) (updN c blk (encPs (L0.set slot b))) ∧ Kp S W7.drew S' w') rfl (by rfl) rfl (by go_simp) ((HPP.out W7.drew hbd).mono (fun e w' h => ⟨_, h.1, rfl, h.2⟩)) ?_
    rintro v5 w9 ⟨rfl, S', hd9, hk9⟩
    have hS9 : w9.cell? ⟨pf, 0, none⟩ = some (ptrV pd) ∧ w9.cell? ⟨ph, 1, none⟩ = some (n64 blk) ∧ w9.heap[g]? = some (.cells (X.setIfInBounds slot (.int .u64 (b : Int))) 211 (0, 0)) := ⟨hk9.cell hS.1 hpf, hk9.cell hS.2.1 hph, (hk9.block (Array.getElem?_eq_some_iff.1 hS.2.2).1 (HNS.out g hgl)).trans hS.2.2⟩
    clear hS
    have hS := hS9
    refine ⟨hS, ?_⟩
    simp only [List.setIfInBounds_toArray, List.set_cons_zero, List.set_cons_succ]
    refine nany_take 10 6 (.nilIface) rfl rfl (by kernel_rfl) (by kernel_rfl) (by kernel_rfl) (fun _ _ _ h => h) (Or.inl ⟨by rfl, ?_⟩) hS ?_
    · rintro w' ⟨x0, x1, x2⟩
      go_simp
    simp only [List.setIfInBounds_toArray, List.set_cons_zero, List.set_cons_succ]
    refine wpAnyH_done (by kernel_rfl) ?_ _
    have HD9 := hid hd9
    have HK9 : Hid (Kp S w S' w9) := hid ((Kp.below hbd).trans hk9)
    clear hS hd9 hk9 hS9
    go_wp2
    go_ret
    exact ⟨rfl, S', HD9.out, HK9.out⟩
end Go.Proofs.YtaplmlldmhdhoaaGreatDoor

/- lay: bytes into a block of a file. -/
namespace Go.Proofs.YtaplmlldmhdhoaaGreatDoor
open Go.RowKit Go.Maps
set_option linter.unusedVariables false

/-- A file at work: what its view tells, what it is. -/
structure Fw (w : World) (pf pd : Nat) (S : Nat → Prop) (N : Nat) (i : Int) (base : Value) (T : Nat → Prop) (bc : Nat → List Int) (n : Nat) (P : Int → Option (List Int)) (c : Nat → List Int) (A0 : Array Value) (size : Int) (ptr : Nat → Nat) : Prop where
  D : Dw w pd S N i base T bc n P c
  A : ∃ A, w.heap[pf]? = some (.cells A 135 (0, 0)) ∧ FileIs A pd size ptr ∧ ∀ j, 0 < j → j < 15 → j ≠ 7 → A[j]? = A0[j]?
  nS : ¬ S pf
  nT : ¬ T pf
/-- Blocks of S and pf alone have turned; S' is S and new ones. -/
def KpF (S : Nat → Prop) (pf : Nat) (w : World) (S' : Nat → Prop) (w' : World) : Prop := (∀ b, S' b → S b ∨ w.heap.size ≤ b) ∧ Mods (fun g => S g ∨ g = pf) w w'
theorem KpF.refl (S : Nat → Prop) (pf : Nat) (w : World) : KpF S pf w S w := ⟨fun _ h => .inl h, Mods.refl _ _⟩
theorem KpF.trans {S S' S'' : Nat → Prop} {pf : Nat} {w w' w'' : World} (h : KpF S pf w S' w') (h' : KpF S' pf w' S'' w'') : KpF S pf w S'' w'' :=
  ⟨fun b hb => by
    rcases h'.1 b hb with h1 | h1
    · exact h.1 b h1
    · exact .inr (Nat.le_trans h.2.size h1), h.2.trans h'.2 (fun b hb => by
    rcases hb with h1 | h1
    · rcases h.1 b h1 with h2 | h2
      · exact .inl (.inl h2)
      · exact .inr h2
    · exact .inl (.inr h1))⟩
theorem KpF.of_kp {S S' : Nat → Prop} {pf : Nat} {w w' : World} (h : Kp S w S' w') : KpF S pf w S' w' := ⟨h.1, h.2.weak (fun b hb => .inl (.inl hb))⟩
theorem KpF.below {S : Nat → Prop} {pf : Nat} {w w' : World} (h : Below w.heap.size w w') : KpF S pf w S w' := .of_kp (.below h)
variable {w w' : World} {pf pd n N : Nat} {S S' T : Nat → Prop} {i : Int} {base : Value} {P P' : Int → Option (List Int)} {bc c c' : Nat → List Int} {A0 : Array Value} {size : Int} {ptr : Nat → Nat}
theorem Fw.later (h : Fw w pf pd S N i base T bc n P c A0 size ptr) (hb : Below w.heap.size w w') : Fw w' pf pd S N i base T bc n P c A0 size ptr := by
  obtain ⟨hD, ⟨A, h1, h2, h3⟩, h4, h5⟩ := h
  exact ⟨hD.later hb, ⟨A, (hb.block pf (Array.getElem?_eq_some_iff.1 h1).1).trans h1, h2, h3⟩, h4, h5⟩
theorem Fw.lt (h : Fw w pf pd S N i base T bc n P c A0 size ptr) : pf < w.heap.size := let ⟨_, h1, _⟩ := h.A; (Array.getElem?_eq_some_iff.1 h1).1
theorem Fw.kp {n' : Nat} (h : Fw w pf pd S N i base T bc n P c A0 size ptr) (hk : Kp S w S' w') (hD : Dw w' pd S' N i base T bc n' P' c') : Fw w' pf pd S' N i base T bc n' P' c' A0 size ptr := by
  obtain ⟨_, ⟨A, h1, h2, h3⟩, h4, h5⟩ := h
  exact ⟨hD, ⟨A, (hk.block (Array.getElem?_eq_some_iff.1 h1).1 h4).trans h1, h2, h3⟩, hk.off (Array.getElem?_eq_some_iff.1 h1).1 h4, h5⟩
theorem Fw.view (h : Fw w pf pd S N i base T bc n P c A0 size ptr) : w.cell? ⟨pf, 0, none⟩ = some (ptrV pd) := let ⟨_, h1, h2, _⟩ := h.A; cell_of h1 h2.view
/-- Bytes laid over others. -/
def layL (l : List Int) (from_ : Nat) (p : List Int) : List Int := l.take from_ ++ (p ++ l.drop (from_ + p.length))
theorem layL_len (l : List Int) (from_ : Nat) (p : List Int) (h : from_ + p.length ≤ l.length) : (layL l from_ p).length = l.length := by simp [layL]; omega
theorem layL_isB {l p : List Int} {from_ : Nat} (hl : ∀ y ∈ l, IsB y) (hp : ∀ y ∈ p, IsB y) : ∀ y ∈ layL l from_ p, IsB y := fun y hy => by
  simp only [layL, List.mem_append] at hy
  rcases hy with h | h | h
  · exact hl y (List.mem_of_mem_take h)
  · exact hp y h
  · exact hl y (List.mem_of_mem_drop h)
theorem layL_all (l p : List Int) (h : p.length = l.length) : layL l 0 p = p := by
  unfold layL
  rw [List.take_zero, List.nil_append, List.drop_of_length_le (by omega), List.append_nil]
theorem info5s : (Tryz.prog.info? 5).map (·.size) = some 1 := by kernel_rfl
theorem layL_splice (l p : List Int) (from_ : Nat) (rest : List Value) (h : from_ + p.length ≤ l.length) : splice (u8s l ++ rest) from_ (u8s p) = u8s (layL l from_ p) ++ rest := by
  unfold splice layL u8s
  rw [List.take_append_of_le_length (by simp; omega), List.drop_append_of_le_length (by simp; omega)]
  simp
set_option maxRecDepth 100000 in
set_option maxHeartbeats 4000000 in
theorem lay_part (h : Fw w pf pd S N i base T bc n P c A0 size ptr) (hn : n < 900000) (b from_ : Nat) (hb : b < N) (a : Option Addr) (m cp : Nat) (p : List Int) (hp : p.length = m) (hy : By w (fun _ => True) a p) (hm : m < 512) (hm0 : 0 < m) (hf : from_ + m ≤ 512) :
    Calls Tryz.prog 69 #[ptrV pf, n64 b, n64 from_, .slice a m cp] w fun e w' => e = .returned .nilIface ∧ ∃ S', Fw w' pf pd S' N i base T bc (n + 1) (upd P (b : Int) (some (layL (c b) from_ p))) (updN c b (layL (c b) from_ p)) A0 size ptr ∧ Kp S w S' w' := by
  have mkB : ∀ W : World, (Instr.makeSlice 59 (.int .i64 512) (.int .i64 512)).run Tryz.prog W = .ok (.slice (some ⟨W.heap.size, 0, none⟩) 512 512) (W.alloc (.cells (madeCells #[.int .u8 0] 512) 5)) := run_make_row' (P := Tryz.prog) 59 5 (.int .u8 0) 1 Tryz.underlying59 info5 rfl .i64 .i64 512 (by omega) (by omega)
  obtain ⟨W1, hW1⟩ : ∃ W, W = w.alloc (.cells (madeCells #[.int .u8 0] 512) 5) := ⟨_, rfl⟩
  have hb1 : Below w.heap.size w W1 := by rw [hW1]; exact (Below.refl _ _).alloc (Nat.le_refl _) _
  have hF1 := h.later hb1
  have HF1 := hid hF1
  have HF0 := hid h
  have f0 := hF1.view
  have HG := hid (hF1.D.Get b hb)
  have HB1 := hid hb1
  have HY1 := hid (hy.later hb1)
  have HH := hid (And.intro hn hb)
  have HP := hid hp
  have hm' : (m : Int) < 512 := by omega
  have HC : Hid ((c b).length = 512 ∧ ∀ y ∈ c b, IsB y) := hid ⟨h.D.len b hb, h.D.isB b hb⟩
  clear h hb1 hF1 hy hn hb hp
  go_enter Tryz.func69, Tryz.ntmps69
  go_wp2_with (first | (rw [← hW1]; clear hW1))
  refine HG.out.mono ?_
  rintro e w2 ⟨g2, c2, rfl, ho2, hb2⟩
  obtain ⟨cur, hh2, hc1, hc2, hcs, hcur, _⟩ := owns_block ho2
  have hg2 := (owns_lt ho2 (g := g2) rfl).2
  have hF2 := HF1.out.later hb2
  have HF2 := hid hF2
  have f2 := hF2.view
  have HB2 := hid hb2
  have HY2 := hid (HY1.out.later hb2)
  obtain ⟨rest, hrest⟩ : ∃ rest, cur.toList = u8s (c b) ++ rest := by
    refine ⟨cur.toList.drop 512, ?_⟩
    conv => lhs; rw [← List.take_append_drop 512 cur.toList]
    congr 1
    apply List.ext_getElem?
    intro j
    rw [List.getElem?_take]
    by_cases hj : j < 512
    · rw [if_pos hj, Array.getElem?_toList, hcur j hj]
    · rw [if_neg hj, List.getElem?_eq_none (by simp [HC.out.1]; omega)]
  have hcl : cur = (u8s (c b) ++ rest).toArray := by rw [← hrest]
  rw [hcl] at hh2
  have HH2 := hid hh2
  have HRL : Hid (512 + rest.length = c2) := hid (by rw [hcl] at hcs; simp [HC.out.1] at hcs; omega)
  have hfc : ¬ c2 = from_ := by omega
  have hfc2 : from_ ≤ c2 := by omega
  have hfc3 : (from_ : Int) ≤ 512 := by omega
  have hfc4 : from_ ≤ 512 := by omega
  have HG2 := hid hg2
  have HFM := hid (And.intro hm0 hf)
  clear ho2 hb2 hF2 hh2 hcur hcs hc1 hc2 hcl hrest hg2 f0 HG HF1 HY1 mkB
  have HSRC : Hid (∀ j v, (u8s p)[j]? = some v → ∀ ad, a = some ad → w2.cell? (ad.add j) = some v) := hid (fun j v hj ad had => by
    obtain ⟨gb, go, ea, _, hc⟩ := HY2.out.at_ (by rw [HP.out]; exact HFM.out.1)
    rw [ea] at had
    simp only [Option.some.injEq] at had
    subst had
    have hj2 : j < p.length := by have := (List.getElem?_eq_some_iff.1 hj).1; simpa using this
    rw [add_addr, hc j hj2, ← hj, u8s_get hj2])
  obtain ⟨ad, had⟩ : ∃ ad, a = some ad := by
    obtain ⟨gb, go, ea, _⟩ := HY2.out.addr (by rw [HP.out]; exact HFM.out.1)
    exact ⟨_, ea⟩
  have HAD := hid had
  obtain ⟨X, hX⟩ : ∃ X, X = u8s (c b) ++ rest := ⟨_, rfl⟩
  obtain ⟨Y, hY⟩ : ∃ Y, Y = u8s p := ⟨_, rfl⟩
  rw [← hX] at HH2
  rw [← hY] at HSRC
  have HYL : Hid (Y.length = m ∧ ∀ v ∈ Y, v.oneCell' = true) := hid ⟨by rw [hY]; simp [HP.out], by rw [hY]; exact u8s_one p⟩
  have HXL : Hid (X.length = c2) := hid (by rw [hX]; simp [HC.out.1]; exact HRL.out)
  have HXY : Hid (splice X from_ Y = u8s (layL (c b) from_ p) ++ rest) := hid (by rw [hX, hY]; exact layL_splice _ _ _ _ (by rw [HP.out, HC.out.1]; exact HFM.out.2))
  have HBW : Hid (Below w.heap.size w w2) := hid (HB1.out.trans (HB2.out.mono HB1.out.size))
  have HGW : Hid (w.heap.size ≤ g2) := hid (Nat.le_trans HB1.out.size HG2.out)
  clear had hX hY
  go_wp2_with (show wpList _ _ _ ({ dst := _, op := .call { callee := .builtin .copy, args := #[.tmp 31, .tmp 32], argTypes := #[59, 59] }, type := _, pos := _, after := _, guard := none } :: _) _ _; refine wpList_copy_splice rfl (.tmp 31) (.tmp 32) 59 59 rfl 5 Tryz.underlying59 info5s (some ⟨g2, from_, none⟩) a (512 - from_) (c2 - from_) m cp rfl rfl g2 from_ X 5 HH2.out Y (by rw [HYL.out.1]; exact (Nat.min_eq_left (by omega)).symm) (fun _ => ⟨rfl, ad, HAD.out, fun j v hj => HSRC.out j v hj ad HAD.out⟩) (by rw [HYL.out.1, HXL.out]; have := HRL.out; omega) HYL.out.2 w.heap.size w HBW.out HGW.out ?_; intro w3 hh3 hb3; have HB3 := hid hb3; have f3 := (HF0.out.later hb3).view; clear hb3)
  have HH3 := hid hh3.out
  rw [HXY.out] at HH3
  have hy3 : By w3 (fun _ => True) (some ⟨g2, 0, none⟩) (layL (c b) from_ p) := by
    have hl := layL_len (c b) from_ p (by rw [HP.out, HC.out.1]; exact HFM.out.2)
    refine ⟨layL_isB HC.out.2 HY2.out.isB, fun _ => ⟨g2, 0, _, _, rfl, trivial, HH3.out, fun j hj => ?_⟩⟩
    rw [Nat.zero_add, List.getElem?_toArray, List.getElem?_append_left (by simpa using hj), u8s_get hj]
  have HPU := hid ((HF0.out.later HB3.out).D.Put HH.out.1 b HH.out.2 (fun _ => True) (layL (c b) from_ p) (by rw [layL_len _ _ _ (by rw [HP.out, HC.out.1]; exact HFM.out.2)]; exact HC.out.1) (some ⟨g2, 0, none⟩) c2 hy3)
  clear hh3 hy3 HXY HSRC HAD HYL HXL HBW HGW
  go_wp2_with fail
  refine HPU.out.mono ?_
  rintro e w4 ⟨rfl, S', hd4, hk4⟩
  have HF4 := hid ((HF0.out.later HB3.out).kp hk4 hd4)
  have HK4 := hid ((Kp.below (S := S) HB3.out).trans hk4)
  clear hd4 hk4 HPU
  go_wp2
  go_ret
  exact ⟨rfl, S', HF4.out, HK4.out⟩
theorem made_arr (v : Value) (m : Nat) : madeCells #[v] m = (List.replicate m v).toArray := by
  apply Array.ext_getElem?
  intro j
  rw [← Array.getElem?_toList, toList_madeCells_one, List.getElem?_toArray]
set_option maxRecDepth 100000 in
set_option maxHeartbeats 4000000 in
theorem lay_full (h : Fw w pf pd S N i base T bc n P c A0 size ptr) (hn : n < 900000) (b : Nat) (hb : b < N) (a : Option Addr) (cp : Nat) (p : List Int) (hp : p.length = 512) (hy : By w (fun _ => True) a p) :
    Calls Tryz.prog 69 #[ptrV pf, n64 b, n64 (0 : Nat), .slice a 512 cp] w fun e w' => e = .returned .nilIface ∧ ∃ S', Fw w' pf pd S' N i base T bc (n + 1) (upd P (b : Int) (some p)) (updN c b p) A0 size ptr ∧ Kp S w S' w' := by
  have mkB : ∀ W : World, (Instr.makeSlice 59 (.int .i64 512) (.int .i64 512)).run Tryz.prog W = .ok (.slice (some ⟨W.heap.size, 0, none⟩) 512 512) (W.alloc (.cells (madeCells #[.int .u8 0] 512) 5)) := run_make_row' (P := Tryz.prog) 59 5 (.int .u8 0) 1 Tryz.underlying59 info5 rfl .i64 .i64 512 (by omega) (by omega)
  obtain ⟨W1, hW1⟩ : ∃ W, W = w.alloc (.cells (madeCells #[.int .u8 0] 512) 5) := ⟨_, rfl⟩
  have hb1 : Below w.heap.size w W1 := by rw [hW1]; exact (Below.refl _ _).alloc (Nat.le_refl _) _
  obtain ⟨X, hX⟩ : ∃ X, X = List.replicate 512 (Value.int .u8 0) := ⟨_, rfl⟩
  have hh1 : W1.heap[w.heap.size]? = some (.cells X.toArray 5 (0, 0)) := by rw [hW1, hX, ← made_arr]; exact alloc_new w _
  have HXL : Hid (X.length = 512) := hid (by rw [hX]; simp)
  obtain ⟨Y, hY⟩ : ∃ Y, Y = u8s p := ⟨_, rfl⟩
  have HYL : Hid (Y.length = 512 ∧ ∀ v ∈ Y, v.oneCell' = true) := hid ⟨by rw [hY]; simp [hp], by rw [hY]; exact u8s_one p⟩
  have HXY : Hid (splice X 0 Y = u8s p) := hid (by
    unfold splice
    rw [List.take_zero, List.nil_append, List.drop_of_length_le (by rw [HXL.out, HYL.out.1]; omega), List.append_nil, hY])
  have hy1 := hy.later hb1
  obtain ⟨gb, go, ea, _, hc⟩ := hy1.at_ (by rw [hp]; decide)
  have HSRC : Hid (∀ j v, Y[j]? = some v → W1.cell? ((⟨gb, go, none⟩ : Addr).add j) = some v) := hid (fun j v hj => by
    rw [hY] at hj
    have hj2 : j < p.length := by have := (List.getElem?_eq_some_iff.1 hj).1; simpa using this
    rw [add_addr, hc j hj2, ← hj, u8s_get hj2])
  have HEA := hid ea
  have HF0 := hid h
  have HI := hid hy.isB
  have HP := hid hp
  have HH := hid (And.intro hn hb)
  have HB1 := hid hb1
  have HH1 := hid hh1
  clear h hb1 hy hy1 hn hb hp hX hY hc hh1 ea
  go_enter Tryz.func69, Tryz.ntmps69
  go_wp2_with (first | (rw [← hW1]; clear hW1) | (show wpList _ _ _ ({ dst := _, op := .call { callee := .builtin .copy, args := #[.tmp 31, .tmp 32], argTypes := #[59, 59] }, type := _, pos := _, after := _, guard := none } :: _) _ _; refine wpList_copy_splice rfl (.tmp 31) (.tmp 32) 59 59 rfl 5 Tryz.underlying59 info5s (some ⟨w.heap.size, 0, none⟩) a 512 512 512 cp rfl rfl w.heap.size 0 X 5 HH1.out Y (by rw [HYL.out.1]; rfl) (fun _ => ⟨rfl, _, HEA.out, HSRC.out⟩) (by rw [HYL.out.1, HXL.out]; omega) HYL.out.2 w.heap.size w HB1.out (Nat.le_refl _) ?_; intro w3 hh3 hb3; have HB3 := hid hb3; have f3 := (HF0.out.later hb3).view; clear hb3))
  have HH3 := hid hh3.out
  rw [HXY.out] at HH3
  have hy3 : By w3 (fun _ => True) (some ⟨w.heap.size, 0, none⟩) p := by
    refine ⟨HI.out, fun _ => ⟨w.heap.size, 0, _, _, rfl, trivial, HH3.out, fun j hj => ?_⟩⟩
    rw [Nat.zero_add, List.getElem?_toArray, u8s_get hj]
  have HPU := hid ((HF0.out.later HB3.out).D.Put HH.out.1 b HH.out.2 (fun _ => True) p HP.out (some ⟨w.heap.size, 0, none⟩) 512 hy3)
  clear hh3 hy3 HXY HSRC HEA HYL HXL
  go_wp2_with fail
  refine HPU.out.mono ?_
  rintro e w4 ⟨rfl, S', hd4, hk4⟩
  have HF4 := hid ((HF0.out.later HB3.out).kp hk4 hd4)
  have HK4 := hid ((Kp.below (S := S) HB3.out).trans hk4)
  clear hd4 hk4 HPU
  go_wp2
  go_ret
  exact ⟨rfl, S', HF4.out, HK4.out⟩
theorem flay_any (h : Fw w pf pd S N i base T bc n P c A0 size ptr) (hn : n < 900000) (b from_ : Nat) (hb : b < N) (a : Option Addr) (m cp : Nat) (p : List Int) (hp : p.length = m) (hy : By w (fun _ => True) a p) (hm0 : 0 < m) (hf : from_ + m ≤ 512) :
    Calls Tryz.prog 69 #[ptrV pf, n64 b, n64 from_, .slice a m cp] w fun e w' => e = .returned .nilIface ∧ ∃ S', Fw w' pf pd S' N i base T bc (n + 1) (upd P (b : Int) (some (layL (c b) from_ p))) (updN c b (layL (c b) from_ p)) A0 size ptr ∧ Kp S w S' w' := by
  by_cases hm : m < 512
  · exact lay_part h hn b from_ hb a m cp p hp hy hm hm0 hf
  · obtain rfl : m = 512 := by omega
    obtain rfl : from_ = 0 := by omega
    rw [layL_all (c b) p (by rw [hp, h.D.len b hb])]
    exact lay_full h hn b hb a cp p hp hy
end Go.Proofs.YtaplmlldmhdhoaaGreatDoor
