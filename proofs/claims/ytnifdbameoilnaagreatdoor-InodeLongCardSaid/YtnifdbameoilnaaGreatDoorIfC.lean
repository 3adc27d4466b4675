/- Truncate that does not shorten; what is refused. -/
import Derived.Test.YtnifdbameoilnaaGreatDoorIcD
namespace Go.Proofs.YtnifdbameoilnaaGreatDoor
open Go.RowKit Go.Maps
set_option linter.unusedVariables false
variable {w w' : World} {pv pf pd n N : Nat} {S S' T : Nat → Prop} {i : Int} {base : Value} {P P' : Int → Option (List Int)} {bc c c' : Nat → List Int} {A0 : Array Value} {size : Int} {ptr : Nat → Nat}
theorem callT1 (args : Array Value) (w : World) : (callFunc 16 args).run Tryz.prog w = .ok (.enter 16 args) w := by kernel_rfl
theorem builtIno : Tryz.prog.built 32 [] = some #[.int .i64 0, .int .i64 0, .int .i64 0, .int .u32 0, .int .u32 0, .int .u32 0, .int .u64 0, .int .u64 0, .int .u32 0, .int .u32 0, .int .u32 0, .int .u32 0, .int .u32 0, .int .u32 0, .int .i64 0, .int .i64 0, .int .i64 0, .int .i64 0, .int .i64 0, .int .i64 0, .int .i64 0, .int .i64 0, .int .i64 0] := by kernel_rfl
theorem zAll : (#[.int .i64 0, .int .i64 0, .int .i64 0, .int .u32 0, .int .u32 0, .int .u32 0, .int .u64 0, .int .u64 0, .int .u32 0, .int .u32 0, .int .u32 0, .int .u32 0, .int .u32 0, .int .u32 0, .int .i64 0, .int .i64 0, .int .i64 0, .int .i64 0, .int .i64 0, .int .i64 0, .int .i64 0, .int .i64 0, .int .i64 0] : Array Value).all (·.oneCell') = true := by simp [Value.oneCell']
set_option maxRecDepth 100000 in
set_option maxHeartbeats 2000000 in
theorem Truncate1_any (h : Fw w pf pd S N i base T bc n P c A0 size ptr) (pa : Nat) (sz : Int) (hpa : w.cell? ⟨pa, 0, none⟩ = some (.int .u64 sz)) (hne : pa ≠ pf) (hle : size ≤ sz) :
    Calls Tryz.prog 16 (#[ptrV pf] ++ #[ptrV pa]) w fun e w' => e = .returned .nilIface ∧ w' = w.setCell ⟨pf, 7, none⟩ (.int .u64 sz) := by
  obtain ⟨q7, f7⟩ := h.sizeCell
  have hnl : ¬ sz < size := by omega
  obtain ⟨W1, hW1⟩ : ∃ W, W = w.setCell ⟨pf, 7, none⟩ (.int .u64 sz) := ⟨_, rfl⟩
  have q2 : W1.cell? ⟨pa, 0, none⟩ = some (.int .u64 sz) := by rw [hW1, World.cell?_setCell_other _ _ _ _ (by simp)]; exact hpa
  have HW1 := hid hW1
  rw [← hW1]
  clear h hle hne
  show Calls Tryz.prog 16 #[ptrV pf, ptrV pa] w _
  go_enter Tryz.func16, Tryz.ntmps16
  go_wp2_with (first | (rw [← hW1]; clear hW1))
  go_ret
  exact ⟨rfl, rfl⟩
set_option maxRecDepth 100000 in
set_option maxHeartbeats 2000000 in
theorem Truncate_long (w : World) (X : Array Value) (hX : X.size = 23) (sz : Int) (hs : 1082199040 < sz) :
    Calls Tryz.prog 8 #[ptrV pv, .agg X, .int .u64 sz] w fun e w' => e = .returned (.tuple #[.agg #[.int .i64 0, .int .i64 0, .int .i64 0, .int .u32 0, .int .u32 0, .int .u32 0, .int .u64 0, .int .u64 0, .int .u32 0, .int .u32 0, .int .u32 0, .int .u32 0, .int .u32 0, .int .u32 0, .int .i64 0, .int .i64 0, .int .i64 0, .int .i64 0, .int .i64 0, .int .i64 0, .int .i64 0, .int .i64 0, .int .i64 0], .iface 46 (.int .i64 5)]) ∧ Below w.heap.size w w' := by
  obtain ⟨W1, hW1⟩ : ∃ W, W = w.alloc (.cells X 32) := ⟨_, rfl⟩
  obtain ⟨W2, hW2⟩ : ∃ W, W = W1.alloc (.cells #[.int .u64 sz] 22) := ⟨_, rfl⟩
  obtain ⟨W3, hW3⟩ : ∃ W, W = W2.alloc (.cells #[.int .i64 0, .int .i64 0, .int .i64 0, .int .u32 0, .int .u32 0, .int .u32 0, .int .u64 0, .int .u64 0, .int .u32 0, .int .u32 0, .int .u32 0, .int .u32 0, .int .u32 0, .int .u32 0, .int .i64 0, .int .i64 0, .int .i64 0, .int .i64 0, .int .i64 0, .int .i64 0, .int .i64 0, .int .i64 0, .int .i64 0] 32) := ⟨_, rfl⟩
  have b1 : Below w.heap.size w W1 := by rw [hW1]; exact (Below.refl _ _).alloc (Nat.le_refl _) _
  have s1 : W1.heap.size = w.heap.size + 1 := by rw [hW1]; simp
  have h1 : W1.heap[w.heap.size]? = some (.cells X 32 (0, 0)) := by rw [hW1]; exact alloc_new w _
  have b2 : Below W1.heap.size W1 W2 := by rw [hW2]; exact (Below.refl _ _).alloc (Nat.le_refl _) _
  have s2 : W2.heap.size = W1.heap.size + 1 := by rw [hW2]; simp
  have h2 : W2.heap[W1.heap.size]? = some (.cells #[.int .u64 sz] 22 (0, 0)) := by rw [hW2]; exact alloc_new W1 _
  have b3 : Below W2.heap.size W2 W3 := by rw [hW3]; exact (Below.refl _ _).alloc (Nat.le_refl _) _
  have s3 : W3.heap.size = W2.heap.size + 1 := by rw [hW3]; simp
  have h3 : W3.heap[W2.heap.size]? = some (.cells #[.int .i64 0, .int .i64 0, .int .i64 0, .int .u32 0, .int .u32 0, .int .u32 0, .int .u64 0, .int .u64 0, .int .u32 0, .int .u32 0, .int .u32 0, .int .u32 0, .int .u32 0, .int .u32 0, .int .i64 0, .int .i64 0, .int .i64 0, .int .i64 0, .int .i64 0, .int .i64 0, .int .i64 0, .int .i64 0, .int .i64 0] 32 (0, 0)) := by rw [hW3]; exact alloc_new W2 _
  have hb3 : Below w.heap.size w W3 := b1.trans ((b2.trans (b3.mono b2.size)).mono b1.size)
  have h23 : W3.heap[W1.heap.size]? = some (.cells #[.int .u64 sz] 22 (0, 0)) := (b3.block _ (by omega)).trans h2
  obtain ⟨pa, hpa⟩ : ∃ pa, W1.heap.size = pa := ⟨_, rfl⟩
  obtain ⟨g8, hg8⟩ : ∃ g, W2.heap.size = g := ⟨_, rfl⟩
  rw [hpa] at h23
  rw [hg8] at h3
  have m1 : W3.cell? ⟨pa, 0, none⟩ = some (.int .u64 sz) := cell_of h23 rfl
  have H3 := hid h3
  have HB3 := hid hb3
  have HG8 : Hid (w.heap.size ≤ g8) := hid (by omega)
  clear b1 b2 b3 s1 s2 s3 h1 h2 h3 hb3 h23
  go_enter Tryz.func8, Tryz.ntmps8
  go_wp2_with (first | (rw [← hW1]; clear hW1) | (rw [← hW2]; clear hW2) | (rw [← hW3]; clear hW3) | (refine wpList_build_run rfl 32 _ rfl _ builtIno ?_) | (refine wpList_store_row rfl 32 _ _ rfl g8 #[.int .i64 0, .int .i64 0, .int .i64 0, .int .u32 0, .int .u32 0, .int .u32 0, .int .u64 0, .int .u64 0, .int .u32 0, .int .u32 0, .int .u32 0, .int .u32 0, .int .u32 0, .int .u32 0, .int .i64 0, .int .i64 0, .int .i64 0, .int .i64 0, .int .i64 0, .int .i64 0, .int .i64 0, .int .i64 0, .int .i64 0] rfl rfl 32 _ H3.out sizeIno rfl zAll ?_))
  refine bodyPost_ret (results_ct rfl _ _ g8 _ _ _ rfl (setRow_heap W3 g8 _ #[.int .i64 0, .int .i64 0, .int .i64 0, .int .u32 0, .int .u32 0, .int .u32 0, .int .u64 0, .int .u64 0, .int .u32 0, .int .u32 0, .int .u32 0, .int .u32 0, .int .u32 0, .int .u32 0, .int .i64 0, .int .i64 0, .int .i64 0, .int .i64 0, .int .i64 0, .int .i64 0, .int .i64 0, .int .i64 0, .int .i64 0] _ _ H3.out) Tryz.underlying32 sizeIno) rfl ⟨rfl, ?_⟩
  exact (setRow_mods W3 g8 _).to_below HB3.out HB3.out.size (fun b hb => by subst hb; exact HG8.out)
set_option maxRecDepth 100000 in
set_option maxHeartbeats 4000000 in
theorem Truncate_ok (hD : Dw w pv S N i base T bc n P c) (hn : n < 700000) (X : Array Value) (hX : InoIs X size ptr) (sz : Int) (hle : size ≤ sz) (hs : sz ≤ 1082199040) :
    Calls Tryz.prog 8 #[ptrV pv, .agg X, .int .u64 sz] w fun e w' => ∃ X', e = .returned (.tuple #[.agg X', .nilIface]) ∧ InoTo X X' sz ptr ∧ ∃ S' n' P', Dw w' pv S' N i base T bc n' P' c ∧ n' ≤ n + 1000 ∧ Kp S w S' w' := by
  have hXs := hX.sz
  obtain ⟨W1, hW1⟩ : ∃ W, W = w.alloc (.cells X 32) := ⟨_, rfl⟩
  obtain ⟨W2, hW2⟩ : ∃ W, W = W1.alloc (.cells #[.int .u64 sz] 22) := ⟨_, rfl⟩
  obtain ⟨W3, hW3⟩ : ∃ W, W = W2.alloc (.cells #[.int .i64 0, .int .i64 0, .int .i64 0, .int .u32 0, .int .u32 0, .int .u32 0, .int .u64 0, .int .u64 0, .int .u32 0, .int .u32 0, .int .u32 0, .int .u32 0, .int .u32 0, .int .u32 0, .int .i64 0, .int .i64 0, .int .i64 0, .int .i64 0, .int .i64 0, .int .i64 0, .int .i64 0, .int .i64 0, .int .i64 0] 32) := ⟨_, rfl⟩
  have b1 : Below w.heap.size w W1 := by rw [hW1]; exact (Below.refl _ _).alloc (Nat.le_refl _) _
  have s1 : W1.heap.size = w.heap.size + 1 := by rw [hW1]; simp
  have h1 : W1.heap[w.heap.size]? = some (.cells X 32 (0, 0)) := by rw [hW1]; exact alloc_new w _
  have b2 : Below W1.heap.size W1 W2 := by rw [hW2]; exact (Below.refl _ _).alloc (Nat.le_refl _) _
  have s2 : W2.heap.size = W1.heap.size + 1 := by rw [hW2]; simp
  have h2 : W2.heap[W1.heap.size]? = some (.cells #[.int .u64 sz] 22 (0, 0)) := by rw [hW2]; exact alloc_new W1 _
  have b3 : Below W2.heap.size W2 W3 := by rw [hW3]; exact (Below.refl _ _).alloc (Nat.le_refl _) _
  have s3 : W3.heap.size = W2.heap.size + 1 := by rw [hW3]; simp
  have h3 : W3.heap[W2.heap.size]? = some (.cells #[.int .i64 0, .int .i64 0, .int .i64 0, .int .u32 0, .int .u32 0, .int .u32 0, .int .u64 0, .int .u64 0, .int .u32 0, .int .u32 0, .int .u32 0, .int .u32 0, .int .u32 0, .int .u32 0, .int .i64 0, .int .i64 0, .int .i64 0, .int .i64 0, .int .i64 0, .int .i64 0, .int .i64 0, .int .i64 0, .int .i64 0] 32 (0, 0)) := by rw [hW3]; exact alloc_new W2 _
  have hb3 : Below w.heap.size w W3 := b1.trans ((b2.trans (b3.mono b2.size)).mono b1.size)
  have h13 : W3.heap[w.heap.size]? = some (.cells X 32 (0, 0)) := (b3.block _ (by omega)).trans ((b2.block _ (by omega)).trans h1)
  have h23 : W3.heap[W1.heap.size]? = some (.cells #[.int .u64 sz] 22 (0, 0)) := (b3.block _ (by omega)).trans h2
  obtain ⟨zi, hzi⟩ : ∃ zi : Array Value, zi = #[.int .i64 0, .int .i64 0, .int .i64 0, .int .u32 0, .int .u32 0, .int .u32 0, .int .u64 0, .int .u64 0, .int .u32 0, .int .u32 0, .int .u32 0, .int .u32 0, .int .u32 0, .int .u32 0, .int .i64 0, .int .i64 0, .int .i64 0, .int .i64 0, .int .i64 0, .int .i64 0, .int .i64 0, .int .i64 0, .int .i64 0] := ⟨_, rfl⟩
  rw [← hzi] at h3
  have HZI : Hid (zi.size = 23) := hid (by rw [hzi]; rfl)
  obtain ⟨pa, hpa⟩ : ∃ pa, W1.heap.size = pa := ⟨_, rfl⟩
  obtain ⟨g8, hg8⟩ : ∃ g, W2.heap.size = g := ⟨_, rfl⟩
  rw [hpa] at h23
  rw [hg8] at h3
  have m1 : W3.cell? ⟨pa, 0, none⟩ = some (.int .u64 sz) := cell_of h23 rfl
  have HCH := hid (changed_ok (c' := c) (hD.later hb3) hn 16 #[ptrV pa] callT1 X size sz ptr ptr hX (fun W pf pd Sd hbW hpf hsd hfw => by
    refine (Truncate1_any hfw pa sz (cell_later hbW m1) (by omega) hle).mono ?_
    rintro e w' ⟨rfl, rfl⟩
    exact ⟨rfl, Sd, 0, _, by omega, hfw.setSize sz, ⟨fun _ hb => .inl hb, ((Mods.refl (fun g => g = pf) W).setCell pf 7 _ rfl).weak (fun b hb => .inl (.inr hb))⟩⟩))
  have u1 : ¬ (1082199040 : Int) < sz := by omega
  have H13 := hid h13
  have H3 := hid h3
  have HXS := hid hXs
  have HB3 := hid hb3
  have HNS : Hid (∀ g, w.heap.size ≤ g → ¬ S g ∧ ¬ T g) := hid (fun g hg => ⟨fun h => by have := hD.s g h; omega, fun h => by have := hD.t.lt h; omega⟩)
  have HG8 : Hid (w.heap.size ≤ g8 ∧ g8 < W3.heap.size) := hid ⟨by omega, by omega⟩
  clear b1 b2 b3 s1 s2 s3 h1 h2 h3 h13 h23 hb3 hzi hD hX hle hs hXs
  go_enter Tryz.func8, Tryz.ntmps8
  go_wp2_with (first | (rw [← hW1]; clear hW1) | (rw [← hW2]; clear hW2) | (rw [← hW3]; clear hW3) | (refine wpList_load_row rfl 32 _ rfl w.heap.size rfl 32 X (0, 0) _ H13.out Tryz.underlying32 rfl (by rw [HXS.out]; exact sizeIno) ?_))
  refine HCH.out.mono ?_
  rintro e w6 ⟨X', rfl, hto, S6, n6, P6, hd6, hn6, hk6⟩
  have h66 := (hk6.block HG8.out.2 (HNS.out g8 HG8.out.1).1).trans H3.out
  have H66 := hid h66
  have HTO := hid hto
  have hXs' : X'.size = 23 := hto.is_.sz
  have HXS' := hid hXs'
  have HD6 := hid hd6
  have HN6 := hid hn6
  have HK6 := hid hk6
  clear hd6 hn6 hk6 hto h66 HCH m1 hpa hg8 u1
  go_wp2_with (first | (refine wpList_store_row rfl 32 _ _ rfl g8 X' rfl rfl 32 zi H66.out (by rw [HXS'.out]; exact sizeIno) (by rw [HXS'.out]; exact HZI.out) HTO.out.is_.one ?_))
  refine bodyPost_ret (results_ct rfl _ _ g8 X' _ _ rfl (setRow_heap w6 g8 zi X' _ _ H66.out) Tryz.underlying32 (by rw [HXS'.out]; exact sizeIno)) rfl ⟨X', rfl, HTO.out, S6, n6, P6, ?_, HN6.out, fun b hb => ?_, ?_⟩
  · refine HD6.out.mods (setRow_mods w6 g8 X') (fun g hg e => ?_)
    subst e
    rcases hg with h | h
    · rcases HK6.out.1 _ h with h2 | h2
      · exact (HNS.out _ HG8.out.1).1 h2
      · have := HG8.out.2; omega
    · exact (HNS.out _ HG8.out.1).2 h
  · rcases HK6.out.1 b hb with h | h
    · exact .inl h
    · exact .inr (Nat.le_trans HB3.out.size h)
  · exact ((Mods.of_below HB3.out).tr HK6.out.2).trans (setRow_mods w6 g8 X') (fun b hb => by subst hb; exact .inr HG8.out.1)
end Go.Proofs.YtnifdbameoilnaaGreatDoor
