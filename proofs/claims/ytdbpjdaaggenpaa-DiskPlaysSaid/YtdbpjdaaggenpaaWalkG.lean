/- Write: each block that is written has one version more. -/
import Derived.Test.YtdbpjdaaggenpaaSteps
namespace Go.Proofs.Ytdbpjdaaggenpaa
open Go.RowKit Go.Shelf

attribute [local go_sem] Oper.semAt_some

/-- Between two rounds. -/
def InvW (w : World) (pd : Nat) (A : Abs) (x : Int) (n : Nat) (al : Nat → Prop) (ls : List (List Int)) (m : Nat) (pre : List (Fin m)) (W : World) : Prop :=
  ∃ al', Disk W pd (wrA A x (pre.map fun i => ls.getD i.1 [])) (n + pre.length) al' ∧ (∀ b, al' b → al b ∨ (w.heap.size + 4 ≤ b ∧ ∃ c t f, W.heap[b]? = some (.cells c t f))) ∧ Mods al w W ∧
    Boxed W w.heap.size 24 (.pointer (some ⟨pd, 0, none⟩)) ∧ Boxed W (w.heap.size + 1) 3 (.int .i64 (x + (pre.length : Int))) ∧ w.heap.size + 4 ≤ W.heap.size

set_option maxRecDepth 100000 in
set_option maxHeartbeats 1000000 in
theorem Write_any (w : World) (pd : Nat) (A : Abs) (n : Nat) (al : Nat → Prop) (hd : Disk w pd A n al) (x : Int) (b off cap m M : Nat) (hM : M = 512 * m) (hm : m ≤ 65536) (hcap : M ≤ cap) (hh : hasB A.N x m = true) (hn : n ≤ 549755813888)
    (ls : List (List Int)) (hll : ls.length = m) (hl5 : ∀ i, i < m → (ls.getD i []).length = 512 ∧ ∀ y ∈ ls.getD i [], IsB y) (hdat : ∀ i, i < m → ∀ j, j < 512 → w.cell? ⟨b, off + 512 * i + j, none⟩ = some (.int .u8 ((ls.getD i []).getD j 0))) (hb : b < w.heap.size) (hnb : ¬ al b) :
    Calls Try.prog 14 #[.pointer (some ⟨pd, 0, none⟩), .int .i64 x, .slice (some ⟨b, off, none⟩) M cap] w fun e w' => e = .returned (.int .i64 0) ∧ Step w w' pd (wrA A x ls) (n + m) al := by
  have hc0 := hd.cell0
  have hN : 1 ≤ A.N ∧ A.N ≤ 65536 := let ⟨_, _, _, _, d⟩ := hd; d.hN
  have hrange : 1 ≤ m ∧ 0 ≤ x ∧ x + m ≤ 65536 := by unfold hasB at hh; simp at hh; omega
  have hr1 : (M : Int).tmod 512 = 0 := by rw [hM, Int.tmod_eq_emod_of_nonneg (by omega)]; omega
  have hr2 : (M : Int).tdiv 512 = (m : Int) := by rw [hM, Int.tdiv_eq_ediv_of_nonneg (by omega)]; omega
  have hr0 : ¬ ((M : Int) = 0) := by omega
  have hr0' : ¬ (M = 0) := by omega
  have HM := hid hM
  have HD := hid hd
  have hc0' : ((w.alloc (.cells #[.pointer (some ⟨pd, 0, none⟩)] 24)).alloc (.cells #[.int .i64 x] 3)).cell? ⟨pd, 0, none⟩ = some (.int .i64 A.N) :=
    cell_later (((Below.refl _ w).alloc (Nat.le_refl _) _).alloc (by simp) _) hc0
  have h32 : Fence.wide.fn 32 := trivial
  have h33 : Fence.wide.fn 33 := trivial
  clear hM hd hc0
  refine (callsIn_wide (n := 6)).1 ?_
  refine callsIn_of_wp_marks Try.func14 rfl trivial ?_ rfl
  simp only [Try.ntmps14, List.size_toArray, List.length_cons, List.length_nil, Nat.reduceAdd, Nat.reduceSub, Array.replicate_succ, Array.replicate_zero, List.push_toArray, List.append_toArray, List.nil_append, List.cons_append]
  gi_wp2_with (first
    | (gi_at_call 32; refine (callsIn_wide.2 (hasAll_any _ pd A.N x m hc0' hN (by omega))).mono ?_; rw [hh]; rintro e w2 ⟨rfl, hw⟩; rw [hw]; clear hw w2)
    | (gi_at_call 33; refine (Chunk_any _ b off M cap _).mono ?_; rintro e w2 ⟨rfl, hw⟩; rw [hw]; clear hw w2))
  have hb0 : Below w.heap.size w ((((w.alloc (.cells #[.pointer (some ⟨pd, 0, none⟩)] 24)).alloc (.cells #[.int .i64 x] 3)).alloc (.cells #[.slice (some ⟨b, off, none⟩) M cap] 42)).alloc (.cells #[.int .i64 512] 3)) :=
    ((((Below.refl _ w).alloc (Nat.le_refl _) _).alloc (by simp) _).alloc (by simp; omega) _).alloc (by simp; omega) _
  have bd := (((Boxed.new w 24 (.pointer (some ⟨pd, 0, none⟩))).alloc (.cells #[.int .i64 x] 3)).alloc (.cells #[.slice (some ⟨b, off, none⟩) M cap] 42)).alloc (.cells #[.int .i64 512] 3)
  have ba := ((Boxed.new (w.alloc (.cells #[.pointer (some ⟨pd, 0, none⟩)] 24)) 3 (.int .i64 x)).alloc (.cells #[.slice (some ⟨b, off, none⟩) M cap] 42)).alloc (.cells #[.int .i64 512] 3)
  have bs := (Boxed.new ((w.alloc (.cells #[.pointer (some ⟨pd, 0, none⟩)] 24)).alloc (.cells #[.int .i64 x] 3)) 42 (.slice (some ⟨b, off, none⟩) M cap)).alloc (.cells #[.int .i64 512] 3)
  have bn := Boxed.new (((w.alloc (.cells #[.pointer (some ⟨pd, 0, none⟩)] 24)).alloc (.cells #[.int .i64 x] 3)).alloc (.cells #[.slice (some ⟨b, off, none⟩) M cap] 42)) 3 (.int .i64 512)
  simp only [World.size_alloc] at bd ba bs bn
  have hsz0 : ((((w.alloc (.cells #[.pointer (some ⟨pd, 0, none⟩)] 24)).alloc (.cells #[.int .i64 x] 3)).alloc (.cells #[.slice (some ⟨b, off, none⟩) M cap] 42)).alloc (.cells #[.int .i64 512] 3)).heap.size = w.heap.size + 4 := by simp
  refine wpIn_rangeFunc_ownG rfl (by omega) (gf := 40) (lb := #[.pointer (some ⟨w.heap.size + 1 + 1, 0, none⟩), .pointer (some ⟨w.heap.size + 1 + 1 + 1, 0, none⟩)]) rfl trivial (enters_of Try.func40 (by kernel_rfl) rfl)
    (chunk_stops _ (w.heap.size + 1 + 1) (w.heap.size + 1 + 1 + 1) b off m M cap HM.out (by have := HM.out; omega) hcap _ bs bn) (fun h h' => ⟨h'.1.trans h.1, h'.2.trans h.2⟩) ?keepb (Below.refl _ _) (fun _ => rfl)
    (fun pre W => InvW w pd A x n al ls m pre W)
    (fun _ _ _ => False) ?own (fun _ _ _ _ _ hs _ _ => hs) ?start
    (fun i => { tmps := #[Value.pointer (some { block := pd, off := 0 }), Value.int IntKind.i64 x,
          Value.slice (some { block := b, off := off }) M cap, Value.pointer (some { block := w.heap.size, off := 0 }),
          Value.pointer (some { block := w.heap.size + 1, off := 0 }), undef, Value.int IntKind.i64 0, .slice (some ⟨b, off + 512 * i.1, none⟩) 512 512,
          Value.slice (some { block := b, off := off }) M cap, Value.int IntKind.i64 ↑M, Value.bool false,
          Value.bool false, Value.slice (some { block := b, off := off }) M cap, Value.int IntKind.i64 ↑M,
          Value.int IntKind.i64 0, Value.bool false, Value.bool false, Value.pointer (some { block := pd, off := 0 }),
          Value.int IntKind.i64 x, Value.slice (some { block := b, off := off }) M cap, Value.int IntKind.i64 ↑M,
          Value.int IntKind.i64 ↑m, Value.bool true, Value.bool false,
          Value.slice (some { block := b, off := off }) M cap,
          Value.func (Fn.func 40) #[]
            #[Value.pointer (some { block := w.heap.size + 1 + 1, off := 0 }),
              Value.pointer (some { block := w.heap.size + 1 + 1 + 1, off := 0 })],
          .slice (some ⟨b, off + 512 * i.1, none⟩) 512 512, undef, undef, undef, undef, undef, undef, undef, undef, undef, undef, undef, undef, undef, undef,
          undef, undef, undef], defers := [] }) ?assign ?body ?done ?stop
  case keepb =>
    intro W l o o' hl _ _ _
    rw [hsz0] at hl
    have hne : ∀ j, j ≠ l → (W.putObj l o').heap[j]? = W.heap[j]? := fun j hj => by simp [World.putObj, Ne.symm hj]
    exact ⟨hne _ (by omega), hne _ (by omega)⟩
  case own =>
    rintro pre W W' row ⟨al', hD, hal, hmods, hbd, hba, hsz⟩ hg hr
    rw [hsz0] at hr
    have hne : ∀ g, al' g → some g ≠ row := fun g hg' e => by
      obtain ⟨hB, o, ho, hno⟩ := hr g e.symm
      rcases hal g hg' with h | ⟨_, c, t, f, h⟩
      · have := HD.out.lt g h; omega
      · rw [h] at ho; cases ho; cases hno
    refine ⟨al', hD.keep hg.size (fun g hg' => hg.block g (hD.lt g hg') (hne g hg')), fun g hg' => (hal g hg').imp id (fun ⟨h1, c, t, f, h2⟩ => ⟨h1, c, t, f, (hg.block g (hD.lt g hg') (hne g hg')).trans h2⟩),
      hmods.grown hg (fun g e => by have := (hr g e).1; exact .inr (by omega)), hbd.kept hg (fun e => by have := (hr _ e.symm).1; omega), hba.kept hg (fun e => by have := (hr _ e.symm).1; omega), Nat.le_trans hsz hg.size⟩
  case start =>
    refine ⟨al, ?_, fun g hg => .inl hg, Mods.of_below hb0, bd, ?_, by rw [hsz0]; exact Nat.le_refl _⟩
    · rw [List.map_nil, wrA_nil]
      exact HD.out.below hb0
    · simpa using ba
  case assign =>
    intro l i W K hK
    gi_wp2
    exact hK
  case body =>
    rintro l pre i W hI hlt
    obtain ⟨al', ⟨bp, bv, MP, MV, d⟩, hal, hmods, hbd, hba, hsz⟩ := hI
    obtain ⟨k, hk⟩ : ∃ k, k = x + (pre.length : Int) := ⟨_, rfl⟩
    rw [← hk] at hba
    have hkI : IsI k := isI_of (by omega) (by omega)
    have hbdc := hbd.cell
    have hbac := hba.cell
    have hbaf := hba.frozen
    obtain ⟨_, _, hc2, _⟩ := d.cells
    obtain ⟨vs, hvs, hown, hrows, hva⟩ := d.at_key k hkI
    obtain ⟨v, hv⟩ : ∃ v, v = (MV k).getD (.slice none 0 0) := ⟨_, rfl⟩
    rw [← hv] at hown hva
    have hlook : ∀ w' : World, w'.heap[bv]? = W.heap[bv]? → (Instr.lookup 58 (.map (some bv)) (.int .i64 k) false).run Try.prog w' = .ok v w' := fun w' h => by
      rw [hv]; exact (d.mv.keep h).look Try.underlying58 (zero71 w') hkI
    have hcl := Clone_any W.drew b (off + 512 * i.1) 512 (ls.getD i.1 []) (hl5 i.1 i.2).1 (fun j hj => by
      have := hdat i.1 i.2 j hj
      exact (World.cell?_of_block (w := w) (hmods.block b hb hnb)).trans this)
    have hcl2 : Calls Try.prog 34 #[.slice (some ⟨b, off + 512 * i.1, none⟩) 512 512] W.drew fun e wc => ∃ gc cc, e = .returned (.slice (some ⟨gc, 0, none⟩) 512 cc) ∧ (wc.ownsRow W.heap.size 5 1 (.slice (some ⟨gc, 0, none⟩) 512 cc) 512 ((ls.getD i.1 []).map fun x => Value.int .u8 x) ∧ Below W.heap.size W wc) := by
      refine hcl.mono ?_
      rintro e wc ⟨vc, rfl, hrc, hbc⟩
      rcases hrc.2 with ⟨_, h0⟩ | ⟨g, cap, cur, rfl, h2⟩
      · omega
      · exact ⟨g, cap, rfl, ⟨hrc.1, .inr ⟨g, cap, cur, rfl, h2⟩⟩, ⟨hbc.os, hbc.tape, hbc.output, hbc.size, hbc.block⟩⟩
    have hvL := d.vL k
    -- the three cells that are read first
    have hbvW := d.lt bv d.abv
    have hpdW := d.lt pd d.apd
    obtain ⟨es0, cl0, hmb⟩ := d.mv.block
    have hne1 : w.heap.size ≠ bv := fun e => by have h := hbd; rw [e] at h; rw [Boxed, hmb] at h; cases h
    have hne2 : w.heap.size + 1 ≠ bv := fun e => by have h := hba; rw [e] at h; rw [Boxed, hmb] at h; cases h
    have hne3 : pd ≠ bv := fun e => by have h := d.box; rw [e, hmb] at h; cases h
    have hvo : ∀ g, v.ownBlock = some g → g ≠ w.heap.size ∧ g ≠ w.heap.size + 1 ∧ g ≠ pd ∧ g ≠ bv := fun g hg => by
      obtain ⟨cur, hcu⟩ := owns_kind hown hg
      refine ⟨fun e => ?_, fun e => ?_, fun e => ?_, fun e => ?_⟩
      · rw [e, show W.heap[w.heap.size]? = _ from hbd] at hcu; cases hcu
      · rw [e, show W.heap[w.heap.size + 1]? = _ from hba] at hcu; cases hcu
      · rw [e, d.box] at hcu; cases hcu
      · rw [e, hmb] at hcu; cases hcu
    have hSof : ∀ w' : World, w'.heap[w.heap.size]? = W.heap[w.heap.size]? → w'.heap[w.heap.size + 1]? = W.heap[w.heap.size + 1]? → w'.heap[pd]? = W.heap[pd]? →
        (w'.cell? ⟨w.heap.size, 0, none⟩ = some (.pointer (some ⟨pd, 0, none⟩)) ∧ w'.cell? ⟨w.heap.size + 1, 0, none⟩ = some (.int .i64 k) ∧ w'.cell? ⟨pd, 2, none⟩ = some (.map (some bv))) := fun w' h1 h2 h3 =>
      ⟨(World.cell?_of_block (w := W) h1).trans hbdc, (World.cell?_of_block (w := W) h2).trans hbac, (World.cell?_of_block (w := W) h3).trans hc2⟩
    obtain ⟨i0, hi0, hz0, hz1, hz2⟩ := info42b
    have hkr : 0 ≤ k ∧ k < 65536 := by omega
    have hkN : 0 ≤ k ∧ k < A.N := by
      have h3 : (m : Int) ≤ A.N - x := by unfold hasB at hh; simp at hh; omega
      omega
    have ew : IntKind.i64.wrap (k + 1) = k + 1 := IntWalk.i64_in _ (by omega)
    -- the tail: append, the store, the counter
    have tail : ∀ (wc : World) (gc cc : Nat), wc.ownsRow W.heap.size 5 1 (.slice (some ⟨gc, 0, none⟩) 512 cc) 512 ((ls.getD i.1 []).map fun x => Value.int .u8 x) → Below W.heap.size W wc →
        ∃ v' wb wu, (Builtin.append_ #[71, 71] 71 #[v, .slice (some ⟨wc.heap.size, 0, none⟩) 1 1]).run Try.prog (wc.alloc (.cells #[.slice (some ⟨gc, 0, none⟩) 512 cc] 42)) = .ok v' wb ∧
          (Instr.mapUpdate 58 (.map (some bv)) (.int .i64 k) v').run Try.prog wb = .ok () wu ∧
          Hid (wb.cell? ⟨w.heap.size, 0, none⟩ = some (.pointer (some ⟨pd, 0, none⟩)) ∧ wb.cell? ⟨w.heap.size + 1, 0, none⟩ = some (.int .i64 k) ∧ wb.cell? ⟨pd, 2, none⟩ = some (.map (some bv))) ∧
          Hid (wu.cell? ⟨w.heap.size, 0, none⟩ = some (.pointer (some ⟨pd, 0, none⟩)) ∧ wu.cell? ⟨w.heap.size + 1, 0, none⟩ = some (.int .i64 k) ∧ wu.cell? ⟨pd, 2, none⟩ = some (.map (some bv))) ∧
          wu.frozen? ⟨w.heap.size + 1, 0, none⟩ = false ∧
          Hid (KeepsFrom (w.heap.size + 4) W (wu.setCell ⟨w.heap.size + 1, 0, none⟩ (.int .i64 (k + 1))) ∧ KeepsTwo (w.heap.size + 1 + 1) (w.heap.size + 1 + 1 + 1) W (wu.setCell ⟨w.heap.size + 1, 0, none⟩ (.int .i64 (k + 1))) ∧
            InvW w pd A x n al ls m (pre ++ [i]) (wu.setCell ⟨w.heap.size + 1, 0, none⟩ (.int .i64 (k + 1)))) := by
      intro wc gc cc hrc hbc
      have hba2 : Below W.heap.size W (wc.alloc (.cells #[.slice (some ⟨gc, 0, none⟩) 512 cc] 42)) := hbc.alloc hbc.size _
      have hownA := owns_keep hown (fun g hg => hba2.block g (owns_lt hown hg).1)
      obtain ⟨v', wb, hr1, h2, h3, _, h5⟩ := run_append_own_at (P := Try.prog) (wc.alloc (.cells #[.slice (some ⟨gc, 0, none⟩) 512 cc] 42)) 0 71 71 42 i0 (.slice none 0 0) 1 24 Try.underlying71 hi0 hz0 hz1 hz2 rfl (by decide) v _ vs hownA ⟨wc.heap.size, 0, none⟩ 1 1 [.slice (some ⟨gc, 0, none⟩) 512 cc] (by simp) (cell_one_new wc _ 42) (by simp [Value.oneCell']) (by unfold maxLen; omega) (by omega) (Nat.zero_le _)
      have hkb : ∀ g, g < W.heap.size → v.ownBlock ≠ some g → wb.heap[g]? = W.heap[g]? := fun g hg hne => (h3.block g (Nat.lt_of_lt_of_le hg hba2.size) (fun e => hne e.symm)).trans (hba2.block g hg)
      have hbvv : v.ownBlock ≠ some bv := fun e => (hvo bv e).2.2.2 rfl
      obtain ⟨wu, hr2, hm2, hg2⟩ := (d.mv.keep (hkb bv hbvW hbvv)).put Try.underlying58 (by unfold maxLen; omega) hkI v'
      have hku : ∀ g, g < W.heap.size → g ≠ bv → v.ownBlock ≠ some g → wu.heap[g]? = W.heap[g]? := fun g hg hnb hne => (hg2.block g (by have := hba2.size; have := h3.size; omega) (by simpa using hnb)).trans (hkb g hg hne)
      have hn1 : v.ownBlock ≠ some w.heap.size := fun e => (hvo _ e).1 rfl
      have hn2 : v.ownBlock ≠ some (w.heap.size + 1) := fun e => (hvo _ e).2.1 rfl
      have hn3 : v.ownBlock ≠ some pd := fun e => (hvo _ e).2.2.1 rfl
      have hl1 := hbd.lt
      have hl2 := hba.lt
      have hsu : W.heap.size ≤ wu.heap.size := Nat.le_trans hba2.size (Nat.le_trans h3.size hg2.size)
      have hba_u : Boxed wu (w.heap.size + 1) 3 (.int .i64 k) := (hku _ hl2 hne2 hn2).trans hba
      refine ⟨v', wb, wu, hr1, hr2, hid (hSof wb (hkb _ hl1 hn1) (hkb _ hl2 hn2) (hkb _ hpdW hn3)), hid (hSof wu (hku _ hl1 hne1 hn1) (hku _ hl2 hne2 hn2) (hku _ hpdW hne3 hn3)), hba_u.frozen, hid ?_⟩
      -- the rows in the last world
      have hgcW : W.heap.size ≤ gc := (owns_lt hrc rfl).2
      have hgcL : gc < wc.heap.size := (owns_lt hrc rfl).1
      have hvW : ∀ g, v.ownBlock = some g → g < W.heap.size := fun g hg => (owns_lt hown hg).1
      have hrow : wu.ownsRow W.heap.size 5 1 (.slice (some ⟨gc, 0, none⟩) 512 cc) 512 ((ls.getD i.1 []).map fun x => Value.int .u8 x) := owns_keep hrc (fun g hg => by
        have hg : some gc = some g := hg
        obtain rfl : gc = g := by simpa using hg
        refine (hg2.block gc ?_ ?_).trans ((h3.block gc ?_ ?_).trans (Below.heap_alloc _ _ _ hgcL))
        · have := h3.size; simp at this; omega
        · intro e; simp at e; omega
        · simp; omega
        · intro e; have := hvW gc e.symm; omega)
      have hout : wu.ownsRow 0 42 1 v' (((wrA A x (pre.map fun i => ls.getD i.1 [])).V k).length + 1) (vs ++ [.slice (some ⟨gc, 0, none⟩) 512 cc]) := owns_keep h2 (fun g hg => by
        refine hg2.block g (owns_lt h2 hg).1 (fun e => ?_)
        obtain ⟨cur, hcu⟩ := owns_kind h2 hg
        obtain ⟨es', cl', hmb'⟩ := (d.mv.keep (hkb bv hbvW hbvv)).block
        simp at e
        rw [e, hmb'] at hcu
        cases hcu)
      have hloc : v'.ownBlock = v.ownBlock ∨ ∃ g, v'.ownBlock = some g ∧ W.heap.size ≤ g := h5.imp id (fun e => ⟨_, e, hba2.size⟩)
      have d2 := d.wrote k hkI (by exact hkN) vs hvs v hv hown hrows hva (.slice (some ⟨gc, 0, none⟩) 512 cc) v' (ls.getD i.1 []) (hl5 i.1 i.2) hsu hku hrow hout hloc hm2
      -- the counter's box
      have hks : ∀ g, g ≠ w.heap.size + 1 → (wu.setCell ⟨w.heap.size + 1, 0, none⟩ (.int .i64 (k + 1))).heap[g]? = wu.heap[g]? := fun g hg => Below.heap_setCell _ _ _ _ hg
      have hss : (wu.setCell ⟨w.heap.size + 1, 0, none⟩ (.int .i64 (k + 1))).heap.size = wu.heap.size := by simp [World.setCell]
      have hallt : ∀ g, al' g → g ≠ w.heap.size + 1 := fun g hg e => by
        rcases hal g hg with h | ⟨h, _⟩
        · have := HD.out.lt g h; omega
        · omega
      refine ⟨⟨by rw [hss]; exact hsu, fun g o hB hg ho => ?_⟩, ⟨?_, ?_⟩, ?_⟩
      · have hgl : g < W.heap.size := (Array.getElem?_eq_some_iff.1 hg).1
        rw [hks g (by omega), hku g hgl ?_ ?_]
        · exact hg
        · intro e
          rcases hal bv d.abv with h | ⟨h, c', t', f', h'⟩
          · have := HD.out.lt bv h; omega
          · rw [hmb] at h'; cases h'
        · intro e
          obtain ⟨cur, hcu⟩ := owns_kind hown e
          rw [hg] at hcu
          cases hcu
          cases ho
      · rw [hks _ (by omega)]
        refine hku _ (by omega) ?_ ?_
        · intro e
          rcases hal bv d.abv with h | ⟨h, _⟩
          · have := HD.out.lt bv h; omega
          · omega
        · intro e
          rcases hal _ (hva _ e) with h | ⟨h, _⟩
          · have := HD.out.lt _ h; omega
          · omega
      · rw [hks _ (by omega)]
        refine hku _ (by omega) ?_ ?_
        · intro e
          rcases hal bv d.abv with h | ⟨h, _⟩
          · have := HD.out.lt bv h; omega
          · omega
        · intro e
          rcases hal _ (hva _ e) with h | ⟨h, _⟩
          · have := HD.out.lt _ h; omega
          · omega
      · refine ⟨fun b => (al' b ∧ (v.ownBlock = some b → v'.ownBlock = some b)) ∨ (W.heap.size ≤ b ∧ ((Value.slice (some ⟨gc, 0, none⟩) 512 cc).ownBlock = some b ∨ v'.ownBlock = some b)), ?_, ?_, ?_, ?_, ?_, ?_⟩
        · have e1 : (pre ++ [i]).map (fun i => ls.getD i.1 []) = pre.map (fun i => ls.getD i.1 []) ++ [ls.getD i.1 []] := by simp
          have e2 : n + (pre ++ [i]).length = n + pre.length + 1 := by simp; omega
          rw [e1, e2, wrA_snoc, List.length_map, ← hk]
          refine Disk.keep ⟨_, _, _, _, d2⟩ (by rw [hss]; exact Nat.le_refl _) (fun g hg => hks g ?_)
          rcases hg with ⟨hg, _⟩ | ⟨hg, _⟩
          · exact hallt g hg
          · omega
        · rintro g (⟨hg, himp⟩ | ⟨hg, hor⟩)
          · rcases hal g hg with h | ⟨h, c', t', f', h'⟩
            · exact .inl h
            · refine .inr ⟨h, ?_⟩
              rw [hks g (hallt g hg)]
              by_cases e : v.ownBlock = some g
              · obtain ⟨cur, hcu⟩ := owns_kind hout (himp e)
                exact ⟨_, _, _, hcu⟩
              · rw [hku g (d.lt g hg) (fun e' => by rw [e', hmb] at h'; cases h') e]
                exact ⟨_, _, _, h'⟩
          · refine .inr ⟨by omega, ?_⟩
            rw [hks g (by omega)]
            rcases hor with e | e
            · obtain ⟨cur, hcu⟩ := owns_kind hrow e
              exact ⟨_, _, _, hcu⟩
            · obtain ⟨cur, hcu⟩ := owns_kind hout e
              exact ⟨_, _, _, hcu⟩
        · refine ⟨?_, ?_, ?_, ?_, ?_⟩
          · exact (hg2.os.trans (h3.os.trans hba2.os)).trans hmods.os
          · exact (hg2.tape.trans (h3.tape.trans hba2.tape)).trans hmods.tape
          · exact (hg2.output.trans (h3.output.trans hba2.output)).trans hmods.output
          · rw [hss]; exact Nat.le_trans hmods.size hsu
          · intro g hg hna
            have hgW := Nat.lt_of_lt_of_le hg hmods.size
            rw [hks g (by omega), hku g hgW ?_ ?_]
            · exact hmods.block g hg hna
            · intro e
              rcases hal bv d.abv with h | ⟨h, _⟩
              · exact hna (e ▸ h)
              · omega
            · intro e
              rcases hal g (hva g e) with h | ⟨h, _⟩
              · exact hna h
              · omega
        · exact (hks _ (by omega)).trans ((hku _ hl1 hne1 hn1).trans hbd)
        · have := hba_u.set (.int .i64 (k + 1))
          have e3 : x + ((pre ++ [i]).length : Int) = k + 1 := by simp; omega
          rw [e3]
          exact this
        · rw [hss]; omega
    have HW1 := hid hbd.lt
    have HW2 := hid hba.lt
    have HW3 := hid hpdW
    have HW4 := hid hbvW
    have HK := hid hk
    have HV := hid hv
    have HTail := hid tail
    have HLook := hid hlook
    have HCl := hid hcl2
    have HSof := hid hSof
    clear d hal hmods hown hrows hva hlook hcl hcl2 hSof hvo tail hl5 hdat hk hv
    gi_wp2
    refine region_in (S := fun w' => w'.cell? ⟨w.heap.size, 0, none⟩ = some (.pointer (some ⟨pd, 0, none⟩)) ∧ w'.cell? ⟨w.heap.size + 1, 0, none⟩ = some (.int .i64 k) ∧ w'.cell? ⟨pd, 2, none⟩ = some (.map (some bv))) (by kernel_rfl) ?nd ?q ?_
    case nd =>
      intro o ho c
      simp only [List.mem_toArray, List.mem_cons, List.not_mem_nil, or_false] at ho
      rcases ho with rfl | rfl | rfl | rfl | rfl | rfl | rfl | rfl | rfl | rfl | rfl | rfl | rfl | rfl | rfl | rfl <;> simp
    case q =>
      rintro ⟨a', w', h⟩
      exact h
    have hS : (fun w' : World => w'.cell? ⟨w.heap.size, 0, none⟩ = some (.pointer (some ⟨pd, 0, none⟩)) ∧ w'.cell? ⟨w.heap.size + 1, 0, none⟩ = some (.int .i64 k) ∧ w'.cell? ⟨pd, 2, none⟩ = some (.map (some bv))) W.drew := ⟨hbdc, hbac, hc2⟩
    refine any_take 0 27 (.pointer (some ⟨pd, 0, none⟩)) rfl rfl (by kernel_rfl) (by kernel_rfl) (by kernel_rfl) (fun _ _ _ h => h) (Or.inl ⟨by rfl, ?_⟩) hS ?_
    · rintro w' ⟨s1, s2, s3⟩
      go_simp
    simp only [List.setIfInBounds_toArray, List.set_cons_zero, List.set_cons_succ]
    refine any_take 1 28 (.pointer (some ⟨pd, 0, none⟩)) rfl rfl (by kernel_rfl) (by kernel_rfl) (by kernel_rfl) (fun _ _ _ h => h) (Or.inl ⟨by rfl, ?_⟩) hS ?_
    · rintro w' ⟨s1, s2, s3⟩
      go_simp
    simp only [List.setIfInBounds_toArray, List.set_cons_zero, List.set_cons_succ]
    refine any_take 2 29 (.pointer (some ⟨pd, 2, none⟩)) rfl rfl (by kernel_rfl) (by kernel_rfl) (by kernel_rfl) (fun _ _ _ h => h) (Or.inl ⟨by rfl, ?_⟩) hS ?_
    · rintro w' ⟨s1, s2, s3⟩
      go_simp
    simp only [List.setIfInBounds_toArray, List.set_cons_zero, List.set_cons_succ]
    refine any_take 3 30 (.map (some bv)) rfl rfl (by kernel_rfl) (by kernel_rfl) (by kernel_rfl) (fun _ _ _ h => h) (Or.inl ⟨by rfl, ?_⟩) hS ?_
    · rintro w' ⟨s1, s2, s3⟩
      go_simp
    simp only [List.setIfInBounds_toArray, List.set_cons_zero, List.set_cons_succ]
    refine any_take 4 31 (.int .i64 k) rfl rfl (by kernel_rfl) (by kernel_rfl) (by kernel_rfl) (fun _ _ _ h => h) (Or.inl ⟨by rfl, ?_⟩) hS ?_
    · rintro w' ⟨s1, s2, s3⟩
      go_simp
    simp only [List.setIfInBounds_toArray, List.set_cons_zero, List.set_cons_succ]
    refine any_take 5 32 (.pointer (some ⟨pd, 0, none⟩)) rfl rfl (by kernel_rfl) (by kernel_rfl) (by kernel_rfl) (fun _ _ _ h => h) (Or.inl ⟨by rfl, ?_⟩) hS ?_
    · rintro w' ⟨s1, s2, s3⟩
      go_simp
    simp only [List.setIfInBounds_toArray, List.set_cons_zero, List.set_cons_succ]
    refine any_take 6 33 (.pointer (some ⟨pd, 0, none⟩)) rfl rfl (by kernel_rfl) (by kernel_rfl) (by kernel_rfl) (fun _ _ _ h => h) (Or.inl ⟨by rfl, ?_⟩) hS ?_
    · rintro w' ⟨s1, s2, s3⟩
      go_simp
    simp only [List.setIfInBounds_toArray, List.set_cons_zero, List.set_cons_succ]
    refine any_take 7 34 (.pointer (some ⟨pd, 2, none⟩)) rfl rfl (by kernel_rfl) (by kernel_rfl) (by kernel_rfl) (fun _ _ _ h => h) (Or.inl ⟨by rfl, ?_⟩) hS ?_
    · rintro w' ⟨s1, s2, s3⟩
      go_simp
    simp only [List.setIfInBounds_toArray, List.set_cons_zero, List.set_cons_succ]
    refine any_take 8 35 (.map (some bv)) rfl rfl (by kernel_rfl) (by kernel_rfl) (by kernel_rfl) (fun _ _ _ h => h) (Or.inl ⟨by rfl, ?_⟩) hS ?_
    · rintro w' ⟨s1, s2, s3⟩
      go_simp
    simp only [List.setIfInBounds_toArray, List.set_cons_zero, List.set_cons_succ]
    refine any_take 9 36 (.int .i64 k) rfl rfl (by kernel_rfl) (by kernel_rfl) (by kernel_rfl) (fun _ _ _ h => h) (Or.inl ⟨by rfl, ?_⟩) hS ?_
    · rintro w' ⟨s1, s2, s3⟩
      go_simp
    simp only [List.setIfInBounds_toArray, List.set_cons_zero, List.set_cons_succ]
    refine any_take 11 38 (.slice (some ⟨b, off + 512 * i.1, none⟩) 512 512) rfl rfl (by kernel_rfl) (by kernel_rfl) (by kernel_rfl) (fun _ _ _ h => h) (Or.inl ⟨by rfl, ?_⟩) hS ?_
    · rintro w' ⟨s1, s2, s3⟩
      go_simp
    simp only [List.setIfInBounds_toArray, List.set_cons_zero, List.set_cons_succ]
    refine any_two 10 12 (by kernel_rfl) ?_ ?_
    · skip
      refine op_value' 37 (v := v) (w' := W.drew) rfl (by rfl) rfl (by have hlk := HLook.out W.drew rfl; go_simp) ⟨hS, ?_⟩
      simp only [List.setIfInBounds_toArray, List.set_cons_zero, List.set_cons_succ]
      refine any_one 12 (by kernel_rfl) ?_
      refine op_call' 39 (f := 34) (args := #[.slice (some ⟨b, off + 512 * i.1, none⟩) 512 512]) (val := fun gc cc => .slice (some ⟨gc, 0, none⟩) 512 cc) rfl (by rfl) rfl (by go_simp) HCl.out (fun gc cc wc hr => ?_)
      have hrc := hr.1
      have hbc := hr.2
      clear hr
      have hba2 : Below W.heap.size W (wc.alloc (.cells #[.slice (some ⟨gc, 0, none⟩) 512 cc] 42)) := hbc.alloc hbc.size _
      have hSc := HSof.out wc (hbc.block _ HW1.out) (hbc.block _ HW2.out) (hbc.block _ HW3.out)
      have hSa := HSof.out (wc.alloc (.cells #[.slice (some ⟨gc, 0, none⟩) 512 cc] 42)) (hba2.block _ HW1.out) (hba2.block _ HW2.out) (hba2.block _ HW3.out)
      have HLc := hid (hbc.block bv HW4.out)
      have HLa := hid (hba2.block bv HW4.out)
      refine ⟨hSc, ?_⟩
      simp only [List.setIfInBounds_toArray, List.set_cons_zero, List.set_cons_succ]
      refine Exists.elim (HTail.out wc gc cc hrc hbc) (fun v' hT1 => Exists.elim hT1 (fun wb hT2 => Exists.elim hT2 (fun wu hT3 => ?_)))
      have hrun1 := hT3.1
      have hrun2 := hT3.2.1
      have HSb := hT3.2.2.1
      have HSu := hT3.2.2.2.1
      have hfu := hT3.2.2.2.2.1
      have HEnd := hT3.2.2.2.2.2
      clear hT1 hT2 hT3
      have HBc := hid hbc
      clear hrc hbc hba2
      refine any_one 13 (by kernel_rfl) ?_
      refine op_value' 40 (v := .slice (some ⟨wc.heap.size, 0, none⟩) 1 1) (w' := wc.alloc (.cells #[.slice (some ⟨gc, 0, none⟩) 512 cc] 42)) rfl (by rfl) rfl (by go_simp) ⟨hSa, ?_⟩
      simp only [List.setIfInBounds_toArray, List.set_cons_zero, List.set_cons_succ]
      refine any_one 14 (by kernel_rfl) ?_
      refine op_append' 41 (v := v) (y := .slice (some ⟨wc.heap.size, 0, none⟩) 1 1) (v' := v') (w' := wb) rfl (by rfl) rfl (.tmp 37) (.tmp 40) 71 rfl rfl rfl 71 rfl hrun1 ⟨HSb.out, ?_⟩
      simp only [List.setIfInBounds_toArray, List.set_cons_zero, List.set_cons_succ]
      refine any_one 15 (by kernel_rfl) ?_
      refine op_update' (vm := .map (some bv)) (vx := .int .i64 k) (vv := v') (w' := wu) rfl (by rfl) rfl (.tmp 30) (.tmp 31) (.tmp 41) 58 rfl rfl rfl rfl hrun2 ⟨HSu.out, ?_⟩
      refine wpAnyH_done (by kernel_rfl) ?_ _
      have hcu := HSu.out.2.1
      gi_wp2
      exact HEnd.out
    · skip
      refine op_call' 39 (f := 34) (args := #[.slice (some ⟨b, off + 512 * i.1, none⟩) 512 512]) (val := fun gc cc => .slice (some ⟨gc, 0, none⟩) 512 cc) rfl (by rfl) rfl (by go_simp) HCl.out (fun gc cc wc hr => ?_)
      have hrc := hr.1
      have hbc := hr.2
      clear hr
      have hba2 : Below W.heap.size W (wc.alloc (.cells #[.slice (some ⟨gc, 0, none⟩) 512 cc] 42)) := hbc.alloc hbc.size _
      have hSc := HSof.out wc (hbc.block _ HW1.out) (hbc.block _ HW2.out) (hbc.block _ HW3.out)
      have hSa := HSof.out (wc.alloc (.cells #[.slice (some ⟨gc, 0, none⟩) 512 cc] 42)) (hba2.block _ HW1.out) (hba2.block _ HW2.out) (hba2.block _ HW3.out)
      have HLc := hid (hbc.block bv HW4.out)
      have HLa := hid (hba2.block bv HW4.out)
      refine ⟨hSc, ?_⟩
      simp only [List.setIfInBounds_toArray, List.set_cons_zero, List.set_cons_succ]
      refine Exists.elim (HTail.out wc gc cc hrc hbc) (fun v' hT1 => Exists.elim hT1 (fun wb hT2 => Exists.elim hT2 (fun wu hT3 => ?_)))
      have hrun1 := hT3.1
      have hrun2 := hT3.2.1
      have HSb := hT3.2.2.1
      have HSu := hT3.2.2.2.1
      have hfu := hT3.2.2.2.2.1
      have HEnd := hT3.2.2.2.2.2
      clear hT1 hT2 hT3
      have HBc := hid hbc
      clear hrc hbc hba2
      refine any_two 10 13 (by kernel_rfl) ?_ ?_
      · skip
        refine op_value' 37 (v := v) (w' := wc) rfl (by rfl) rfl (by have hlk := HLook.out (wc) HLc.out; go_simp) ⟨hSc, ?_⟩
        simp only [List.setIfInBounds_toArray, List.set_cons_zero, List.set_cons_succ]
        refine any_one 13 (by kernel_rfl) ?_
        refine op_value' 40 (v := .slice (some ⟨wc.heap.size, 0, none⟩) 1 1) (w' := wc.alloc (.cells #[.slice (some ⟨gc, 0, none⟩) 512 cc] 42)) rfl (by rfl) rfl (by go_simp) ⟨hSa, ?_⟩
        simp only [List.setIfInBounds_toArray, List.set_cons_zero, List.set_cons_succ]
        refine any_one 14 (by kernel_rfl) ?_
        refine op_append' 41 (v := v) (y := .slice (some ⟨wc.heap.size, 0, none⟩) 1 1) (v' := v') (w' := wb) rfl (by rfl) rfl (.tmp 37) (.tmp 40) 71 rfl rfl rfl 71 rfl hrun1 ⟨HSb.out, ?_⟩
        simp only [List.setIfInBounds_toArray, List.set_cons_zero, List.set_cons_succ]
        refine any_one 15 (by kernel_rfl) ?_
        refine op_update' (vm := .map (some bv)) (vx := .int .i64 k) (vv := v') (w' := wu) rfl (by rfl) rfl (.tmp 30) (.tmp 31) (.tmp 41) 58 rfl rfl rfl rfl hrun2 ⟨HSu.out, ?_⟩
        refine wpAnyH_done (by kernel_rfl) ?_ _
        have hcu := HSu.out.2.1
        gi_wp2
        exact HEnd.out
      · skip
        refine op_value' 40 (v := .slice (some ⟨wc.heap.size, 0, none⟩) 1 1) (w' := wc.alloc (.cells #[.slice (some ⟨gc, 0, none⟩) 512 cc] 42)) rfl (by rfl) rfl (by go_simp) ⟨hSa, ?_⟩
        simp only [List.setIfInBounds_toArray, List.set_cons_zero, List.set_cons_succ]
        refine any_one 10 (by kernel_rfl) ?_
        refine op_value' 37 (v := v) (w' := wc.alloc (.cells #[.slice (some ⟨gc, 0, none⟩) 512 cc] 42)) rfl (by rfl) rfl (by have hlk := HLook.out (wc.alloc (.cells #[.slice (some ⟨gc, 0, none⟩) 512 cc] 42)) HLa.out; go_simp) ⟨hSa, ?_⟩
        simp only [List.setIfInBounds_toArray, List.set_cons_zero, List.set_cons_succ]
        refine any_one 14 (by kernel_rfl) ?_
        refine op_append' 41 (v := v) (y := .slice (some ⟨wc.heap.size, 0, none⟩) 1 1) (v' := v') (w' := wb) rfl (by rfl) rfl (.tmp 37) (.tmp 40) 71 rfl rfl rfl 71 rfl hrun1 ⟨HSb.out, ?_⟩
        simp only [List.setIfInBounds_toArray, List.set_cons_zero, List.set_cons_succ]
        refine any_one 15 (by kernel_rfl) ?_
        refine op_update' (vm := .map (some bv)) (vx := .int .i64 k) (vv := v') (w' := wu) rfl (by rfl) rfl (.tmp 30) (.tmp 31) (.tmp 41) 58 rfl rfl rfl rfl hrun2 ⟨HSu.out, ?_⟩
        refine wpAnyH_done (by kernel_rfl) ?_ _
        have hcu := HSu.out.2.1
        gi_wp2
        exact HEnd.out
  case done =>
    rintro D ys W hD rfl ⟨al', hDk, hal, hmods, hbd, hba, hsz⟩ hK
    rw [hsz0] at hD
    have HDk := hid hDk
    have HAl := hid hal
    have HMo := hid hmods
    clear hDk hal hmods hbd hba
    gi_wp2
    refine ⟨by simp, .inl ⟨_, _, rfl, run_takeDeferred hK, ?_⟩⟩
    have hg := grownBy_putObj' W D (.deferred none)
    have hne : ∀ g, al' g → some g ≠ some D := fun g hg' e => by
      cases e
      rcases HAl.out D hg' with h | ⟨_, c, t, f, h⟩
      · have := HD.out.lt D h; omega
      · rw [h] at hK; cases hK
    refine ⟨_, results_tmp rfl _ _ _, rfl, al', ?_, fun g hg' => (HAl.out g hg').imp id (fun h => by have := h.1; omega), HMo.out.grown hg (fun g e => by cases e; exact .inr (by omega))⟩
    have e1 : (List.finRange m).map (fun i => ls.getD i.1 []) = ls := by
      apply List.ext_getElem
      · simp [hll]
      · intro j h1 h2
        simp [List.getD, h2]
    have := HDk.out.keep hg.size (fun g hg' => hg.block g (HDk.out.lt g hg') (hne g hg'))
    rw [e1, List.length_finRange] at this
    exact this
  case stop =>
    rintro D c pre W _ _ h _
    exact h.elim
end Go.Proofs.Ytdbpjdaaggenpaa
