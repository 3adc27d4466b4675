/- The document's cache: Fill, Put. -/
import Derived.Test.YtdfnfcimajomeaaCyC
import Derived.Deep.RegionLaw
namespace Go.Proofs.Ytdfnfcimajomeaa
open Go.RowKit Go.Maps
theorem step_append_run {P : Program} {ops : Array Oper} {o : Oper} {a : Act} {w : World} {K : Act → World → Prop} {Q : Exit → Act → World → Prop} {E : Prop} (hgd : o.guard = none) (s x : Operand) (t : TypeId)
    (ho : o.op = .call { callee := .builtin .append, args := #[s, x], argTypes := #[t, t] }) {v y v' : Value} {w' : World} (hs : a.eval s = v) (hx : a.eval x = y)
    (hrun : (Builtin.append_ #[t, t] o.type #[v, y]).run P w = .ok v' w') (h : K (a.put o.dst v') w') :
    if Region.wanted o (yielded ops a.tmps) = true then Oper.wp P o a w K Q else E := by
  have hw : Region.wanted o (yielded ops a.tmps) = true := by simp [Region.wanted, hgd]
  rw [if_pos hw]
  unfold Oper.wp execOp
  simp only [ho, resolve, invoke, builtin, Sem.run_bind, Sem.run_pure, Result.andThen_ok, List.map_toArray, List.map_cons, List.map_nil, hs, hx, hrun]
  exact h
section
variable {w w' : World} {p : Nat} {S : Nat → Prop} {A : Cs} {ad : Int → Nat} {vl : Value}
/-- A new entry is put behind the row: what a region makes, in its order. -/
theorem YaAt.grow (h : YaAt w p S A ad vl) (k : Int) (hm : k ∉ nums A.row) (hl : A.row.length < A.n) (b o c : Nat) (d : List Int) (hd : d.length = 512) (hB : Byt w ⟨b, o, none⟩ d) :
    ∃ a1 c1 w2 a3 n3 c3 w4, (Builtin.append_ #[40, 40] 40 #[.slice (some ⟨w.heap.size, 0, none⟩) 0 0, .slice (some ⟨b, o, none⟩) 512 c]).run Try.prog (w.alloc (.cells #[] 5)) = .ok (.slice a1 512 c1) w2 ∧
      (Builtin.append_ #[54, 54] 54 #[vl, .slice (some ⟨w2.heap.size + 1, 0, none⟩) 1 1]).run Try.prog ((w2.alloc (.cells #[.int .i64 k, .slice a1 512 c1, .bool false, .int .i64 0] 68)).alloc (.cells #[pv w2.heap.size] 69)) = .ok (.slice a3 n3 c3) w4 ∧
      (w.alloc (.cells #[] 5)).cell? ⟨p, 1, none⟩ = some vl ∧ w2.cell? ⟨p, 1, none⟩ = some vl ∧ p < w2.heap.size ∧ w4.frozen? ⟨p, 1, none⟩ = false ∧ w4.cell? ⟨p, 1, none⟩ = some vl ∧
      ∃ S', Ya (w4.setCell ⟨p, 1, none⟩ (.slice a3 n3 c3)) p S' (A.add ⟨k, d, false, 0⟩) ∧ Kp S w S' (w4.setCell ⟨p, 1, none⟩ (.slice a3 n3 c3)) := by
  obtain ⟨a1, c1, w2, hap, ho, hb2⟩ := clone_run w b o 512 c d hd (by omega) hB
  obtain ⟨W3, hW3⟩ : ∃ W3, W3 = w2.alloc (.cells #[.int .i64 k, .slice a1 512 c1, .bool false, .int .i64 0] 68) := ⟨_, rfl⟩
  have hb3 : Below w2.heap.size w2 W3 := by rw [hW3]; exact (Below.refl _ _).alloc (Nat.le_refl _) _
  have hs3 : W3.heap.size = w2.heap.size + 1 := by rw [hW3]; simp
  have hb13 : Below w.heap.size w W3 := hb2.trans (hb3.mono hb2.size)
  have hp := h.lt p h.sp
  have hp2 := hb2.size
  have h3 := (h.below hb13).more (S2 := fun x => S x ∨ x = w2.heap.size ∨ (Value.slice a1 512 c1).ownBlock = some x) (fun x e => .inl e) (fun x hx => by
    rcases hx with e | e | e
    · exact Nat.lt_of_lt_of_le (h.lt x e) hb13.size
    · omega
    · have := (owns_lt ho e).1; omega)
  have ho3 : W3.ownsRow 0 5 1 (.slice a1 512 c1) 512 (u8s d) := owns_zero (owns_keep ho (fun g hg => hb3.block g (owns_lt ho hg).1))
  obtain ⟨a3, n3, c3, w4, hap2, f4, c4, S4, h4, hk4, _, _⟩ := h3.push (e := ⟨k, d, false, 0⟩) (b := w2.heap.size) (vd := .slice a1 512 c1) (by rw [hW3]; exact alloc_new w2 _) (.inr (.inl rfl)) ho3 (fun g hg => .inr (.inr hg)) hd hm hl
  rw [hs3, hW3] at hap2
  refine ⟨a1, c1, w2, a3, n3, c3, w4, hap, hap2, cell_later ((Below.refl _ _).alloc (Nat.le_refl _) _) h.cells.2, cell_later hb2 h.cells.2, by omega, f4, c4, S4, ⟨_, _, h4⟩, fun x hx => ?_, ?_⟩
  · rcases hk4.1 x hx with e | e
    · rcases e with e | e | e
      · exact .inl e
      · exact .inr (by omega)
      · exact .inr (owns_lt ho e).2
    · exact .inr (by have := hb13.size; omega)
  · exact (Mods.of_below hb13).trans hk4.2 (fun x e => by
      rcases e with e | e | e
      · exact .inl e
      · exact .inr (by omega)
      · exact .inr (owns_lt ho e).2)
set_option maxRecDepth 100000 in
set_option maxHeartbeats 4000000 in
theorem yFill_any (h : Ya w p S A) (k : Int) (v : Value) (d : List Int) (hv : Dat w S v d) :
    Calls Try.prog 27 #[pv p, .int .i64 k, v] w fun e w' => e = .returned (.int .i64 (fillR A k d.length)) ∧ ∃ S', Ya w' p S' (fillS A k d) ∧ Kp S w S' w' := by
  obtain ⟨a, c, rfl, hv⟩ := hv
  have HC := hid h
  obtain ⟨ad, vl, h⟩ := h
  have HR := hid (bad_any w k a d.length c)
  have HA := hid (yAt_any h k)
  unfold fillS fillR
  rcases bad_cases k d.length with ⟨hb, hk0, hd⟩ | hb | hb
  · rw [hb, hd] at HR
    rw [if_pos hb, hd]
    by_cases hm : k ∈ nums A.row
    · rw [atV_has hm] at HA
      rw [if_pos hm, if_neg (by omega)]
      clear h hm hb hv hd
      go_enter Try.func27, Try.ntmps27
      go_wp2_with (first
        | (go_at_call 44; refine HR.out.mono ?_; rintro e w1 ⟨rfl, hw1⟩; rw [hw1]; clear hw1)
        | (go_at_call 42; refine HA.out.mono ?_; rintro e w1 ⟨rfl, hw1⟩; rw [hw1]; clear hw1))
      go_ret
      exact ⟨rfl, S, HC.out, Kp.refl _ _⟩
    · rw [atV_no hm] at HA
      rw [if_neg hm]
      have HRO := hid (room_any h)
      unfold roomR at HRO
      cases hro : A.room with
      | none =>
        rw [hro, if_pos rfl] at HRO
        rw [if_pos rfl, if_neg (by omega)]
        simp only [Option.getD_none] at HRO
        clear h hm hb hv hro hd
        go_enter Try.func27, Try.ntmps27
        go_wp2_with (first
          | (go_at_call 44; refine HR.out.mono ?_; rintro e w1 ⟨rfl, hw1⟩; rw [hw1]; clear hw1)
          | (go_at_call 42; refine HA.out.mono ?_; rintro e w1 ⟨rfl, hw1⟩; rw [hw1]; clear hw1)
          | (go_at_call 45; refine HRO.out.mono ?_; rintro e w1 ⟨rfl, vl1, S1, h1, hk1, _⟩; have H1 := hid h1; have HK1 := hid hk1; clear h1 hk1))
        go_ret
        exact ⟨rfl, S1, ⟨_, _, H1.out⟩, HK1.out⟩
      | some A1 =>
        rw [hro, if_neg (by simp)] at HRO
        rw [if_neg (by simp), if_pos rfl]
        simp only [Option.getD_some] at HRO ⊢
        obtain ⟨b, o, rfl, hB, hS, hbl⟩ := hv hd
        have hnm := room_not hro hm
        have hln := room_len hro h.nd h.len
        rw [← (room_sub hro).2] at hln
        have HGR : Hid (∀ w1 S1 vl1, YaAt w1 p S1 A1 ad vl1 → Kp S w S1 w1 → ∃ a1 c1 w2 a3 n3 c3 w4, (Builtin.append_ #[40, 40] 40 #[.slice (some ⟨w1.heap.size, 0, none⟩) 0 0, .slice (some ⟨b, o, none⟩) 512 c]).run Try.prog (w1.alloc (.cells #[] 5)).drew = .ok (.slice a1 512 c1) w2 ∧
            (Builtin.append_ #[54, 54] 54 #[vl1, .slice (some ⟨w2.heap.size + 1, 0, none⟩) 1 1]).run Try.prog ((w2.alloc (.cells #[.int .i64 k, .slice a1 512 c1, .bool false, .int .i64 0] 68)).alloc (.cells #[pv w2.heap.size] 69)) = .ok (.slice a3 n3 c3) w4 ∧
            w1.cell? ⟨p, 1, none⟩ = some vl1 ∧ (w1.alloc (.cells #[] 5)).cell? ⟨p, 1, none⟩ = some vl1 ∧ w2.cell? ⟨p, 1, none⟩ = some vl1 ∧ p < w1.heap.size ∧ p < w2.heap.size ∧ w4.frozen? ⟨p, 1, none⟩ = false ∧ w4.cell? ⟨p, 1, none⟩ = some vl1 ∧
            ∃ S', Ya (w4.setCell ⟨p, 1, none⟩ (.slice a3 n3 c3)) p S' (A1.add ⟨k, d, false, 0⟩) ∧ Kp S w S' (w4.setCell ⟨p, 1, none⟩ (.slice a3 n3 c3))) := hid (fun w1 S1 vl1 h1 hk1 => by
          have hbd : Below w1.heap.size w1 w1.drew := (Below.refl _ _).drew
          obtain ⟨a1, c1, w2, a3, n3, c3, w4, q1, q2, q3, q4, q5, q6, q7, S', q8, q9⟩ := (h1.below hbd).grow k hnm hln b o c d hd (hB.keep (hk1.block hbl hS))
          exact ⟨a1, c1, w2, a3, n3, c3, w4, q1, q2, h1.cells.2, q3, q4, h1.lt p h1.sp, q5, q6, q7, S', q8, hk1.trans ((Kp.below hbd).trans q9)⟩)
        clear h hm hb hv hro hd hB hS hbl hnm hln
        go_enter Try.func27, Try.ntmps27
        go_wp2_with (first
          | (go_at_call 44; refine HR.out.mono ?_; rintro e w1 ⟨rfl, hw1⟩; rw [hw1]; clear hw1)
          | (go_at_call 42; refine HA.out.mono ?_; rintro e w1 ⟨rfl, hw1⟩; rw [hw1]; clear hw1))
        refine HRO.out.mono ?_
        rintro e w1 ⟨rfl, vl1, S1, h1, hk1, _⟩
        obtain ⟨a1, c1, w2, a3, n3, c3, w4, hap1, hap2, d1, d2, d3, l1, l2, f4, d4, hS⟩ := HGR.out w1 S1 vl1 h1 hk1
        obtain ⟨a4, c4, e4⟩ := h1.slice
        subst e4
        have HS := hid hS
        clear h1 hk1 hS HGR HRO
        generalize A1.row.length = ln1 at *
        go_wp2_with fail
        go_region_law (first | (refine step_append_run rfl _ _ 40 rfl rfl rfl hap1 ?_) | (refine step_append_run rfl _ _ 54 rfl rfl rfl hap2 ?_))
        all_goals
          go_wp2_with fail
          go_ret
          exact ⟨rfl, HS.out⟩
  · rw [hb] at HR
    rw [hb, if_neg (by omega), if_neg (by omega)]
    clear h hb hv HA
    generalize d.length = ln at *
    go_enter Try.func27, Try.ntmps27
    go_wp2_with (go_at_call 44; refine HR.out.mono ?_; rintro e w1 ⟨rfl, hw1⟩; rw [hw1]; clear hw1)
    go_ret
    exact ⟨rfl, S, HC.out, Kp.refl _ _⟩
  · rw [hb] at HR
    rw [hb, if_neg (by omega), if_neg (by omega)]
    clear h hb hv HA
    generalize d.length = ln at *
    go_enter Try.func27, Try.ntmps27
    go_wp2_with (go_at_call 44; refine HR.out.mono ?_; rintro e w1 ⟨rfl, hw1⟩; rw [hw1]; clear hw1)
    go_ret
    exact ⟨rfl, S, HC.out, Kp.refl _ _⟩
theorem chg_at {A : Cs} {k : Int} (hn : (nums A.row).Nodup) (hk : k ∈ nums A.row) (f : Ec → Ec) (hf : ∀ e, (f e).num = e.num) : (A.chg k f).at k = f (A.at k) ∧ wo (A.chg k f).row k = wo A.row k := by
  obtain ⟨h1, h2⟩ := atL_mem hk
  constructor
  · have hm : f (A.at k) ∈ (A.chg k f).row := by
      unfold Cs.chg
      refine List.mem_map.2 ⟨A.at k, h1, ?_⟩
      rw [if_pos (show (A.at k).num = k from h2)]
    have hn2 : (nums (A.chg k f).row).Nodup := by rw [nums_chg A k f hf]; exact hn
    have := atL_of hn2 hm
    rw [hf, show (A.at k).num = k from h2] at this
    exact this
  · unfold Cs.chg wo
    simp only
    rw [List.filter_map]
    have : (List.filter ((fun e : Ec => decide (e.num ≠ k)) ∘ fun e => if e.num = k then f e else e) A.row) = A.row.filter (fun e => decide (e.num ≠ k)) := by
      apply List.filter_congr
      intro e _
      simp only [Function.comp]
      split
      · rename_i e1; rw [hf e]
      · rfl
    rw [this]
    rw [List.map_congr_left (g := id)]
    · simp
    · intro e he
      have := (List.mem_filter.1 he).2
      rw [if_neg (by simpa using this)]
      rfl
/-- An entry has other bytes. -/
theorem YaAt.toDat (h : YaAt w p S A ad vl) {k : Int} (hk : k ∈ nums A.row) {d : List Int} (hd : d.length = 512) {vd : Value} (hb : w'.heap[ad k]? = some (.cells (yC { A.at k with dat := d, dirty := true } vd) 68 (0, 0))) (hm : Mods (fun b => b = ad k) w w') (ho : w'.ownsRow w.heap.size 5 1 vd 512 (u8s d)) :
    ∃ S', YaAt w' p S' (A.chg k fun e => { e with dat := d, dirty := true }) ad vl ∧ Kp S w S' w' := by
  obtain ⟨hmem, hnum⟩ := atL_mem hk
  have hpk : ad k ≠ p := by have := h.e_ne_p hmem; rwa [hnum] at this
  have hf1 : ∀ e : Ec, ({ e with dat := d, dirty := true } : Ec).num = e.num := fun _ => rfl
  have hptr : ptrs ad (A.chg k fun e => { e with dat := d, dirty := true }).row = ptrs ad A.row := by
    unfold Cs.chg ptrs
    rw [List.map_map]
    apply List.map_congr_left
    intro e _
    simp only [Function.comp]
    split <;> rfl
  have hlen : (A.chg k fun e => { e with dat := d, dirty := true }).row.length = A.row.length := by unfold Cs.chg; simp
  obtain ⟨vk, gk1, gk2, _⟩ := h.ent _ hmem
  rw [hnum] at gk1 gk2
  refine ⟨fun x => S x ∨ vd.ownBlock = some x, ⟨fun b hb2 => ?_, (hm.block p (h.lt p h.sp) (fun e => hpk e.symm)).trans h.box, .inl h.sp, ?_, fun g hg => .inl (h.sr g hg), fun e he => ?_, by rw [nums_chg A k _ hf1]; exact h.nd, h.hn, by rw [hlen]; exact h.len⟩, fun x e => ?_, hm.weak (fun b e => .inl (by rw [e]; exact gk2))⟩
  · rcases hb2 with e | e
    · exact Nat.lt_of_lt_of_le (h.lt b e) hm.size
    · exact (owns_lt ho e).1
  · rw [hptr, hlen]
    exact owns_keep h.row (fun g hg => hm.block g (owns_lt h.row hg).1 (fun e => by
      have := h.e_ne_r hmem hg
      rw [hnum] at this
      exact this e.symm))
  · unfold Cs.chg at he
    obtain ⟨x, hx, rfl⟩ := List.mem_map.1 he
    obtain ⟨vx, g1, g2, g3, g4, g5⟩ := h.ent x hx
    by_cases e : x.num = k
    · rw [if_pos e]
      have hxe : x = A.at k := by rw [← e]; exact (atL_of h.nd hx).symm
      refine ⟨vd, ?_, .inl g2, owns_zero ho, fun g hg => .inr hg, hd⟩
      show w'.heap[ad x.num]? = _
      rw [e, hxe]
      exact hb
    · rw [if_neg e]
      refine ⟨vx, (hm.block _ (h.lt _ g2) (fun e2 => ?_)).trans g1, .inl g2, owns_keep g3 (fun g hg => hm.block g (owns_lt g3 hg).1 (fun e2 => by
        obtain ⟨cu, hkk⟩ := owns_kind g3 hg
        rw [e2, gk1] at hkk
        simp at hkk)), fun g hg => .inl (g4 g hg), g5⟩
      have := h.inj hx hmem (by rw [e2]; exact congrArg ad hnum.symm)
      rw [hnum] at this
      exact e this
  · rcases e with e | e
    · exact .inl e
    · exact .inr (owns_lt ho e).2
set_option maxRecDepth 100000 in
set_option maxHeartbeats 4000000 in
theorem yPut_any (h : Ya w p S A) (k : Int) (v : Value) (d : List Int) (hv : Dat w S v d) :
    Calls Try.prog 28 #[pv p, .int .i64 k, v] w fun e w' => e = .returned (.int .i64 (putR A k d.length)) ∧ ∃ S', Ya w' p S' (putS A k d) ∧ Kp S w S' w' := by
  obtain ⟨a, c, rfl, hv⟩ := hv
  have HC := hid h
  obtain ⟨ad, vl, h⟩ := h
  have HR := hid (bad_any w k a d.length c)
  have HA := hid (yAt_any h k)
  unfold putS putR
  rcases bad_cases k d.length with ⟨hb, hk0, hd⟩ | hb | hb
  · rw [hb, hd] at HR
    rw [if_pos hb, hd]
    obtain ⟨b, o, rfl, hB, hS, hbl⟩ := hv hd
    by_cases hm : k ∈ nums A.row
    · rw [atV_has hm] at HA
      rw [if_pos hm, if_pos rfl, if_pos hm]
      obtain ⟨hmem, hnum⟩ := atL_mem hm
      obtain ⟨vk, gk1, gk2, _⟩ := h.ent _ hmem
      rw [hnum] at gk1 gk2
      obtain ⟨a1, c1, w2, hap, ho, hb2⟩ := clone_run w b o 512 c d hd (by omega) hB
      have g2 : w2.heap[ad k]? = some (.cells (yC (A.at k) vk) 68 (0, 0)) := (hb2.block _ (h.lt _ gk2)).trans gk1
      obtain ⟨W3, hW3⟩ : ∃ W3, W3 = w2.setCell ⟨ad k, 1, none⟩ (.slice a1 512 c1) := ⟨_, rfl⟩
      have g3 : W3.heap[ad k]? = some (.cells (yC { A.at k with dat := d } (.slice a1 512 c1)) 68 (0, 0)) := by rw [hW3]; exact setc g2 1 _
      obtain ⟨W4, hW4⟩ : ∃ W4, W4 = W3.setCell ⟨ad k, 2, none⟩ (.bool true) := ⟨_, rfl⟩
      have g4 : W4.heap[ad k]? = some (.cells (yC { A.at k with dat := d, dirty := true } (.slice a1 512 c1)) 68 (0, 0)) := by rw [hW4]; exact setc g3 2 _
      have hm4 : Mods (fun x => x = ad k) w W4 := by rw [hW4, hW3]; exact (((Mods.of_below (al := fun x => x = ad k) hb2).setCell _ _ _ rfl).setCell _ _ _ rfl)
      have hm24 : Mods (fun x => x = ad k) w2 W4 := by rw [hW4, hW3]; exact (((Mods.refl (fun x => x = ad k) w2).setCell _ _ _ rfl).setCell _ _ _ rfl)
      have ho4 : W4.ownsRow w.heap.size 5 1 (.slice a1 512 c1) 512 (u8s d) := owns_keep ho (fun g hg => hm24.block g (owns_lt ho hg).1 (fun e => by
        have := (owns_lt ho hg).2
        have := h.lt _ gk2
        omega))
      obtain ⟨S4, h4, hk4⟩ := h.toDat hm hd g4 hm4 ho4
      have hca := chg_at h.nd hm (fun e : Ec => { e with dat := d, dirty := true }) (fun _ => rfl)
      have HU := hid (yuse_has h4 (k := k) (by rw [nums_chg A k (fun e => { e with dat := d, dirty := true }) (fun _ => rfl)]; exact hm))
      have hus : (A.chg k fun e => { e with dat := d, dirty := true }).use k = { A with row := wo A.row k ++ [{ A.at k with dat := d, dirty := true }] } := by
        unfold Cs.use
        rw [hca.1, hca.2]
        rfl
      rw [hus] at HU
      have HK4 := hid hk4
      obtain ⟨x1, hx1⟩ : ∃ x1, w2.cell? ⟨ad k, 1, none⟩ = some x1 ∧ ∃ a n c, x1 = .slice a n c := by
        obtain ⟨vd', q1, _, q3, _⟩ := h.ent _ hmem
        rw [hnum, gk1] at q1
        have e1 : vk = vd' := by simp [yC] at q1; exact q1
        obtain ⟨a9, c9, e9⟩ := owns_slice q3
        exact ⟨vk, cell_of g2 rfl, _, _, _, e1.trans e9⟩
      obtain ⟨cx1, a9, n9, c9, e9⟩ := hx1
      subst e9
      have fx1 : w2.frozen? ⟨ad k, 1, none⟩ = false := froz_of g2 1
      have cx2 : W3.cell? ⟨ad k, 2, none⟩ = some (.bool (A.at k).dirty) := cell_of g3 rfl
      have fx2 : W3.frozen? ⟨ad k, 2, none⟩ = false := froz_of g3 2
      have cx3 : w2.cell? ⟨ad k, 2, none⟩ = some (.bool (A.at k).dirty) := cell_of g2 rfl
      have fx3 : w2.frozen? ⟨ad k, 2, none⟩ = false := froz_of g2 2
      clear h hm hb hv hB hS hbl hd hmem hnum gk1 gk2 ho hb2 g2 g3 g4 hm4 hm24 ho4 h4 hk4 hca hus
      subst hW4 hW3
      generalize ({ A with row := wo A.row k ++ [{ A.at k with dat := d, dirty := true }] } : Cs) = AF at *
      generalize (A.at k).dirty = dd at *
      go_enter Try.func28, Try.ntmps28
      go_wp2_with (first
        | (go_at_call 44; refine HR.out.mono ?_; rintro e w1 ⟨rfl, hw1⟩; rw [hw1]; clear hw1)
        | (go_at_call 42; refine HA.out.mono ?_; rintro e w1 ⟨rfl, hw1⟩; rw [hw1]; clear hw1)
        | (at_builtin; refine wpList_append_run rfl _ _ 40 rfl rfl rfl hap ?_)
        | (go_at_call 43; refine HU.out.mono ?_; rintro e w6 ⟨rfl, S6, vd6, h6, hk6, _, _⟩; have H6 := hid h6; have HK6 := hid (HK4.out.trans hk6); clear h6 hk6))
      go_ret
      exact ⟨rfl, S6, H6.out, HK6.out⟩
    · rw [atV_no hm] at HA
      rw [if_neg hm]
      have HRO := hid (room_any h)
      unfold roomR at HRO
      cases hro : A.room with
      | none =>
        rw [hro, if_pos rfl] at HRO
        rw [if_pos rfl, if_neg (by omega)]
        simp only [Option.getD_none] at HRO
        clear h hm hb hv hro hd hB hS hbl
        go_enter Try.func28, Try.ntmps28
        go_wp2_with (first
          | (go_at_call 44; refine HR.out.mono ?_; rintro e w1 ⟨rfl, hw1⟩; rw [hw1]; clear hw1)
          | (go_at_call 42; refine HA.out.mono ?_; rintro e w1 ⟨rfl, hw1⟩; rw [hw1]; clear hw1)
          | (go_at_call 45; refine HRO.out.mono ?_; rintro e w1 ⟨rfl, vl1, S1, h1, hk1, _⟩; have H1 := hid h1; have HK1 := hid hk1; clear h1 hk1))
        go_ret
        exact ⟨rfl, S1, ⟨_, _, H1.out⟩, HK1.out⟩
      | some A1 =>
        rw [hro, if_neg (by simp)] at HRO
        rw [if_neg (by simp), if_pos rfl, if_neg hm]
        simp only [Option.getD_some] at HRO ⊢
        have hnm := room_not hro hm
        have hln := room_len hro h.nd h.len
        rw [← (room_sub hro).2] at hln
        have HGR : Hid (∀ w1 S1 vl1, YaAt w1 p S1 A1 ad vl1 → Kp S w S1 w1 → ∃ a1 c1 w2, (Builtin.append_ #[40, 40] 40 #[.slice (some ⟨w1.heap.size + 1, 0, none⟩) 0 0, .slice (some ⟨b, o, none⟩) 512 c]).run Try.prog ((w1.alloc (.cells #[.int .i64 k, .slice none 0 0, .bool false, .int .i64 0] 68)).alloc (.cells #[] 5)) = .ok (.slice a1 512 c1) w2 ∧
            w2.cell? ⟨w1.heap.size, 1, none⟩ = some (.slice none 0 0) ∧ w2.frozen? ⟨w1.heap.size, 1, none⟩ = false ∧ (w2.setCell ⟨w1.heap.size, 1, none⟩ (.slice a1 512 c1)).cell? ⟨w1.heap.size, 2, none⟩ = some (.bool false) ∧ (w2.setCell ⟨w1.heap.size, 1, none⟩ (.slice a1 512 c1)).frozen? ⟨w1.heap.size, 2, none⟩ = false ∧
            Calls Try.prog 43 #[pv p, pv w1.heap.size] ((w2.setCell ⟨w1.heap.size, 1, none⟩ (.slice a1 512 c1)).setCell ⟨w1.heap.size, 2, none⟩ (.bool true)) fun r w' => r = .returned undef ∧ ∃ S', Ya w' p S' (A1.add ⟨k, d, true, 0⟩) ∧ Kp S w S' w') := hid (fun w1 S1 vl1 h1 hk1 => by
          obtain ⟨W2, hW2⟩ : ∃ W2, W2 = w1.alloc (.cells #[.int .i64 k, .slice none 0 0, .bool false, .int .i64 0] 68) := ⟨_, rfl⟩
          have hb2 : Below w1.heap.size w1 W2 := by rw [hW2]; exact (Below.refl _ _).alloc (Nat.le_refl _) _
          have hs2 : W2.heap.size = w1.heap.size + 1 := by rw [hW2]; simp
          obtain ⟨a1, c1, w3, hap, ho, hb3⟩ := clone_run W2 b o 512 c d hd (by omega) ((hB.keep (hk1.block hbl hS)).keep (hb2.block b (Nat.lt_of_lt_of_le hbl hk1.2.size)))
          have g2 : W2.heap[w1.heap.size]? = some (.cells (yC ⟨k, d, false, 0⟩ (.slice none 0 0)) 68 (0, 0)) := by rw [hW2]; exact alloc_new w1 _
          have g3 : w3.heap[w1.heap.size]? = some (.cells (yC ⟨k, d, false, 0⟩ (.slice none 0 0)) 68 (0, 0)) := (hb3.block _ (by omega)).trans g2
          have g4 := setc g3 1 (.slice a1 512 c1)
          have g5 : ((w3.setCell ⟨w1.heap.size, 1, none⟩ (.slice a1 512 c1)).setCell ⟨w1.heap.size, 2, none⟩ (.bool true)).heap[w1.heap.size]? = some (.cells (yC ⟨k, d, true, 0⟩ (.slice a1 512 c1)) 68 (0, 0)) := setc g4 2 (.bool true)
          obtain ⟨W5, hW5⟩ : ∃ W5, W5 = ((w3.setCell ⟨w1.heap.size, 1, none⟩ (.slice a1 512 c1)).setCell ⟨w1.heap.size, 2, none⟩ (.bool true)) := ⟨_, rfl⟩
          have hb13 : Below w1.heap.size w1 w3 := hb2.trans (hb3.mono hb2.size)
          have hm35 : Mods (fun x => x = w1.heap.size) w3 W5 := by rw [hW5]; exact (((Mods.refl (fun x => x = w1.heap.size) w3).setCell _ _ _ rfl).setCell _ _ _ rfl)
          have hb15 : Below w1.heap.size w1 W5 := hm35.to_below hb13 hb13.size (fun x e => by omega)
          have ho5 : W5.ownsRow 0 5 1 (.slice a1 512 c1) 512 (u8s d) := owns_zero (owns_keep ho (fun g hg => hm35.block g (owns_lt ho hg).1 (fun e => by have := (owns_lt ho hg).2; omega)))
          rw [← hW5] at g5
          have h5 := (h1.below hb15).more (S2 := fun x => S1 x ∨ x = w1.heap.size ∨ (Value.slice a1 512 c1).ownBlock = some x) (fun x e => .inl e) (fun x hx => by
            rcases hx with e | e | e
            · exact Nat.lt_of_lt_of_le (h1.lt x e) hb15.size
            · rw [e]; exact (Array.getElem?_eq_some_iff.1 g5).1
            · exact (owns_lt ho5 e).1)
          have hK5 : Kp S1 w1 (fun x => S1 x ∨ x = w1.heap.size ∨ (Value.slice a1 512 c1).ownBlock = some x) W5 := ⟨fun x hx => by
            rcases hx with e | e | e
            · exact .inl e
            · exact .inr (by omega)
            · exact .inr (by have := (owns_lt ho e).2; omega), Mods.of_below hb15⟩
          have hwo : wob ad A1.row w1.heap.size = A1.row := h1.wob_no (fun e => by have := h1.lt _ e; omega)
          have HU := yuse_any h5 (e := ⟨k, d, true, 0⟩) g5 (.inr (.inl rfl)) ho5 (fun g hg => .inr (.inr hg)) hd (fun x hx _ e => hnm (List.mem_map.2 ⟨x, hx, e⟩)) (by rw [hwo]; exact hln)
          rw [hwo] at HU
          rw [hs2, hW2] at hap
          refine ⟨a1, c1, w3, hap, cell_of g3 rfl, froz_of g3 1, cell_of g4 rfl, froz_of g4 2, ?_⟩
          rw [← hW5]
          refine HU.mono ?_
          rintro r w' ⟨rfl, S', q1, q2, _, _⟩
          exact ⟨rfl, S', q1, hk1.trans (hK5.trans q2)⟩)
        clear h hm hb hv hro hd hB hS hbl hnm hln
        go_enter Try.func28, Try.ntmps28
        go_wp2_with (first
          | (go_at_call 44; refine HR.out.mono ?_; rintro e w1 ⟨rfl, hw1⟩; rw [hw1]; clear hw1)
          | (go_at_call 42; refine HA.out.mono ?_; rintro e w1 ⟨rfl, hw1⟩; rw [hw1]; clear hw1)
          | (go_at_call 45; refine HRO.out.mono ?_; rintro e w1 ⟨rfl, vl1, S1, h1, hk1, _⟩; obtain ⟨a1, c1, w2, hap, d1, f1, d2, f2, hU⟩ := HGR.out w1 S1 vl1 h1 hk1; have HU := hid hU; clear h1 hk1 hU HGR)
          | (at_builtin; refine wpList_append_run rfl _ _ 40 rfl rfl rfl hap ?_)
          | (go_at_call 43; refine HU.out.mono ?_; rintro e w6 ⟨rfl, hS6⟩; have HS6 := hid hS6; clear hS6))
        go_ret
        exact ⟨rfl, HS6.out⟩
  · rw [hb] at HR
    rw [hb, if_neg (by omega), if_neg (by omega)]
    clear h hb hv HA
    generalize d.length = ln at *
    go_enter Try.func28, Try.ntmps28
    go_wp2_with (go_at_call 44; refine HR.out.mono ?_; rintro e w1 ⟨rfl, hw1⟩; rw [hw1]; clear hw1)
    go_ret
    exact ⟨rfl, S, HC.out, Kp.refl _ _⟩
  · rw [hb] at HR
    rw [hb, if_neg (by omega), if_neg (by omega)]
    clear h hb hv HA
    generalize d.length = ln at *
    go_enter Try.func28, Try.ntmps28
    go_wp2_with (go_at_call 44; refine HR.out.mono ?_; rintro e w1 ⟨rfl, hw1⟩; rw [hw1]; clear hw1)
    go_ret
    exact ⟨rfl, S, HC.out, Kp.refl _ _⟩
end
end Go.Proofs.Ytdfnfcimajomeaa
