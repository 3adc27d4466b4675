/- The document's cache: use, Get, room. -/
import Derived.Test.YtdfnfcimajomeaaCyA
namespace Go.Proofs.Ytdfnfcimajomeaa
open Go.RowKit Go.Maps

/-- 'append([]byte{}, x...)'. -/
theorem clone_run (w : World) (b o n c : Nat) (l : List Int) (hn : l.length = n) (hl : n ≤ 1000000) (hB : Byt w ⟨b, o, none⟩ l) :
    ∃ a' c' w2, (Builtin.append_ #[40, 40] 40 #[.slice (some ⟨w.heap.size, 0, none⟩) 0 0, .slice (some ⟨b, o, none⟩) n c]).run Try.prog (w.alloc (.cells #[] 5)) = .ok (.slice a' n c') w2 ∧ w2.ownsRow w.heap.size 5 1 (.slice a' n c') n (u8s l) ∧ Below w.heap.size w w2 := by
  have hb1 : Below w.heap.size w (w.alloc (.cells #[] 5)) := (Below.refl _ _).alloc (Nat.le_refl _) _
  have hr1 : (w.alloc (.cells #[] 5)).ownsRow 0 5 1 (.slice (some ⟨w.heap.size, 0, none⟩) 0 0) 0 [] := owns_of_block (cur := #[]) (alloc_new w _) (by omega) (by unfold maxLen; omega) rfl (fun j hj => by omega) rfl
  have hB1 : Byt (w.alloc (.cells #[] 5)) ⟨b, o, none⟩ l := fun j v hj => by
    have := hB j v hj
    rw [add_addr] at this ⊢
    exact cell_later hb1 this
  obtain ⟨v', w2, hap, ho, hm, hob⟩ := app_gen (w.alloc (.cells #[] 5)) 40 40 5 _ 1 Try.underlying40 info5b rfl (by omega) _ [] 0 rfl hr1 ⟨b, o, none⟩ n c (u8s l) (by simp [hn]) hB1 (u8s_one l) (by omega)
  have hs1 : (w.alloc (.cells #[] 5)).heap.size = w.heap.size + 1 := by simp
  rw [Nat.zero_add] at ho
  obtain ⟨a', c', rfl⟩ := owns_slice ho
  refine ⟨a', c', w2, hap, owns_base ho (fun g hg => ?_), hm.to_below hb1 hb1.size (fun g hg => by simp [Value.ownBlock] at hg; omega)⟩
  rcases hob with e | e
  · rw [e] at hg; simp [Value.ownBlock] at hg; omega
  · rw [e] at hg; simp at hg; omega
/-- The bytes behind a row. -/
theorem row_byt {w : World} {vd : Value} {l : List Int} (h : w.ownsRow 0 5 1 vd 512 (u8s l)) : ∃ g c, vd = .slice (some ⟨g, 0, none⟩) 512 c ∧ Byt w ⟨g, 0, none⟩ l := by
  obtain ⟨g, c, e, _, _, _, _, hc, _⟩ := owns_cells h (by omega)
  exact ⟨g, c, e, fun j v hj => by rw [add_addr, Nat.zero_add]; exact hc j v hj⟩
section
variable {w w' : World} {p : Nat} {S : Nat → Prop} {A : Cs} {ad : Int → Nat} {vl : Value}
theorem YaAt.more (h : YaAt w p S A ad vl) {S2 : Nat → Prop} (hs : ∀ b, S b → S2 b) (hl : ∀ b, S2 b → b < w.heap.size) : YaAt w p S2 A ad vl :=
  ⟨hl, h.box, hs p h.sp, h.row, fun g hg => hs g (h.sr g hg), fun e he => by
    obtain ⟨vd, h1, h2, h3, h4, h5⟩ := h.ent e he
    exact ⟨vd, h1, hs _ h2, h3, fun g hg => hs g (h4 g hg), h5⟩, h.nd, h.hn, h.len⟩
/-- An entry is put behind the row. -/
theorem YaAt.push (h : YaAt w p S A ad vl) {e : Ec} {b : Nat} {vd : Value} (hb : w.heap[b]? = some (.cells (yC e vd) 68 (0, 0))) (hSb : S b) (hvd : w.ownsRow 0 5 1 vd 512 (u8s e.dat)) (hSd : ∀ g, vd.ownBlock = some g → S g) (hdl : e.dat.length = 512) (hm : e.num ∉ nums A.row) (hl : A.row.length < A.n) :
    ∃ a' n' c' w3, (Builtin.append_ #[54, 54] 54 #[vl, .slice (some ⟨w.heap.size, 0, none⟩) 1 1]).run Try.prog (w.alloc (.cells #[pv b] 69)) = .ok (.slice a' n' c') w3 ∧ w3.frozen? ⟨p, 1, none⟩ = false ∧ w3.cell? ⟨p, 1, none⟩ = some vl ∧
      ∃ S', YaAt (w3.setCell ⟨p, 1, none⟩ (.slice a' n' c')) p S' (A.add e) (upd ad e.num b) (.slice a' n' c') ∧ Kp S w S' (w3.setCell ⟨p, 1, none⟩ (.slice a' n' c')) ∧ (w3.setCell ⟨p, 1, none⟩ (.slice a' n' c')).heap[b]? = w.heap[b]? ∧ (w3.setCell ⟨p, 1, none⟩ (.slice a' n' c')).ownsRow 0 5 1 vd 512 (u8s e.dat) := by
  have hb1 : Below w.heap.size w (w.alloc (.cells #[pv b] 69)) := (Below.refl _ _).alloc (Nat.le_refl _) _
  have hs1 : (w.alloc (.cells #[pv b] 69)).heap.size = w.heap.size + 1 := by simp
  have hr1 := owns_keep h.row (w' := w.alloc (.cells #[pv b] 69)) (fun g hg => hb1.block g (owns_lt h.row hg).1)
  have hlen : A.row.length ≤ 1024 := Nat.le_trans h.len h.hn
  obtain ⟨v', w3, hap, ho, hm3, hob⟩ := app_gen (w.alloc (.cells #[pv b] 69)) 54 54 69 _ 8 Try.underlying54 infoPYb rfl (by omega) vl (ptrs ad A.row) A.row.length (ptrs_len _ _) hr1 ⟨w.heap.size, 0, none⟩ 1 1 [pv b] rfl (cell_one_new w _ _) (by simp [Value.oneCell']) (by omega)
  obtain ⟨a', c', e'⟩ := owns_slice ho
  subst e'
  have hm13 : Mods (fun x => vl.ownBlock = some x) w w3 := (Mods.of_below hb1).tr hm3
  have hp := h.lt p h.sp
  have hbox3 : w3.heap[p]? = some (.cells #[.int .i64 A.n, vl] 56 (0, 0)) := (hm13.block p hp (fun e => h.p_ne_r e rfl)).trans h.box
  refine ⟨a', A.row.length + 1, c', w3, hap, froz_of hbox3 1, cell_of hbox3 rfl, ?_⟩
  have hset : Mods (fun x => x = p) w3 (w3.setCell ⟨p, 1, none⟩ (.slice a' (A.row.length + 1) c')) := (Mods.refl (fun x => x = p) w3).setCell p 1 _ rfl
  have hm14 : Mods (fun x => x = p ∨ vl.ownBlock = some x) w (w3.setCell ⟨p, 1, none⟩ (.slice a' (A.row.length + 1) c')) := (hm13.weak (fun x e => .inl (.inr e))).tr (hset.weak (fun x e => .inl (.inl e)))
  have hob' : ∀ x, (Value.slice a' (A.row.length + 1) c').ownBlock = some x → vl.ownBlock = some x ∨ w.heap.size < x := fun x hx => by
    rcases hob with e | e
    · exact .inl (by rw [← e]; exact hx)
    · rw [e] at hx; simp at hx; exact .inr (by omega)
  have hvp : (Value.slice a' (A.row.length + 1) c').ownBlock ≠ some p := fun e => by
    rcases hob' p e with e | e
    · exact h.p_ne_r e rfl
    · omega
  have hPS : ∀ x, (x = p ∨ vl.ownBlock = some x) → S x := fun x e => by
    rcases e with rfl | e
    · exact h.sp
    · exact h.sr x e
  have had : ∀ x ∈ A.row, upd ad e.num b x.num = ad x.num := fun x hx => upd_other _ _ (fun e2 => hm (List.mem_map.2 ⟨x, hx, e2⟩))
  -- a block of another kind is not touched
  have hcell : ∀ {g : Nat} {cu : Array Value} {t : TypeId}, w.heap[g]? = some (.cells cu t (0, 0)) → t ≠ 56 → t ≠ 69 → (w3.setCell ⟨p, 1, none⟩ (.slice a' (A.row.length + 1) c')).heap[g]? = w.heap[g]? := fun {g cu t} hg h1 h2 => hm14.block g (Array.getElem?_eq_some_iff.1 hg).1 (fun e2 => by
    rcases e2 with e3 | e3
    · rw [e3, h.box] at hg; simp at hg; exact h1 hg.2.symm
    · obtain ⟨cu', hk⟩ := owns_kind h.row e3
      rw [hk] at hg
      simp at hg
      exact h2 hg.2.symm)
  have hent : ∀ {x : Ec} {bb : Nat} {vd : Value}, w.heap[bb]? = some (.cells (yC x vd) 68 (0, 0)) → w.ownsRow 0 5 1 vd 512 (u8s x.dat) → (w3.setCell ⟨p, 1, none⟩ (.slice a' (A.row.length + 1) c')).heap[bb]? = some (.cells (yC x vd) 68 (0, 0)) ∧ (w3.setCell ⟨p, 1, none⟩ (.slice a' (A.row.length + 1) c')).ownsRow 0 5 1 vd 512 (u8s x.dat) := fun {x bb vd} h1 h3 => ⟨(hcell h1 (by decide) (by decide)).trans h1, owns_keep h3 (fun g hg => by
    obtain ⟨cu, hk⟩ := owns_kind h3 hg
    exact hcell hk (by decide) (by decide))⟩
  refine ⟨fun x => S x ∨ (Value.slice a' (A.row.length + 1) c').ownBlock = some x, ⟨fun x hx => ?_, setc hbox3 1 _, .inl h.sp, ?_, fun g hg => .inr hg, fun x hx => ?_, ?_, h.hn, ?_⟩, ⟨fun x hx => ?_, hm14.weak (fun x e => .inl (hPS x e))⟩, (hent hb hvd).1.trans hb.symm, (hent hb hvd).2⟩
  · rcases hx with e | e
    · exact Nat.lt_of_lt_of_le (h.lt x e) hm14.size
    · exact Nat.lt_of_lt_of_le (owns_lt ho e).1 hset.size
  · have e1 : (A.add e).row.length = A.row.length + 1 := by unfold Cs.add; simp
    have e2 : ptrs (upd ad e.num b) (A.add e).row = ptrs ad A.row ++ [pv b] := by
      have e3 : ptrs (upd ad e.num b) A.row = ptrs ad A.row := List.map_congr_left (fun x hx => by rw [had x hx])
      have e4 : ptrs (upd ad e.num b) [e] = [pv (upd ad e.num b e.num)] := rfl
      unfold Cs.add
      rw [ptrs_app, e3, e4, upd_same]
    rw [e1, e2]
    exact owns_keep ho (fun x hx => hset.block x (owns_lt ho hx).1 (fun e => hvp (by rw [← e]; exact hx)))
  · unfold Cs.add at hx
    rcases List.mem_append.1 hx with h4 | h4
    · obtain ⟨vd', g1, g2, g3, g4, g5⟩ := h.ent x h4
      rw [had x h4]
      exact ⟨vd', (hent g1 g3).1, .inl g2, (hent g1 g3).2, fun g hg => .inl (g4 g hg), g5⟩
    · obtain rfl := List.mem_singleton.1 h4
      rw [upd_same]
      exact ⟨vd, (hent hb hvd).1, .inl hSb, (hent hb hvd).2, fun g hg => .inl (hSd g hg), hdl⟩
  · unfold Cs.add
    rw [nums_app, List.nodup_append]
    exact ⟨h.nd, by simp [nums], fun a ha b hb e2 => by
      simp [nums] at hb
      rw [e2, hb] at ha
      exact hm ha⟩
  · unfold Cs.add
    simp
    omega
  · rcases hx with e | e
    · exact .inl e
    · exact (hob' x e).imp (fun e => h.sr x e) (fun e => by omega)
set_option maxRecDepth 100000 in
set_option maxHeartbeats 1000000 in
theorem yuse_any (h : YaAt w p S A ad vl) {e : Ec} {b : Nat} {vd : Value} (hb : w.heap[b]? = some (.cells (yC e vd) 68 (0, 0))) (hSb : S b) (hvd : w.ownsRow 0 5 1 vd 512 (u8s e.dat)) (hSd : ∀ g, vd.ownBlock = some g → S g) (hdl : e.dat.length = 512)
    (hw : ∀ x ∈ A.row, ad x.num ≠ b → x.num ≠ e.num) (hl : (wob ad A.row b).length < A.n) :
    Calls Try.prog 43 #[pv p, pv b] w fun r w' => r = .returned undef ∧ ∃ S', Ya w' p S' { A with row := wob ad A.row b ++ [e] } ∧ Kp S w S' w' ∧ w'.heap[b]? = w.heap[b]? ∧ w'.ownsRow 0 5 1 vd 512 (u8s e.dat) := by
  have HG := hid (gone_any h b ⟨_, _, hb⟩)
  have HP : Hid (∀ w1 S1 v1, YaAt w1 p S1 { A with row := wob ad A.row b } ad v1 → Kp S w S1 w1 → (∀ x, S x → S1 x) → Mods (fun x => x = p) w w1 → ∃ a c a' n' c' w3, v1 = .slice a (wob ad A.row b).length c ∧ (Builtin.append_ #[54, 54] 54 #[v1, .slice (some ⟨w1.heap.size, 0, none⟩) 1 1]).run Try.prog (w1.alloc (.cells #[pv b] 69)) = .ok (.slice a' n' c') w3 ∧ w1.cell? ⟨p, 1, none⟩ = some v1 ∧ w3.frozen? ⟨p, 1, none⟩ = false ∧ w3.cell? ⟨p, 1, none⟩ = some v1 ∧
      ∃ S', Ya (w3.setCell ⟨p, 1, none⟩ (.slice a' n' c')) p S' { A with row := wob ad A.row b ++ [e] } ∧ Kp S w S' (w3.setCell ⟨p, 1, none⟩ (.slice a' n' c')) ∧ (w3.setCell ⟨p, 1, none⟩ (.slice a' n' c')).heap[b]? = w.heap[b]? ∧ (w3.setCell ⟨p, 1, none⟩ (.slice a' n' c')).ownsRow 0 5 1 vd 512 (u8s e.dat)) := hid (by
    intro w1 S1 v1 h1 hk1 hS1 hm1
    have hbl := h.lt b hSb
    have hbp : b ≠ p := fun e2 => by rw [e2, h.box] at hb; simp at hb
    have hb1 : w1.heap[b]? = w.heap[b]? := hm1.block b hbl hbp
    have hvd1 : w1.ownsRow 0 5 1 vd 512 (u8s e.dat) := owns_keep hvd (fun g hg => hm1.block g (owns_lt hvd hg).1 (fun e2 => by
      obtain ⟨cu, hk⟩ := owns_kind hvd hg
      rw [e2, h.box] at hk
      simp at hk))
    obtain ⟨a', n', c', w3, hap, f3, c3, S3, h3, hk3, hb3, hv3⟩ := h1.push (e := e) (b := b) (vd := vd) (hb1.trans hb) (hS1 b hSb) hvd1 (fun g hg => hS1 g (hSd g hg)) hdl (fun hm => by
      obtain ⟨x, hx, e2⟩ := List.mem_map.1 hm
      have hx' : x ∈ wob ad A.row b := hx
      unfold wob at hx'
      have h5 := List.mem_filter.1 hx'
      exact hw x h5.1 (by simpa using h5.2) e2) hl
    obtain ⟨a, c, e1⟩ := h1.slice
    exact ⟨a, c, a', n', c', w3, e1, hap, h1.cells.2, f3, c3, S3, ⟨_, _, h3⟩, hk1.trans hk3, hb3.trans hb1, hv3⟩)
  clear h hb hSb hvd hSd hdl hw hl
  go_enter Try.func43, Try.ntmps43
  go_wp2_with (first
    | (go_at_call 46; refine HG.out.mono ?_; rintro r w1 ⟨rfl, v1, S1, h1, hk1, hs1, hm1⟩; obtain ⟨a, c, a', n', c', w3, e1, hap, c11, f3, c31, hS⟩ := HP.out w1 S1 v1 h1 hk1 hs1 hm1; have HS := hid hS; clear h1 hk1 hs1 hm1 hS; subst e1; generalize (wob ad A.row b).length = l1 at *)
    | (at_builtin; refine wpList_append_run rfl _ _ 54 rfl rfl rfl hap ?_))
  go_end0
  exact ⟨rfl, HS.out⟩
/-- What the use of one that is held comes to. -/
theorem yuse_has (h : YaAt w p S A ad vl) {k : Int} (hk : k ∈ nums A.row) :
    Calls Try.prog 43 #[pv p, pv (ad k)] w fun r w' => r = .returned undef ∧ ∃ S' vd, Ya w' p S' (A.use k) ∧ Kp S w S' w' ∧ w'.cell? ⟨ad k, 1, none⟩ = some vd ∧ w'.ownsRow 0 5 1 vd 512 (u8s (A.at k).dat) := by
  obtain ⟨h1, h2⟩ := atL_mem hk
  obtain ⟨vd, g1, g2, g3, g4, g5⟩ := h.ent _ h1
  rw [h2] at g1 g2
  have hwl := wo_len h.nd hk
  have := yuse_any h (e := A.at k) g1 g2 g3 g4 g5 (fun x hx hne e => hne (by rw [show (A.at k).num = k from h2] at e; rw [e])) (by rw [h.wob_eq hk]; have := h.len; omega)
  rw [h.wob_eq hk] at this
  refine this.mono ?_
  rintro r w' ⟨rfl, S', q1, q2, q3, q4⟩
  exact ⟨rfl, S', vd, q1, q2, cell_of (q3.trans g1) rfl, q4⟩
theorem atV_has {A : Cs} {ad : Int → Nat} {k : Int} (h : k ∈ nums A.row) : atV A ad k = pv (ad k) := by unfold atV; rw [if_pos h]
theorem atV_no {A : Cs} {ad : Int → Nat} {k : Int} (h : k ∉ nums A.row) : atV A ad k = .pointer none := by unfold atV; rw [if_neg h]
set_option maxRecDepth 100000 in
set_option maxHeartbeats 1000000 in
theorem yGet_has (h : Ya w p S A) (k : Int) (hm : k ∈ nums A.row) :
    Calls Try.prog 26 #[pv p, .int .i64 k] w fun e w' => ∃ v S', e = .returned (.tuple #[v, .int .i64 0]) ∧ Ya w' p S' (A.use k) ∧ Kp S w S' w' ∧ w'.ownsRow 0 5 1 v 512 (u8s (A.at k).dat) := by
  obtain ⟨ad, vl, h⟩ := h
  have HA := hid (yAt_any h k)
  rw [atV_has hm] at HA
  have HU := hid (yuse_has h hm)
  have HL : Hid ((A.at k).dat.length = 512) := hid (by obtain ⟨vd, _, _, _, _, g5⟩ := h.ent _ (atL_mem hm).1; exact g5)
  clear h hm
  generalize A.at k = e0 at *
  go_enter Try.func26, Try.ntmps26
  go_wp2_with (first
    | (go_at_call 42; refine HA.out.mono ?_; rintro r w1 ⟨rfl, hw1⟩; rw [hw1]; clear hw1)
    | (go_at_call 43; refine HU.out.mono ?_; rintro r w1 ⟨rfl, S1, vd, h1, hk1, cd, hvd⟩; obtain ⟨g, cg, e1, hB⟩ := row_byt hvd; subst e1; obtain ⟨a', c', w2, hap, ho, hb2⟩ := clone_run w1 g 0 512 cg e0.dat HL.out (by omega) hB; have H1 := hid (h1.below hb2); have HK := hid (hk1.trans (Kp.below hb2)); have HO := hid (owns_zero ho); have hpl := (Array.getElem?_eq_some_iff.1 (show w1.heap[ad k]? = some _ from (Array.getElem?_eq_getElem (World.block_lt_of_cell? w1 _ cd)))).1; clear h1 hk1 hvd hB ho hb2)
    | (at_builtin; refine wpList_append_run rfl _ _ 40 rfl rfl rfl hap ?_))
  go_ret2
  exact ⟨_, S1, rfl, H1.out, HK.out, HO.out⟩
set_option maxRecDepth 100000 in
theorem yGet_no (h : Ya w p S A) (k : Int) (hm : k ∉ nums A.row) :
    Calls Try.prog 26 #[pv p, .int .i64 k] w fun e w' => e = .returned (.tuple #[.slice none 0 0, .int .i64 17]) ∧ w' = w := by
  obtain ⟨ad, vl, h⟩ := h
  have HA := hid (yAt_any h k)
  rw [atV_no hm] at HA
  clear h hm
  go_enter Try.func26, Try.ntmps26
  go_wp2_with (go_at_call 42; refine HA.out.mono ?_; rintro r w1 ⟨rfl, hw1⟩; rw [hw1]; clear hw1)
  go_ret2
  exact ⟨rfl, rfl⟩
end
end Go.Proofs.Ytdfnfcimajomeaa
