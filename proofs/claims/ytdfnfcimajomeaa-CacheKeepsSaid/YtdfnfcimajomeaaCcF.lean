/- lay, tell; place. -/
import Derived.Test.YtdfnfcimajomeaaCcE
namespace Go.Proofs.Ytdfnfcimajomeaa
open Go.RowKit Go.Maps

theorem info5 : (Try.prog.info? 5).map (fun i => (i.zero, i.size, i.bytes)) = some (some (.int .u8 0), 1, 1) := by kernel_rfl
theorem info5b : ∃ i, Try.prog.info? 5 = some i ∧ i.zero = some (.int .u8 0) ∧ i.size = 1 ∧ i.bytes = 1 := by
  have := info5
  cases h : Try.prog.info? 5 with
  | none => rw [h] at this; cases this
  | some i => rw [h] at this; simp at this; exact ⟨i, rfl, this.1, this.2.1, this.2.2⟩
theorem info5s : (Try.prog.info? 5).map (·.size) = some 1 := by kernel_rfl
theorem u8s_one (l : List Int) : ∀ u ∈ u8s l, u.oneCell' = true := by
  intro u hu
  obtain ⟨e, _, rfl⟩ := List.mem_map.1 hu
  rfl
/-- Bytes somewhere. -/
def Byt (w : World) (a : Addr) (l : List Int) : Prop := ∀ j v, (u8s l)[j]? = some v → w.cell? (a.add j) = some v
theorem Byt.keep {w w' : World} {b o : Nat} {l : List Int} (h : Byt w ⟨b, o, none⟩ l) (hb : w'.heap[b]? = w.heap[b]?) : Byt w' ⟨b, o, none⟩ l := fun j v hj => by
  have := h j v hj
  rw [add_addr] at this ⊢
  rw [← this]
  exact World.cell?_of_block hb
theorem putA_ent (e : Ec) (d : List Int) (h : e.dat.length = 512) (hd : d.length = 512) : putA (entC e).toArray 1 (u8s d) = (entC { e with dat := d }).toArray := by
  apply Array.ext_getElem?
  intro j
  rw [putA_get _ _ _ (by simp [entC, h, hd])]
  rw [List.length_map, hd]
  by_cases e1 : 1 ≤ j ∧ j < 1 + 512
  · rw [if_pos e1]
    have := entC_dat { e with dat := d } hd (j := j - 1) (by omega)
    rw [show 1 + (j - 1) = j by omega] at this
    rw [this, u8s_get (by omega)]
  · rw [if_neg e1]
    rcases Nat.lt_or_ge j 1 with e2 | e2
    · obtain rfl : j = 0 := by omega
      rw [entC_num, entC_num]
    · by_cases e3 : j = 513
      · subst e3; rw [entC_dirty e h, entC_dirty _ hd]
      · by_cases e4 : j = 514
        · subst e4; rw [entC_pins e h, entC_pins _ hd]
        · rw [List.getElem?_toArray, List.getElem?_toArray, List.getElem?_eq_none (by rw [entC_len e h]; omega), List.getElem?_eq_none (by rw [entC_len _ hd]; omega)]
set_option maxRecDepth 100000 in
set_option maxHeartbeats 1000000 in
theorem lay_any (w : World) (b : Nat) (e : Ec) (he : e.dat.length = 512) (h : w.heap[b]? = some (.cells (entC e).toArray 66 (0, 0))) (ad : Addr) (c : Nat) (d : List Int) (hd : d.length = 512) (hB : Byt w ad d) :
    Calls Try.prog 36 #[pv b, .slice (some ad) 512 c] w fun r w' => r = .returned undef ∧ w'.heap[b]? = some (.cells (entC { e with dat := d }).toArray 66 (0, 0)) ∧ Mods (fun x => x = b) w w' := by
  obtain ⟨W1, hW1⟩ : ∃ W1, W1 = w.setCells b 1 (u8s d) := ⟨_, rfl⟩
  have hsz : (entC e).toArray.size = 515 := by simp [entC, he]
  have hcp : ∀ ty, (Builtin.copy_ #[40, 40] ty #[.slice (some ⟨b, 1, none⟩) 512 512, .slice (some ad) 512 c]).run Try.prog w = .ok (goInt (u8s d).length) W1 := fun ty => by
    rw [hW1]
    exact run_copy_cells w 40 40 ty 5 b 1 512 512 ad 512 c (u8s d) Try.underlying40 info5s (by simp [hd]) hB (fun j hj => by
      have : j < 512 := by simpa [hd] using hj
      rw [cell_of h (entC_dat e he this)]
      rfl) (fun j _ => froz_of h _) (u8s_one d)
  have HR : Hid (W1.heap[b]? = some (.cells (entC { e with dat := d }).toArray 66 (0, 0))) := hid (by
    rw [hW1, ← putA_ent e d he hd]
    exact setCells_heap _ _ _ _ h)
  have HM : Hid (Mods (fun x => x = b) w W1) := hid (by rw [hW1]; exact setCells_mods b _ _ _)
  clear hW1 h hB
  generalize (u8s d).length = ln at *
  go_enter Try.func36, Try.ntmps36
  go_wp2
  go_end0
  exact ⟨rfl, HR.out, HM.out⟩
set_option maxRecDepth 100000 in
set_option maxHeartbeats 1000000 in
theorem CloneB_any (w : World) (b o n c : Nat) (l : List Int) (hn : l.length = n) (hl : n ≤ 1000000) (hB : Byt w ⟨b, o, none⟩ l) :
    Calls Try.prog 51 #[.slice (some ⟨b, o, none⟩) n c] w fun e w' => ∃ v, e = .returned v ∧ w'.ownsRow w.heap.size 5 1 v n (u8s l) ∧ Below w.heap.size w w' := by
  have qT : ∀ (w : World) (a : Option Addr) (n c n' c' : Nat), (binOp .eql 40 (.slice a n c) (.slice none n' c')).run Try.prog w = .ok (.bool a.isNone) w := fun w a n c n' c' => Lib.run_eql_slice_nil w _ _ a n c n' c' Try.underlying40
  obtain ⟨W1, hW1⟩ : ∃ W1, W1 = w.alloc (.cells #[] 5) := ⟨_, rfl⟩
  have hb1 : Below w.heap.size w W1 := by rw [hW1]; exact (Below.refl _ _).alloc (Nat.le_refl _) _
  have hr1 : W1.ownsRow 0 5 1 (.slice (some ⟨w.heap.size, 0, none⟩) 0 0) 0 [] := by
    refine owns_of_block (cur := #[]) (by rw [hW1]; exact alloc_new w _) (by omega) (by unfold maxLen; omega) rfl (fun j hj => by omega) rfl
  have hB1 : Byt W1 ⟨b, o, none⟩ l := fun j v hj => by
    have := hB j v hj
    rw [add_addr] at this ⊢
    exact cell_later hb1 this
  obtain ⟨v', w2, hap, ho, hm, hob⟩ := app_gen W1 40 40 5 _ 1 Try.underlying40 info5b rfl (by omega) _ [] 0 rfl hr1 ⟨b, o, none⟩ n c (u8s l) (by simp [hn]) hB1 (u8s_one l) (by omega)
  have hs1 : W1.heap.size = w.heap.size + 1 := by rw [hW1]; simp
  have HR : Hid (w2.ownsRow w.heap.size 5 1 v' n (u8s l)) := hid (by
    have := owns_base (base' := w.heap.size) ho (fun g hg => by
      rcases hob with e | e
      · rw [e] at hg; simp [Value.ownBlock] at hg; omega
      · rw [e] at hg; simp at hg; omega)
    rw [Nat.zero_add] at this
    exact this)
  have HB : Hid (Below w.heap.size w w2) := hid (hm.to_below hb1 hb1.size (fun g hg => by simp [Value.ownBlock] at hg; omega))
  obtain ⟨a', c', e'⟩ := owns_slice ho
  subst e'
  rw [Nat.zero_add] at hap HR
  clear hb1 hr1 hB1 hB ho hm hob hs1
  go_enter Try.func51, Try.ntmps51
  go_wp2_with (at_builtin; rw [← hW1]; refine wpList_append_run rfl _ _ 40 rfl rfl rfl hap ?_)
  go_ret
  exact ⟨_, by simp, HR.out, HB.out⟩
theorem ent_byt {w : World} {b : Nat} {e : Ec} (he : e.dat.length = 512) (h : w.heap[b]? = some (.cells (entC e).toArray 66 (0, 0))) : Byt w ⟨b, 1, none⟩ e.dat := fun j v hj => by
  have hj2 : j < 512 := by have := (List.getElem?_eq_some_iff.1 hj).1; simpa [he] using this
  rw [add_addr, cell_of h (entC_dat e he hj2)]
  rw [u8s_get (by omega)] at hj
  exact hj
set_option maxRecDepth 100000 in
theorem tell_any (w : World) (b : Nat) (e : Ec) (he : e.dat.length = 512) (h : w.heap[b]? = some (.cells (entC e).toArray 66 (0, 0))) :
    Calls Try.prog 41 #[pv b] w fun r w' => ∃ v, r = .returned v ∧ w'.ownsRow w.heap.size 5 1 v 512 (u8s e.dat) ∧ Below w.heap.size w w' := by
  have HC := hid (CloneB_any w b 1 512 512 e.dat he (by omega) (ent_byt he h))
  clear h
  go_enter Try.func41, Try.ntmps41
  go_wp2_with (go_at_call 51; refine HC.out.mono ?_; rintro e1 w1 ⟨v, rfl, h1, h2⟩; have H1 := hid h1; have H2 := hid h2; clear h1 h2)
  go_ret
  exact ⟨_, rfl, H1.out, H2.out⟩
def z512 : List Int := List.replicate 512 0
end Go.Proofs.Ytdfnfcimajomeaa
