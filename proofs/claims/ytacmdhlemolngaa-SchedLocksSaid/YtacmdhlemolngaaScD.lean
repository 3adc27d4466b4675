/- Maps of rows: add, first, remove. -/
import Derived.Test.YtacmdhlemolngaaScC
namespace Go.Proofs.Ytacmdhlemolngaa
open Go.RowKit Go.Maps

theorem zeroI (w : World) : (zeroValue 31).run Try.prog w = .ok (.slice none 0 0) w := by kernel_rfl
theorem mapT : Try.prog.underlying 83 = some (.map 3 31) := Try.underlying83
theorem one_cell {w : World} {b : Nat} {x : Int} (h : w.cell? ⟨b, 0, none⟩ = some (.int .i64 x)) : ∀ i, i < 1 → w.cell? ⟨b, i, none⟩ = some (.int .i64 ([x].getD i 0)) := by
  intro i hi
  have e : i = 0 := by omega
  subst e
  exact h
section
variable {w w' : World} {lab : Nat → Own} {om : Own} {own : Int → Own} {b n : Nat} {M : Int → Option Value} {f : Int → List Int}
/-- What stands at a key. -/
theorem Mp.at (h : Mp w lab om own b n M f) {k : Int} (hk : IsI k) : ∃ v, (Instr.lookup 83 (.map (some b)) (.int .i64 k) false).run Try.prog w = .ok v w ∧ RI w lab (own k) v (f k) ∧ (M k).getD (.slice none 0 0) = v := by
  have hl := h.map.look mapT (zeroI w) hk
  rcases h.row k hk with ⟨e1, e2⟩ | ⟨v, e1, e2, e3⟩
  · rw [e1] at hl
    refine ⟨_, hl, ?_, by rw [e1]⟩
    rw [e2]
    exact ⟨⟨rfl, .inl ⟨rfl, rfl⟩⟩, fun g hg => by simp [Value.ownBlock] at hg⟩
  · rw [e1] at hl
    exact ⟨v, hl, e3, by rw [e1]; rfl⟩
/-- A row is laid at a key. -/
theorem Mp.put' (h : Mp w lab om own b n M f) (m : Nat) (hinj : ∀ k k', own k = own k' → k = k') (hom : ∀ k, own k ≠ om) (hno : ∀ k, own k ≠ .no) (hno2 : om ≠ .no) (hlt : ∀ b, lab b ≠ .no → b < w.heap.size) {k : Int} {v v' : Value} {l' : List Int} (hv : RI w lab (own k) v (f k)) (hne : l' ≠ [])
    {w1 : World} (hm1 : Mods (fun b => v.ownBlock = some b) w w1) (hr : w1.ownsRow 0 3 1 v' l'.length (ints l')) (hvb : ∀ b, v'.ownBlock = some b → v.ownBlock = some b ∨ w.heap.size ≤ b) (hput : MapIs w1 b n M → ∃ w2, (Instr.mapUpdate 83 (.map (some b)) (.int .i64 k) v').run Try.prog w1 = .ok () w2 ∧ MapIs w2 b m (upd M k (some v')) ∧ w1.grownBy w2 (some b)) :
    ∃ w2, (Instr.mapUpdate 83 (.map (some b)) (.int .i64 k) v').run Try.prog w1 = .ok () w2 ∧ (∃ lab' M', Mp w2 lab' om own b m M' (upd f k l') ∧ (∀ b, b < w.heap.size → lab' b = lab b) ∧ (∀ b, lab' b ≠ .no → b < w2.heap.size)) ∧ Mods (fun b => lab b = om ∨ ∃ k, lab b = own k) w w2 := by
  have hvk : ∀ g, v.ownBlock = some g → lab g = own k := hv.2
  have hb : b < w.heap.size := h.map.lt
  have hbv : v.ownBlock ≠ some b := fun e => hom k (by rw [← hvk b e, h.lb])
  have hM1 : MapIs w1 b n M := h.map.keep (hm1.block b hb hbv)
  obtain ⟨w2, hrun, hM2, hg⟩ := hput hM1
  have hm2 : Mods (fun x => x = b) w1 w2 := (Mods.of_grown hg).weak (fun x e => .inl (by simpa using e.symm))
  have hmm : Mods (fun x => x = b ∨ v.ownBlock = some x) w w2 := (hm1.weak (fun x e => .inl (.inr e))).tr (hm2.weak (fun x e => .inl (.inl e)))
  have hv'b : v'.ownBlock ≠ some b := fun e => by
    rcases hvb b e with e2 | e2
    · exact hbv e2
    · omega
  have hr2 : w2.ownsRow 0 3 1 v' l'.length (ints l') := owns_keep hr (fun g hg2 => hm2.block g (owns_lt hr hg2).1 (fun e => hv'b (by rw [← e]; exact hg2)))
  have old : ∀ {x : Nat} {c : Own}, c ≠ .no → lab x = c → relab w lab (fun x => v'.ownBlock = some x) (own k) x = c := fun hc e => relab_lab hlt hc e
  refine ⟨w2, hrun, ⟨relab w lab (fun x => v'.ownBlock = some x) (own k), upd M k (some v'), ⟨hM2, old hno2 h.lb, fun j hj => ?_⟩, fun x hx => relab_old hx, fun x hx => relab_lt hlt hmm.size (fun x e => (owns_lt hr2 e).1) hx⟩, hmm.weak (fun x e => .inl ?_)⟩
  · by_cases e : j = k
    · subst e
      rw [upd_same, upd_same]
      refine .inr ⟨v', rfl, hne, hr2, fun g hg2 => ?_⟩
      rcases hvb g hg2 with e2 | e2
      · exact old (hno j) (hvk g e2)
      · exact relab_yes e2 hg2
    · rw [upd_other _ _ e, upd_other _ _ e]
      refine (h.row j hj).imp id (fun ⟨u, e1, e2, e3⟩ => ⟨u, e1, e2, Rw.keep e3 (fun x hx => hmm.block x (hlt x (by rw [hx]; exact hno j)) ?_) (fun x hx => old (hno j) hx)⟩)
      rintro (e4 | e4)
      · exact hom j (by rw [← hx, e4, h.lb])
      · exact e (hinj j k (by rw [← hx, hvk x e4]))
  · rcases e with e | e
    · exact .inl (by rw [e]; exact h.lb)
    · exact .inr ⟨k, hvk x e⟩
theorem Mp.put (h : Mp w lab om own b n M f) (hinj : ∀ k k', own k = own k' → k = k') (hom : ∀ k, own k ≠ om) (hno : ∀ k, own k ≠ .no) (hno2 : om ≠ .no) (hlt : ∀ b, lab b ≠ .no → b < w.heap.size) {k : Int} (hk : IsI k) {v v' : Value} {l' : List Int} (hv : RI w lab (own k) v (f k)) (hne : l' ≠ [])
    {w1 : World} (hm1 : Mods (fun b => v.ownBlock = some b) w w1) (hr : w1.ownsRow 0 3 1 v' l'.length (ints l')) (hvb : ∀ b, v'.ownBlock = some b → v.ownBlock = some b ∨ w.heap.size ≤ b) (hn : n < maxLen) :
    ∃ w2, (Instr.mapUpdate 83 (.map (some b)) (.int .i64 k) v').run Try.prog w1 = .ok () w2 ∧ (∃ lab' M', Mp w2 lab' om own b (n + 1) M' (upd f k l') ∧ (∀ b, b < w.heap.size → lab' b = lab b) ∧ (∀ b, lab' b ≠ .no → b < w2.heap.size)) ∧ Mods (fun b => lab b = om ∨ ∃ k, lab b = own k) w w2 :=
  h.put' (n + 1) hinj hom hno hno2 hlt hv hne hm1 hr hvb (fun hM => hM.put mapT hn hk v')
theorem MapIs.putOld {w : World} {b n : Nat} {M : Int → Option Value} (h : MapIs w b n M) {t e : TypeId} (ht : Try.prog.underlying t = some (.map 3 e)) (hn : n < maxLen) {k : Int} (hk : IsI k) {u : Value} (hu : M k = some u) (v : Value) :
    ∃ w', (Instr.mapUpdate t (.map (some b)) (.int .i64 k) v).run Try.prog w = .ok () w' ∧ MapIs w' b n (upd M k (some v)) ∧ w.grownBy w' (some b) := by
  obtain ⟨D, h1, h2⟩ := h
  obtain ⟨w', hrun, ho, hg⟩ := h1.update intKey ht hn (keyI hk) (val := v) (d := .held v) (ps := []) rfl
  have hh : Maps.has D (.int .i64 k) = true := has_true_of_atKey (y := .held u) (fun z => by rw [h2 k hk z, hu]; rfl)
  have hsz : Maps.size (D.put (.int .i64 k) (.held v)) ≤ n := by
    rw [size_put (h1.tidy intKey), if_pos hh]
    exact h1.size_le
  refine ⟨w', hrun, ⟨D.put (.int .i64 k) (.held v), ?_, fun j hj z => ?_⟩, hg⟩
  · obtain ⟨es, clock, hb, F, hs, he⟩ := ho
    refine ⟨es, clock, hb, F, ?_, he⟩
    rw [he, size_eq, length_read] at hsz
    exact hsz
  · by_cases e : j = k
    · subst e
      rw [upd_same, atKey_put_same h1.isMap (by simp [WideAt.IsKeyLit])]
      rfl
    · rw [upd_other _ _ e, atKey_put_other (by simpa using e), h2 j hj]
/-- A key is taken out. -/
theorem Mp.cut (h : Mp w lab om own b n M f) (hinj : ∀ k k', own k = own k' → k = k') (hom : ∀ k, own k ≠ om) (hno : ∀ k, own k ≠ .no) (hlt : ∀ b, lab b ≠ .no → b < w.heap.size) {k : Int} (hk : IsI k) {v : Value} (hv : RI w lab (own k) v (f k))
    {w1 : World} (hm1 : Mods (fun b => v.ownBlock = some b) w w1) (ty : TypeId) :
    ∃ w2, (Builtin.delete_ #[83, 3] ty #[.map (some b), .int .i64 k]).run Try.prog w1 = .ok (.tuple #[]) w2 ∧ (∃ M', Mp w2 lab om own b n M' (upd f k [])) ∧ (∀ b, lab b ≠ .no → b < w2.heap.size) ∧ Mods (fun b => lab b = om ∨ ∃ k, lab b = own k) w w2 := by
  have hvk : ∀ g, v.ownBlock = some g → lab g = own k := hv.2
  have hb : b < w.heap.size := h.map.lt
  have hbv : v.ownBlock ≠ some b := fun e => hom k (by rw [← hvk b e, h.lb])
  have hM1 : MapIs w1 b n M := h.map.keep (hm1.block b hb hbv)
  obtain ⟨w2, hrun, hM2, hg⟩ := hM1.del mapT hk ty
  have hm2 : Mods (fun x => x = b) w1 w2 := (Mods.of_grown hg).weak (fun x e => .inl (by simpa using e.symm))
  have hmm : Mods (fun x => x = b ∨ v.ownBlock = some x) w w2 := (hm1.weak (fun x e => .inl (.inr e))).tr (hm2.weak (fun x e => .inl (.inl e)))
  refine ⟨w2, hrun, ⟨upd M k none, hM2, h.lb, fun j hj => ?_⟩, fun x hx => Nat.lt_of_lt_of_le (hlt x hx) hmm.size, hmm.weak (fun x e => .inl ?_)⟩
  · by_cases e : j = k
    · subst e
      rw [upd_same, upd_same]
      exact .inl ⟨rfl, rfl⟩
    · rw [upd_other _ _ e, upd_other _ _ e]
      refine (h.row j hj).imp id (fun ⟨u, e1, e2, e3⟩ => ⟨u, e1, e2, Rw.keep e3 (fun x hx => hmm.block x (hlt x (by rw [hx]; exact hno j)) ?_) (fun x hx => hx)⟩)
      rintro (e4 | e4)
      · exact hom j (by rw [← hx, e4, h.lb])
      · exact e (hinj j k (by rw [← hx, hvk x e4]))
  · rcases e with e | e
    · exact .inl (by rw [e]; exact h.lb)
    · exact .inr ⟨k, hvk x e⟩
/-- What becomes of a map of rows. -/
def MpStep (w w' : World) (lab : Nat → Own) (om : Own) (own : Int → Own) (b n : Nat) (f : Int → List Int) : Prop :=
  ∃ lab' M', Mp w' lab' om own b n M' f ∧ (∀ b, b < w.heap.size → lab' b = lab b) ∧ (∀ b, lab' b ≠ .no → b < w'.heap.size) ∧ Mods (fun b => lab b = om ∨ ∃ k, lab b = own k) w w'
structure Owner (om : Own) (own : Int → Own) : Prop where
  inj : ∀ k k', own k = own k' → k = k'
  hom : ∀ k, own k ≠ om
  hno : ∀ k, own k ≠ .no
  hno2 : om ≠ .no
theorem ownS : Owner .ms .sl := ⟨fun _ _ e => by simpa using e, by simp, by simp, by simp⟩
theorem ownL : Owner .ml .lk := ⟨fun _ _ e => by simpa using e, by simp, by simp, by simp⟩
set_option maxRecDepth 100000 in
set_option maxHeartbeats 1000000 in
theorem add_any (h : Mp w lab om own b n M f) (O : Owner om own) (hlt : ∀ b, lab b ≠ .no → b < w.heap.size) (k x : Int) (hk : IsI k) (hl : (f k).length ≤ 1099511627776) (hn : n < 1099511627776) :
    Calls Try.prog 53 #[.map (some b), .int .i64 k, .int .i64 x] w fun e w' => e = .returned undef ∧ MpStep w w' lab om own b (n + 1) (upd f k (f k ++ [x])) := by
  obtain ⟨v, hlook, hr, _⟩ := h.at hk
  obtain ⟨W1, hW1⟩ : ∃ W1, W1 = w.alloc (.cells #[.int .i64 x] 3) := ⟨_, rfl⟩
  have hb1 : Below w.heap.size w W1 := by rw [hW1]; exact (Below.refl _ _).alloc (Nat.le_refl _) _
  have hc1 : W1.cell? ⟨w.heap.size, 0, none⟩ = some (.int .i64 x) := cell_of (by rw [hW1]; exact alloc_new w _) rfl
  have hr1 : W1.ownsRow 0 3 1 v (f k).length (ints (f k)) := owns_keep hr.1 (fun g hg => hb1.block g (owns_lt hr.1 hg).1)
  obtain ⟨v', w2, hap, ho, hm2, hob⟩ := app_run W1 v (f k) hr1 w.heap.size 1 1 [x] rfl (one_cell hc1) (by omega) 31
  have hm : Mods (fun b => v.ownBlock = some b) w w2 := (Mods.of_below hb1).tr hm2
  obtain ⟨w3, hup, ⟨lab', M', hM, h1, h2⟩, h3⟩ := h.put O.inj O.hom O.hno O.hno2 hlt hk hr (by simp) hm ho (fun b e => by
    rcases hob with e2 | e2
    · exact .inl (by rw [← e2]; exact e)
    · rw [e2] at e
      simp at e
      exact .inr (by have := hb1.size; omega)) (by unfold maxLen; omega)
  have HR := hid (show MpStep w w3 lab om own b (n + 1) (upd f k (f k ++ [x])) from ⟨lab', M', hM, h1, h2, h3⟩)
  obtain ⟨a, c, rfl⟩ := owns_slice hr.1
  obtain ⟨a', c', rfl⟩ := owns_slice ho
  clear h hr hr1 ho hm2 hob hm hM h1 h2 h3 hb1 hc1
  generalize upd f k (f k ++ [x]) = f2 at *
  generalize (f k).length = ln at *
  generalize (f k ++ [x]).length = ln2 at *
  go_enter Try.func53, Try.ntmps53
  go_wp2_with (at_builtin; rw [← hW1]; refine wpList_append_run rfl _ _ 31 rfl rfl rfl hap ?_)
  go_end0
  exact ⟨rfl, HR.out⟩
def fstI (l : List Int) : Value := .tuple #[.int .i64 (l.headD 0), .bool (!l.isEmpty)]
set_option maxRecDepth 100000 in
set_option maxHeartbeats 1000000 in
theorem first_any (h : Mp w lab om own b n M f) (k : Int) (hk : IsI k) :
    Calls Try.prog 56 #[.map (some b), .int .i64 k] w fun e w' => e = .returned (fstI (f k)) ∧ w' = w := by
  obtain ⟨v, hlook, hr, _⟩ := h.at hk
  unfold fstI
  generalize f k = l at *
  cases l with
  | nil =>
    obtain ⟨a, c, rfl⟩ := owns_slice hr.1
    clear h hr
    simp only [List.length_nil] at *
    go_enter Try.func56, Try.ntmps56
    go_wp2
    go_ret2
    exact ⟨rfl, rfl⟩
  | cons x r =>
    obtain ⟨g, c, rfl, hc, _⟩ := owns_int (j := 0) hr.1 (by simp)
    simp only [List.getD_cons_zero] at hc
    simp only [List.headD_cons, List.isEmpty_cons, Bool.not_false]
    have hp : 0 < (x :: r).length := by simp
    generalize (x :: r).length = ln at *
    have hp1 : ((ln : Int) == 0) = false := by rw [beq_eq_false_iff_ne]; omega
    have hp2 : (0 : Int) < (ln : Int) := by omega
    clear h hr
    go_enter Try.func56, Try.ntmps56
    go_wp2
    go_ret2
    exact ⟨rfl, rfl⟩
set_option maxRecDepth 100000 in
set_option maxHeartbeats 1000000 in
theorem remove_n (h : Mp w lab om own b n M f) (O : Owner om own) (hlt : ∀ b, lab b ≠ .no → b < w.heap.size) (k x : Int) (hk : IsI k) (hl : (f k).length ≤ 1099511627776) (hn : n < 1099511627776) :
    Calls Try.prog 67 #[.map (some b), .int .i64 k, .int .i64 x] w fun e w' => e = .returned undef ∧ MpStep w w' lab om own b n (upd f k ((f k).erase x)) := by
  obtain ⟨v, hlook, hr, _⟩ := h.at hk
  have hcon := hid (without_any w v (f k) x hr.1 hl)
  have HP : Hid (∀ w1 v', Mods (fun b => v.ownBlock = some b) w w1 → w1.ownsRow 0 3 1 v' ((f k).erase x).length (ints ((f k).erase x)) → v'.ownBlock = v.ownBlock → (f k).erase x ≠ [] → ∃ w2, (Instr.mapUpdate 83 (.map (some b)) (.int .i64 k) v').run Try.prog w1 = .ok () w2 ∧ MpStep w w2 lab om own b n (upd f k ((f k).erase x))) := hid (fun w1 v' h1 h2 h3 h4 => by
    have hMk : ∃ u, M k = some u := by
      rcases h.row k hk with ⟨_, e⟩ | ⟨u, e, _⟩
      · rw [e] at h4; exact absurd rfl h4
      · exact ⟨u, e⟩
    obtain ⟨u, hu⟩ := hMk
    obtain ⟨w2, hup, ⟨lab', M', hM, k1, k2⟩, k3⟩ := h.put' n O.inj O.hom O.hno O.hno2 hlt hr h4 h1 h2 (fun b e => .inl (by rw [← h3]; exact e)) (fun hM => hM.putOld mapT (by unfold maxLen; omega) hk hu v')
    exact ⟨w2, hup, lab', M', hM, k1, k2, k3⟩)
  have HC : Hid (∀ w1, Mods (fun b => v.ownBlock = some b) w w1 → (f k).erase x = [] → ∃ w2, (Builtin.delete_ #[83, 3] 0 #[.map (some b), .int .i64 k]).run Try.prog w1 = .ok (.tuple #[]) w2 ∧ MpStep w w2 lab om own b n (upd f k ((f k).erase x))) := hid (fun w1 h1 h2 => by
    obtain ⟨w2, hup, ⟨M', hM⟩, k2, k3⟩ := h.cut O.inj O.hom O.hno hlt hk hr h1 0
    exact ⟨w2, hup, lab, M', by rw [h2]; exact hM, fun _ _ => rfl, k2, k3⟩)
  obtain ⟨a, c, rfl⟩ := owns_slice hr.1
  clear h hr
  generalize upd f k ((f k).erase x) = f2 at *
  by_cases he : (f k).erase x = []
  · have HE := hid he
    rw [he] at hcon
    clear HP he
    generalize (f k).length = ln at *
    go_enter Try.func67, Try.ntmps67
    go_wp2_with (go_at_call 74; refine hcon.out.mono ?_; rintro e w1 ⟨a1, n1, c1, rfl, hn1, h2, h3, h4⟩; simp only [List.length_nil] at hn1; subst hn1; obtain ⟨w2, hd, hs⟩ := HC.out w1 h3 HE.out; have HS := hid hs; clear h2 h3 h4 hs)
    refine bodyPost_ret (results_none rfl _ _ _) rfl ?_
    exact ⟨rfl, HS.out⟩
  · have HE := hid he
    have hp : 0 < ((f k).erase x).length := List.length_pos_iff.2 he
    generalize hl2 : ((f k).erase x).length = ln2 at *
    have hp1 : ((ln2 : Int) == 0) = false := by rw [beq_eq_false_iff_ne]; omega
    clear HC he hl2
    generalize (f k).length = ln at *
    go_enter Try.func67, Try.ntmps67
    go_wp2_with (go_at_call 74; refine hcon.out.mono ?_; rintro e w1 ⟨a1, n1, c1, rfl, hn1, h2, h3, h4⟩; subst hn1; obtain ⟨w2, hd, hs⟩ := HP.out w1 _ h3 h2 h4 HE.out; have HS := hid hs; clear h2 h3 h4 hs)
    go_end0
    exact ⟨rfl, HS.out⟩
theorem MpStep.more {b n n' : Nat} {f : Int → List Int} (h : MpStep w w' lab om own b n f) (hn : n ≤ n') : MpStep w w' lab om own b n' f :=
  let ⟨lab', M', h1, h2⟩ := h; ⟨lab', M', ⟨h1.map.mono hn, h1.lb, h1.row⟩, h2⟩
theorem remove_any (h : Mp w lab om own b n M f) (O : Owner om own) (hlt : ∀ b, lab b ≠ .no → b < w.heap.size) (k x : Int) (hk : IsI k) (hl : (f k).length ≤ 1099511627776) (hn : n < 1099511627776) :
    Calls Try.prog 67 #[.map (some b), .int .i64 k, .int .i64 x] w fun e w' => e = .returned undef ∧ MpStep w w' lab om own b (n + 1) (upd f k ((f k).erase x)) :=
  (remove_n h O hlt k x hk hl hn).mono (fun _ _ ⟨h1, h2⟩ => ⟨h1, h2.more (by omega)⟩)
end
end Go.Proofs.Ytacmdhlemolngaa
