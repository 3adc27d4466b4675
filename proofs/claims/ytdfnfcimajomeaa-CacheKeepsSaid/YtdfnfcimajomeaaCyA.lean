/- The document's cache: its blocks as structs of their own; At, gone, use. -/
import Derived.Test.YtdfnfcimajomeaaCcJ
namespace Go.Proofs.Ytdfnfcimajomeaa
open Go.RowKit Go.Maps

def yC (e : Ec) (vd : Value) : Array Value := #[.int .i64 e.num, vd, .bool e.dirty, .int .i64 e.pins]
structure YaAt (w : World) (p : Nat) (S : Nat → Prop) (A : Cs) (ad : Int → Nat) (vl : Value) : Prop where
  lt : ∀ b, S b → b < w.heap.size
  box : w.heap[p]? = some (.cells #[.int .i64 A.n, vl] 56 (0, 0))
  sp : S p
  row : w.ownsRow 0 69 1 vl A.row.length (ptrs ad A.row)
  sr : ∀ g, vl.ownBlock = some g → S g
  ent : ∀ e ∈ A.row, ∃ vd, w.heap[ad e.num]? = some (.cells (yC e vd) 68 (0, 0)) ∧ S (ad e.num) ∧ w.ownsRow 0 5 1 vd 512 (u8s e.dat) ∧ (∀ g, vd.ownBlock = some g → S g) ∧ e.dat.length = 512
  nd : (nums A.row).Nodup
  hn : A.n ≤ 1024
  len : A.row.length ≤ A.n
def Ya (w : World) (p : Nat) (S : Nat → Prop) (A : Cs) : Prop := ∃ ad vl, YaAt w p S A ad vl
theorem infoY : (Try.prog.info? 68).map (·.size) = some (3 + 1) := by kernel_rfl
theorem infoPY : (Try.prog.info? 69).map (fun i => (i.zero, i.size, i.bytes)) = some (some (.pointer none), 1, 8) := by kernel_rfl
theorem infoPYb : ∃ i, Try.prog.info? 69 = some i ∧ i.zero = some (.pointer none) ∧ i.size = 1 ∧ i.bytes = 8 := by
  have := infoPY
  cases h : Try.prog.info? 69 with
  | none => rw [h] at this; cases this
  | some i => rw [h] at this; simp at this; exact ⟨i, rfl, this.1, this.2.1, this.2.2⟩
theorem ptr_neq_same {tp te : TypeId} {s : Nat} (hp : Try.prog.underlying tp = some (.pointer te)) (hi : (Try.prog.info? te).map (·.size) = some (s + 1)) (w : World) (b : Nat) : (binOp .neq tp (pv b) (pv b)).run Try.prog w = .ok (.bool false) w := by
  have := ptr_same hp hi w b
  simp only [binOp] at this ⊢
  simp only [Sem.run_bind] at this ⊢
  cases h : Sem.run Try.prog (Op.equal tp (pv b) (pv b)) w with
  | ok x w' =>
    rw [h] at this
    simp at this
    obtain ⟨rfl, rfl⟩ := this
    simp
  | _ => rw [h] at this; simp [Result.andThen] at this
theorem ptr_neq_other {tp te : TypeId} {s : Nat} (hp : Try.prog.underlying tp = some (.pointer te)) (hi : (Try.prog.info? te).map (·.size) = some (s + 1)) {w : World} {a b : Nat} {ca cb : Array Value} {ta tb : TypeId} (hne : a ≠ b) (ha : w.heap[a]? = some (.cells ca ta (0, 0))) (hb : w.heap[b]? = some (.cells cb tb (0, 0))) :
    (binOp .neq tp (pv a) (pv b)).run Try.prog w = .ok (.bool true) w := by
  have := ptr_other hp hi hne ha hb
  simp only [binOp] at this ⊢
  simp only [Sem.run_bind] at this ⊢
  cases h : Sem.run Try.prog (Op.equal tp (pv a) (pv b)) w with
  | ok x w' =>
    rw [h] at this
    simp at this
    obtain ⟨rfl, rfl⟩ := this
    simp
  | _ => rw [h] at this; simp [Result.andThen] at this
section
variable {w w' : World} {p : Nat} {S : Nat → Prop} {A : Cs} {ad : Int → Nat} {vl : Value}
theorem YaAt.cells (h : YaAt w p S A ad vl) : w.cell? ⟨p, 0, none⟩ = some (.int .i64 A.n) ∧ w.cell? ⟨p, 1, none⟩ = some vl := ⟨cell_of h.box rfl, cell_of h.box rfl⟩
theorem YaAt.p_ne_r (h : YaAt w p S A ad vl) {g : Nat} (hg : vl.ownBlock = some g) : p ≠ g := fun e => by
  obtain ⟨c, hh⟩ := owns_kind h.row hg
  have := h.box
  rw [e, hh] at this
  simp at this
theorem YaAt.e_ne_p (h : YaAt w p S A ad vl) {e : Ec} (he : e ∈ A.row) : ad e.num ≠ p := fun e1 => by
  obtain ⟨vd, h1, _⟩ := h.ent e he
  rw [e1, h.box] at h1
  simp at h1
theorem YaAt.e_ne_r (h : YaAt w p S A ad vl) {e : Ec} (he : e ∈ A.row) {g : Nat} (hg : vl.ownBlock = some g) : ad e.num ≠ g := fun e1 => by
  obtain ⟨c, hh⟩ := owns_kind h.row hg
  obtain ⟨vd, h1, _⟩ := h.ent e he
  rw [e1, hh] at h1
  simp at h1
theorem YaAt.inj (h : YaAt w p S A ad vl) {e e' : Ec} (he : e ∈ A.row) (he' : e' ∈ A.row) (h1 : ad e.num = ad e'.num) : e.num = e'.num := by
  obtain ⟨vd, a, _⟩ := h.ent e he
  obtain ⟨vd', b, _⟩ := h.ent e' he'
  rw [h1, b] at a
  simp [yC] at a
  exact a.1.symm
theorem YaAt.keep (h : YaAt w p S A ad vl) (hs : w.heap.size ≤ w'.heap.size) (hk : ∀ b, S b → w'.heap[b]? = w.heap[b]?) : YaAt w' p S A ad vl :=
  ⟨fun b hb => Nat.lt_of_lt_of_le (h.lt b hb) hs, (hk p h.sp).trans h.box, h.sp, owns_keep h.row (fun g hg => hk g (h.sr g hg)), h.sr, fun e he => by
    obtain ⟨vd, h1, h2, h3, h4, h5⟩ := h.ent e he
    exact ⟨vd, (hk _ h2).trans h1, h2, owns_keep h3 (fun g hg => hk g (h4 g hg)), h4, h5⟩, h.nd, h.hn, h.len⟩
theorem YaAt.below (h : YaAt w p S A ad vl) (hb : Below w.heap.size w w') : YaAt w' p S A ad vl := h.keep hb.size (fun b e => hb.block b (h.lt b e))
theorem Ya.keep (h : Ya w p S A) (hs : w.heap.size ≤ w'.heap.size) (hk : ∀ b, S b → w'.heap[b]? = w.heap[b]?) : Ya w' p S A := let ⟨_, _, d⟩ := h; ⟨_, _, d.keep hs hk⟩
theorem Ya.below (h : Ya w p S A) (hb : Below w.heap.size w w') : Ya w' p S A := let ⟨_, _, d⟩ := h; ⟨_, _, d.below hb⟩
theorem Ya.outside (h : Ya w p S A) {P : Nat → Prop} (hm : Mods P w w') (hP : ∀ b, P b → ¬ S b) : Ya w' p S A := let ⟨_, _, d⟩ := h; ⟨_, _, d.keep hm.size (fun b e => hm.block b (d.lt b e) (fun e2 => hP b e2 e))⟩
theorem Ya.lt (h : Ya w p S A) : ∀ b, S b → b < w.heap.size := let ⟨_, _, d⟩ := h; d.lt
theorem YaAt.place (h : YaAt w p S A ad vl) {i : Nat} (hi : i < A.row.length) : ∃ g c, vl = .slice (some ⟨g, 0, none⟩) A.row.length c ∧ w.cell? ⟨g, i, none⟩ = some (pv (ad (A.row.getD i default).num)) := by
  obtain ⟨g, c, e, _, _, _, _, hc, hf⟩ := owns_cells h.row (by omega)
  exact ⟨g, c, e, hc i _ (ptrs_get ad hi)⟩
theorem YaAt.slice (h : YaAt w p S A ad vl) : ∃ a c, vl = .slice a A.row.length c := owns_slice h.row
theorem YaAt.entry (h : YaAt w p S A ad vl) {e : Ec} (he : e ∈ A.row) : w.cell? ⟨ad e.num, 0, none⟩ = some (.int .i64 e.num) ∧ w.cell? ⟨ad e.num, 2, none⟩ = some (.bool e.dirty) ∧ w.cell? ⟨ad e.num, 3, none⟩ = some (.int .i64 e.pins) ∧ ∀ j, w.frozen? ⟨ad e.num, j, none⟩ = false := by
  obtain ⟨vd, h1, _⟩ := h.ent e he
  exact ⟨cell_of h1 rfl, cell_of h1 rfl, cell_of h1 rfl, fun j => froz_of h1 j⟩
def atV (A : Cs) (ad : Int → Nat) (k : Int) : Value := if k ∈ nums A.row then pv (ad k) else .pointer none
set_option maxRecDepth 100000 in
set_option maxHeartbeats 1000000 in
theorem yAt_any (h : YaAt w p S A ad vl) (k : Int) :
    Calls Try.prog 42 #[pv p, .int .i64 k] w fun e w' => e = .returned (atV A ad k) ∧ w' = w := by
  obtain ⟨c0, c1⟩ := h.cells
  obtain ⟨a, c, rfl⟩ := h.slice
  have HC : Hid (∀ j, j < A.row.length → ∃ g, a = some ⟨g, 0, none⟩ ∧ w.cell? ⟨g, j, none⟩ = some (pv (ad (A.row.getD j default).num)) ∧ w.cell? ⟨ad (A.row.getD j default).num, 0, none⟩ = some (.int .i64 (A.row.getD j default).num)) := hid (fun j hj => by
    obtain ⟨g, c', e, hc⟩ := h.place hj
    simp only [Value.slice.injEq] at e
    exact ⟨g, e.1, hc, (h.entry (getD_memE hj)).1⟩)
  have hlen : A.row.length ≤ 1024 := Nat.le_trans h.len h.hn
  have HNO : Hid ((∀ j, j < A.row.length → (A.row.getD j default).num ≠ k) → atV A ad k = .pointer none) := hid (fun hh => by
    unfold atV
    rw [if_neg]
    intro hm
    obtain ⟨h1, h2, _⟩ := pos_spec hm
    exact hh _ h1 h2)
  have HYE : Hid (∀ j, j < A.row.length → (A.row.getD j default).num = k → atV A ad k = pv (ad (A.row.getD j default).num)) := hid (fun j hj e => by
    unfold atV
    rw [if_pos (by rw [← e]; exact List.mem_map.2 ⟨_, getD_memE hj, rfl⟩), e])
  clear h
  generalize atV A ad k = res at *
  generalize A.row.length = len at *
  go_enter Try.func42, Try.ntmps42
  go_wp2
  go_loopw [5] (fun z wr => ∃ j : Nat, j ≤ len ∧ z = .int .i64 j ∧ wr = w ∧ ∀ i, i < j → (A.row.getD i default).num ≠ k) (fun z _ => len - (RowKit.intOf z).toNat)
  case atStart => exact ⟨0, Nat.zero_le _, rfl, rfl, fun i hi => by omega⟩
  case round =>
    obtain ⟨j, hj, rfl, hww, hno⟩ := hrel
    subst hww
    have HN := hid hno
    clear hno
    by_cases hlt : j < len
    · have hki : (j : Int) < len := by omega
      obtain ⟨g, ha, hc, hc0⟩ := HC.out j hlt
      subst ha
      by_cases e : (A.row.getD j default).num = k
      · have HRS := hid (HYE.out j hlt e)
        rw [e] at hc hc0 HRS
        clear e HYE
        generalize ad k = y at *
        go_wp2
        go_ret
        exact ⟨by rw [HRS.out]; rfl, rfl⟩
      · have HE := hid e
        generalize hnn : (A.row.getD j default).num = nn at *
        generalize ad nn = y at *
        have HNN := hid hnn
        clear hnn
        go_wp2
        go_roundw
        case rel => exact ⟨j + 1, by omega, by go_num, by first | trivial | rfl, fun i hi => by
          rcases Nat.lt_succ_iff_lt_or_eq.1 hi with h1 | h1
          · exact HN.out i h1
          · rw [h1, HNN.out]; exact HE.out⟩
        case measure => simp [RowKit.intOf]; omega
    · have hki : ¬ ((j : Int) < len) := by omega
      obtain rfl : j = len := by omega
      go_wp2
      go_ret
      exact ⟨by rw [HNO.out HN.out]; rfl, rfl⟩
/-- The row without the one whose block is b. -/
def wob (ad : Int → Nat) (l : List Ec) (b : Nat) : List Ec := l.filter fun e => decide (ad e.num ≠ b)
theorem wob_take {ad : Int → Nat} {l : List Ec} {b j : Nat} (h : j < l.length) : wob ad (l.take (j + 1)) b = if ad (l.getD j default).num = b then wob ad (l.take j) b else wob ad (l.take j) b ++ [l.getD j default] := by
  unfold wob
  rw [List.take_succ_eq_append_getElem h, List.filter_append]
  simp only [List.getD, List.getElem?_eq_getElem h, Option.getD_some]
  split
  · rename_i e; simp [e]
  · rename_i e; simp [e]
theorem wob_len (ad : Int → Nat) (l : List Ec) (b : Nat) : (wob ad l b).length ≤ l.length := List.length_filter_le _ _
theorem YaAt.wob_eq (h : YaAt w p S A ad vl) {k : Int} (hk : k ∈ nums A.row) : wob ad A.row (ad k) = wo A.row k := by
  obtain ⟨h1, h2⟩ := atL_mem hk
  unfold wob wo
  apply List.filter_congr
  intro e he
  have : (ad e.num = ad k) ↔ e.num = k := ⟨fun e1 => by
    have := h.inj he h1 (by rw [e1]; exact congrArg ad h2.symm)
    rw [h2] at this
    exact this, fun e1 => by rw [e1]⟩
  simp [this]
theorem YaAt.wob_no (h : YaAt w p S A ad vl) {b : Nat} (hb : ¬ S b) : wob ad A.row b = A.row := by
  unfold wob
  rw [List.filter_eq_self]
  intro e he
  simp
  intro e1
  obtain ⟨_, _, h2, _⟩ := h.ent e he
  exact hb (by rw [← e1]; exact h2)
/-- The row is another one of the same entries. -/
theorem YaAt.toRow (h : YaAt w p S A ad vl) {w2 : World} {A' : Cs} {v' : Value} {P : Nat → Prop} (hA : A'.n = A.n) (hb : w2.heap[p]? = some (.cells #[.int .i64 A.n, v'] 56 (0, 0)))
    (hr : w2.ownsRow 0 69 1 v' A'.row.length (ptrs ad A'.row)) (hm : Mods P w w2) (hP : ∀ b, P b → b = p ∨ vl.ownBlock = some b) (hv : ∀ b, v'.ownBlock = some b → vl.ownBlock = some b ∨ w.heap.size ≤ b)
    (hsub : ∀ e, e ∈ A'.row → e ∈ A.row) (hnd : (nums A'.row).Nodup) (hl : A'.row.length ≤ A.n) : ∃ S', YaAt w2 p S' A' ad v' ∧ Kp S w S' w2 ∧ ∀ x, S x → S' x := by
  have hPS : ∀ b, P b → S b := fun b hb => by
    rcases hP b hb with rfl | e
    · exact h.sp
    · exact h.sr b e
  refine ⟨fun b => S b ∨ v'.ownBlock = some b, ⟨fun b hb2 => ?_, by rw [hA]; exact hb, .inl h.sp, hr, fun g hg => .inr hg, fun e he => ?_, hnd, by rw [hA]; exact h.hn, by rw [hA]; exact hl⟩, ⟨fun b hb2 => ?_, hm.weak (fun b e => .inl (hPS b e))⟩, fun _ e => .inl e⟩
  · rcases hb2 with e | e
    · exact Nat.lt_of_lt_of_le (h.lt b e) hm.size
    · exact (owns_lt hr e).1
  · have he' := hsub e he
    obtain ⟨vd, h1, h2, h3, h4, h5⟩ := h.ent e he'
    refine ⟨vd, (hm.block _ (h.lt _ h2) (fun e2 => ?_)).trans h1, .inl h2, owns_keep h3 (fun g hg => hm.block g (owns_lt h3 hg).1 (fun e2 => ?_)), fun g hg => .inl (h4 g hg), h5⟩
    · rcases hP _ e2 with e3 | e3
      · exact h.e_ne_p he' e3
      · exact h.e_ne_r he' e3 rfl
    · obtain ⟨cu, hk⟩ := owns_kind h3 hg
      rcases hP _ e2 with e3 | e3
      · rw [e3, h.box] at hk
        simp at hk
      · obtain ⟨cu', hk'⟩ := owns_kind h.row e3
        rw [hk'] at hk
        simp at hk
  · rcases hb2 with e | e
    · exact .inl e
    · exact (hv b e).imp (fun e => h.sr b e) id
set_option maxRecDepth 100000 in
set_option maxHeartbeats 2000000 in
theorem gone_any (h : YaAt w p S A ad vl) (b : Nat) (hb : ∃ cs t, w.heap[b]? = some (.cells cs t (0, 0))) :
    Calls Try.prog 46 #[pv p, pv b] w fun e w' => e = .returned undef ∧ ∃ v' S', YaAt w' p S' { A with row := wob ad A.row b } ad v' ∧ Kp S w S' w' ∧ (∀ x, S x → S' x) ∧ Mods (fun x => x = p) w w' := by
  obtain ⟨cb, tb, hbb⟩ := hb
  obtain ⟨c0, c1⟩ := h.cells
  obtain ⟨a, c, rfl⟩ := h.slice
  have HC : Hid (∀ j, j < A.row.length → ∃ g, a = some ⟨g, 0, none⟩ ∧ w.cell? ⟨g, j, none⟩ = some (pv (ad (A.row.getD j default).num)) ∧ ∃ cs t, w.heap[ad (A.row.getD j default).num]? = some (.cells cs t (0, 0))) := hid (fun j hj => by
    obtain ⟨g, c', e, hc⟩ := h.place hj
    simp only [Value.slice.injEq] at e
    obtain ⟨vd, h1, _⟩ := h.ent _ (getD_memE hj)
    exact ⟨g, e.1, hc, _, _, h1⟩)
  have hlen : A.row.length ≤ 1024 := Nat.le_trans h.len h.hn
  have HFIN : Hid (∀ w1 v, w1.ownsRow w.heap.size 69 1 v (wob ad A.row b).length (ptrs ad (wob ad A.row b)) → Below w.heap.size w w1 → w1.frozen? ⟨p, 1, none⟩ = false ∧ ∃ v' S', YaAt (w1.setCell ⟨p, 1, none⟩ v) p S' { A with row := wob ad A.row b } ad v' ∧ Kp S w S' (w1.setCell ⟨p, 1, none⟩ v) ∧ (∀ x, S x → S' x) ∧ Mods (fun x => x = p) w (w1.setCell ⟨p, 1, none⟩ v)) := hid (fun w1 v hr hbl => by
    have hbox : w1.heap[p]? = _ := (hbl.block p (h.lt p h.sp)).trans h.box
    have hm : Mods (fun x => x = p) w (w1.setCell ⟨p, 1, none⟩ v) := (Mods.of_below hbl).setCell p 1 v rfl
    have hvp : v.ownBlock ≠ some p := fun e => by have := (owns_lt hr e).2; have := h.lt p h.sp; omega
    refine ⟨froz_of hbox 1, v, ?_⟩
    obtain ⟨S', h1, h2, h3⟩ := h.toRow (A' := { A with row := wob ad A.row b }) (P := fun x => x = p) rfl (setc hbox 1 v) (owns_zero (owns_keep hr (fun g hg => ((Mods.refl (fun x => x = p) w1).setCell p 1 v rfl).block g (owns_lt hr hg).1 (fun e => hvp (by rw [← e]; exact hg))))) hm (fun b e => .inl e) (fun g hg => .inr (owns_lt hr hg).2) (fun e he => (List.mem_filter.1 he).1) (h.nd.sublist (List.Sublist.map _ List.filter_sublist)) (Nat.le_trans (wob_len _ _ _) h.len)
    exact ⟨S', h1, h2, h3, hm⟩)
  clear h
  obtain ⟨len, hln⟩ : ∃ len, len = A.row.length := ⟨_, rfl⟩
  rw [← hln] at hlen c1 HC
  have HLN := hid hln
  clear hln
  go_enter Try.func46, Try.ntmps46
  go_wp2
  go_loopw [4, 5] (fun v z wr => ∃ j : Nat, j ≤ len ∧ z = .int .i64 j ∧ wr.ownsRow w.heap.size 69 1 v (wob ad (A.row.take j) b).length (ptrs ad (wob ad (A.row.take j) b)) ∧ Below w.heap.size w wr) (fun _ z _ => len - (RowKit.intOf z).toNat)
  case atStart => exact ⟨0, Nat.zero_le _, rfl, ⟨rfl, .inl ⟨rfl, rfl⟩⟩, Below.refl _ _⟩
  case round =>
    obtain ⟨j, hj, rfl, hr, hbl⟩ := hrel
    have c1' := cell_later hbl c1
    by_cases hlt : j < len
    · have hki : (j : Int) < len := by omega
      obtain ⟨g, ha, hc, cs, t, hcs⟩ := HC.out j hlt
      subst ha
      replace hc := cell_later hbl hc
      have hcs' : wr.heap[ad (A.row.getD j default).num]? = some (.cells cs t (0, 0)) := (hbl.block _ (Array.getElem?_eq_some_iff.1 hcs).1).trans hcs
      have hbb' : wr.heap[b]? = some (.cells cb tb (0, 0)) := (hbl.block _ (Array.getElem?_eq_some_iff.1 hbb).1).trans hbb
      have HT := hid (wob_take (ad := ad) (l := A.row) (b := b) (j := j) (by rw [← HLN.out]; exact hlt))
      by_cases e : ad (A.row.getD j default).num = b
      · rw [e] at hc
        have heq := ptr_neq_same (tp := 69) Try.underlying69 infoY wr b
        have HT2 := hid (HT.out.trans (if_pos e))
        have HO := hid hr
        have HB := hid hbl
        obtain ⟨a5, c5, e5⟩ := owns_slice hr
        subst e5
        clear hr hbl hcs hcs' hbb' e HT
        go_wp2
        go_roundw
        case rel => exact ⟨j + 1, by omega, by go_num, by rw [HT2.out]; exact HO.out, HB.out⟩
        case measure => simp [RowKit.intOf]; omega
      · have hne := ptr_neq_other (tp := 69) Try.underlying69 infoY e hcs' hbb'
        have HT2 := hid (HT.out.trans (if_neg e))
        have hwl := wob_len ad (A.row.take j) b
        rw [List.length_take] at hwl
        have hb1 : Below wr.heap.size wr (wr.alloc (.cells #[pv (ad (A.row.getD j default).num)] 69)) := (Below.refl _ _).alloc (Nat.le_refl _) _
        have hs1 : (wr.alloc (.cells #[pv (ad (A.row.getD j default).num)] 69)).heap.size = wr.heap.size + 1 := by simp
        have hr1 := owns_zero (owns_keep hr (w' := wr.alloc (.cells #[pv (ad (A.row.getD j default).num)] 69)) (fun g hg => hb1.block g (owns_lt hr hg).1))
        obtain ⟨v', w2, hap, ho, hm, hob⟩ := app_gen (wr.alloc (.cells #[pv (ad (A.row.getD j default).num)] 69)) 54 54 69 _ 8 Try.underlying54 infoPYb rfl (by omega) _ (ptrs ad (wob ad (A.row.take j) b)) (wob ad (A.row.take j) b).length (ptrs_len _ _) hr1 ⟨wr.heap.size, 0, none⟩ 1 1 [pv (ad (A.row.getD j default).num)] rfl (cell_one_new wr _ _) (by simp [Value.oneCell']) (by omega)
        obtain ⟨a6, c6, e6⟩ := owns_slice ho
        have HO : Hid (w2.ownsRow w.heap.size 69 1 v' (wob ad (A.row.take (j + 1)) b).length (ptrs ad (wob ad (A.row.take (j + 1)) b))) := hid (by
          rw [HT2.out, ptrs_app, List.length_append]
          exact owns_base ho (fun g hg => by
            rcases hob with e | e
            · rw [e] at hg; exact (owns_lt hr hg).2
            · rw [e] at hg; simp at hg; have := hbl.size; omega))
        have HB := hid (((Mods.of_below hb1).tr (al := fun b => _) hm).to_below hbl hbl.size (fun g hg => (owns_lt hr hg).2))
        obtain ⟨a5, c5, e5⟩ := owns_slice hr
        subst e5 e6
        clear hr hbl hcs hcs' hbb' e HT hwl hb1 hs1 hr1 ho hm hob HT2
        generalize ad (A.row.getD j default).num = y at *
        generalize (wob ad (A.row.take j) b).length = l5 at *
        go_wp2_with (at_builtin; refine wpList_append_run rfl _ _ 54 rfl rfl rfl hap ?_)
        go_roundw
        case rel => exact ⟨j + 1, by omega, by go_num, HO.out, HB.out⟩
        case measure => simp [RowKit.intOf]; omega
    · have hki : ¬ ((j : Int) < len) := by omega
      obtain rfl : j = len := by omega
      have e1 : wob ad (A.row.take j) b = wob ad A.row b := by rw [HLN.out, List.take_length]
      rw [e1] at hr
      obtain ⟨f1, hS⟩ := HFIN.out _ _ hr hbl
      have HS := hid hS
      obtain ⟨a5, c5, e5⟩ := owns_slice hr
      subst e5
      clear hr hbl e1 hS
      generalize (wob ad A.row b).length = l5 at *
      go_wp2
      go_end0
      exact ⟨rfl, HS.out⟩
end
end Go.Proofs.Ytdfnfcimajomeaa
