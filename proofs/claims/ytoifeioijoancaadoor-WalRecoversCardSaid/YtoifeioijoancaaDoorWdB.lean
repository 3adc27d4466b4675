/- A log in memory; New, Open, Phase, Durable, Find. -/
import Derived.Test.YtoifeioijoancaaDoorWdA
namespace Go.Proofs.YtoifeioijoancaaDoor
open Go.RowKit Go.Maps
set_option linter.unusedVariables false

structure Lg where
  start : Int
  seq : Int
  dur : Int
  num : Int
  opn : List Pt
  cnum : Int
  cur : List Pt
  cseq : Int
  ph : Int
  told : Bool
  fly : Int
def lgC (A : Lg) (v1 v2 : Value) : Array Value := #[.int .i64 A.start, .int .u64 A.seq, .int .i64 A.dur, .int .i64 A.num, v1, .int .i64 A.cnum, v2, .int .u64 A.cseq, .int .i64 A.ph, .bool A.told, .int .i64 A.fly]
/-- What may stand in a group. -/
structure Fine (l : List Pt) : Prop where
  many : l.length ≤ 64
  ok : ∀ p ∈ l, 0 ≤ p.blk ∧ p.blk < 4294967296 ∧ p.dat.length = 512
  once : (l.map Pt.blk).Nodup
theorem Fine.nil : Fine [] := ⟨by simp, by simp, by simp⟩
theorem Fine.good {l : List Pt} (h : Fine l) (hp : 0 < l.length) : Good l := ⟨hp, h.many, h.ok, h.once⟩
theorem Good.fine {l : List Pt} (h : Good l) : Fine l := ⟨h.many, h.ok, h.once⟩
structure LoAt (w : World) (p : Nat) (S : Nat → Prop) (A : Lg) (v1 v2 : Value) (L1 L2 : List Pw) : Prop where
  box : w.heap[p]? = some (.cells (lgC A v1 v2) 110 (0, 0))
  own : S p
  lt : ∀ b, S b → b < w.heap.size
  o1 : PO w S v1 L1
  e1 : L1.map Pw.pt = A.opn
  o2 : PO w S v2 L2
  e2 : L2.map Pw.pt = A.cur
  sep : ∀ g, v1.ownBlock = some g → v2.ownBlock = some g → False
  f1 : Fine A.opn
  f2 : Fine A.cur
def Lo (w : World) (p : Nat) (S : Nat → Prop) (A : Lg) : Prop := ∃ v1 v2 L1 L2, LoAt w p S A v1 v2 L1 L2
section
variable {w w' : World} {p : Nat} {S : Nat → Prop} {A : Lg} {v1 v2 : Value} {L1 L2 : List Pw}
theorem LoAt.keep (h : LoAt w p S A v1 v2 L1 L2) (hs : w.heap.size ≤ w'.heap.size) (hk : ∀ b, S b → b < w.heap.size → w'.heap[b]? = w.heap[b]?) : LoAt w' p S A v1 v2 L1 L2 :=
  ⟨(hk p h.own (h.lt p h.own)).trans h.box, h.own, fun b hb => Nat.lt_of_lt_of_le (h.lt b hb) hs, h.o1.keep hk, h.e1, h.o2.keep hk, h.e2, h.sep, h.f1, h.f2⟩
theorem LoAt.later (h : LoAt w p S A v1 v2 L1 L2) (hb : Below w.heap.size w w') : LoAt w' p S A v1 v2 L1 L2 := h.keep hb.size fun b _ hl => hb.block b hl
theorem LoAt.mods {M : Nat → Prop} (h : LoAt w p S A v1 v2 L1 L2) (hm : Mods M w w') (hd : ∀ b, M b → S b → False) : LoAt w' p S A v1 v2 L1 L2 := h.keep hm.size fun b hb hl => hm.block b hl (fun e => hd b e hb)
theorem Lo.later (h : Lo w p S A) (hb : Below w.heap.size w w') : Lo w' p S A := let ⟨a, b, c, d, h⟩ := h; ⟨a, b, c, d, h.later hb⟩
theorem Lo.mods {M : Nat → Prop} (h : Lo w p S A) (hm : Mods M w w') (hd : ∀ b, M b → S b → False) : Lo w' p S A := let ⟨a, b, c, d, h⟩ := h; ⟨a, b, c, d, h.mods hm hd⟩
theorem Lo.lt (h : Lo w p S A) : ∀ b, S b → b < w.heap.size := let ⟨_, _, _, _, h⟩ := h; h.lt
theorem Lo.f1 (h : Lo w p S A) : Fine A.opn := let ⟨_, _, _, _, h⟩ := h; h.f1
theorem Lo.f2 (h : Lo w p S A) : Fine A.cur := let ⟨_, _, _, _, h⟩ := h; h.f2
theorem LoAt.cells (h : LoAt w p S A v1 v2 L1 L2) : w.cell? ⟨p, 0, none⟩ = some (.int .i64 A.start) ∧ w.cell? ⟨p, 1, none⟩ = some (.int .u64 A.seq) ∧ w.cell? ⟨p, 2, none⟩ = some (.int .i64 A.dur) ∧ w.cell? ⟨p, 3, none⟩ = some (.int .i64 A.num) ∧ w.cell? ⟨p, 4, none⟩ = some v1 ∧ w.cell? ⟨p, 5, none⟩ = some (.int .i64 A.cnum) ∧ w.cell? ⟨p, 6, none⟩ = some v2 ∧ w.cell? ⟨p, 7, none⟩ = some (.int .u64 A.cseq) ∧ w.cell? ⟨p, 8, none⟩ = some (.int .i64 A.ph) ∧ w.cell? ⟨p, 9, none⟩ = some (.bool A.told) ∧ w.cell? ⟨p, 10, none⟩ = some (.int .i64 A.fly) :=
  ⟨cell_of h.box rfl, cell_of h.box rfl, cell_of h.box rfl, cell_of h.box rfl, cell_of h.box rfl, cell_of h.box rfl, cell_of h.box rfl, cell_of h.box rfl, cell_of h.box rfl, cell_of h.box rfl, cell_of h.box rfl⟩
theorem LoAt.l1 (h : LoAt w p S A v1 v2 L1 L2) : L1.length = A.opn.length := by rw [← h.e1]; simp
theorem LoAt.l2 (h : LoAt w p S A v1 v2 L1 L2) : L2.length = A.cur.length := by rw [← h.e2]; simp
set_option maxRecDepth 100000 in
theorem Open_any (h : Lo w p S A) : Calls Tryd.prog 22 #[.pointer (some ⟨p, 0, none⟩)] w fun e w' => e = .returned (.int .i64 A.opn.length) ∧ w' = w := by
  obtain ⟨v1, v2, L1, L2, h⟩ := h
  obtain ⟨c0, c1, c2, c3, c4, c5, c6, c7, c8, c9, c10⟩ := h.cells
  obtain ⟨a1, k1, e, _, _⟩ := h.o1.ps
  subst e
  rw [← h.l1]
  generalize L1.length = n at *
  clear h
  go_enter Tryd.func22, Tryd.ntmps22
  go_wp2
  go_ret
  exact ⟨rfl, rfl⟩
set_option maxRecDepth 100000 in
theorem Phase_any (h : Lo w p S A) : Calls Tryd.prog 20 #[.pointer (some ⟨p, 0, none⟩)] w fun e w' => e = .returned (.int .i64 A.ph) ∧ w' = w := by
  obtain ⟨v1, v2, L1, L2, h⟩ := h
  obtain ⟨c0, c1, c2, c3, c4, c5, c6, c7, c8, c9, c10⟩ := h.cells
  clear h
  go_enter Tryd.func20, Tryd.ntmps20
  go_wp2
  go_ret
  exact ⟨rfl, rfl⟩
set_option maxRecDepth 100000 in
theorem Durable_any (h : Lo w p S A) : Calls Tryd.prog 21 #[.pointer (some ⟨p, 0, none⟩)] w fun e w' => e = .returned (.int .i64 A.dur) ∧ w' = w := by
  obtain ⟨v1, v2, L1, L2, h⟩ := h
  obtain ⟨c0, c1, c2, c3, c4, c5, c6, c7, c8, c9, c10⟩ := h.cells
  clear h
  go_enter Tryd.func21, Tryd.ntmps21
  go_wp2
  go_ret
  exact ⟨rfl, rfl⟩
def findG (A : Lg) (b : Int) : Option (List Int) := match findP A.opn b with | some d => some d | none => findP A.cur b
set_option maxRecDepth 100000 in
set_option maxHeartbeats 1000000 in
theorem Find_any (h : Lo w p S A) (b : Int) :
    Calls Tryd.prog 23 #[.pointer (some ⟨p, 0, none⟩), .int .i64 b] w fun e w' => ((findG A b = none ∧ e = .returned (.tuple #[.slice none 0 0, .bool false])) ∨ ∃ d a' c', findG A b = some d ∧ e = .returned (.tuple #[.slice a' 512 c', .bool true]) ∧ d.length = 512 ∧ By w' (New w) a' d ∧ 512 ≤ c' ∧ w'.ownsRow w.heap.size 5 1 (.slice a' 512 c') 512 (u8s d)) ∧ Below w.heap.size w w' := by
  obtain ⟨v1, v2, L1, L2, h⟩ := h
  obtain ⟨c0, c1, c2, c3, c4, c5, c6, c7, c8, c9, c10⟩ := h.cells
  obtain ⟨a1, k1, e1, _, hp1⟩ := h.o1.ps
  obtain ⟨a2, k2, e2, _, hp2⟩ := h.o2.ps
  have hl1 : L1.length ≤ 64 := by rw [h.l1]; exact h.f1.many
  have hl2 : L2.length ≤ 64 := by rw [h.l2]; exact h.f2.many
  have HF1 := hid (find_any w S p 3 a1 k1 L1 b (by rw [← e1]; exact c4) hp1 (by omega) (fun q hq => (h.f1.ok q.pt (by rw [← h.e1]; exact List.mem_map_of_mem hq)).2.2))
  have HF2 : Hid (∀ w1, Below w.heap.size w w1 → _) := hid (fun w1 (hb : Below w.heap.size w w1) => find_any w1 S p 5 a2 k2 L2 b (by rw [← e2]; exact cell_later hb c6) (hp2.later hb) (by omega) (fun q hq => (h.f2.ok q.pt (by rw [← h.e2]; exact List.mem_map_of_mem hq)).2.2))
  rw [h.e1] at HF1
  rw [h.e2] at HF2
  clear h c0 c1 c2 c3 c4 c5 c6 c7 c8 c9 c10 hp1 hp2 e1 e2
  obtain ⟨R, hR⟩ : ∃ R, R = findG A b := ⟨_, rfl⟩
  rw [← hR]
  have HR := hid hR
  clear hR
  go_enter Tryd.func23, Tryd.ntmps23
  go_wp2_with fail
  refine HF1.out.mono ?_
  rintro e w1 ⟨h1 | ⟨d, a', c', h1, h2, h3, h4, h5, h6⟩, hb1⟩
  · obtain ⟨hn1, rfl⟩ := h1
    have HN1 := hid hn1
    have HB1 := hid hb1
    have HC2 := hid (HF2.out w1 hb1)
    clear hb1 hn1 HF2 HF1
    go_wp2_with fail
    refine HC2.out.mono ?_
    rintro e w2 ⟨h1 | ⟨d, a', c', h1, h2, h3, h4, h5, h6⟩, hb2⟩
    · obtain ⟨hn2, rfl⟩ := h1
      have HN2 := hid hn2
      have HB2 : Hid (Below w.heap.size w w2) := hid (HB1.out.trans (hb2.mono HB1.out.size))
      clear hb2 hn2
      go_wp2
      go_ret2
      exact ⟨.inl ⟨by rw [HR.out]; unfold findG; rw [HN1.out]; exact HN2.out, rfl⟩, HB2.out⟩
    · subst h2
      have H1 := hid h1
      have HB2 : Hid (Below w.heap.size w w2) := hid (HB1.out.trans (hb2.mono HB1.out.size))
      have H3 := hid h3
      have H4 := hid (h4.weak (S' := New w) (fun x hx _ => Nat.le_trans HB1.out.size hx))
      have H5 := hid h5
      have H6 := hid (owns_base (base' := w.heap.size) h6 (fun g hg => Nat.le_trans HB1.out.size (owns_lt h6 hg).2))
      clear hb2 h1 h3 h4 h5 h6
      go_wp2
      go_ret2
      exact ⟨.inr ⟨d, a', c', by rw [HR.out]; unfold findG; rw [HN1.out]; exact H1.out, rfl, H3.out, H4.out, H5.out, H6.out⟩, HB2.out⟩
  · subst h2
    have H1 := hid h1
    have HB1 := hid hb1
    have H3 := hid h3
    have H4 := hid h4
    have H5 := hid h5
    have H6 := hid h6
    clear hb1 h1 h3 h4 h5 h6
    go_wp2
    go_ret2
    exact ⟨.inr ⟨d, a', c', by rw [HR.out]; unfold findG; rw [H1.out], rfl, H3.out, H4.out, H5.out, H6.out⟩, HB1.out⟩
end
def newG (start seq : Int) : Lg := ⟨start, seq, 0, 1, [], 0, [], 0, 0, false, 0⟩
set_option maxRecDepth 100000 in
set_option maxHeartbeats 1000000 in
theorem New_ok (w : World) (start seq : Int) (h : 0 ≤ start) :
    Calls Tryd.prog 17 #[.int .i64 start, .int .u64 seq] w fun e w' => e = .returned (.tuple #[.pointer (some ⟨w.heap.size, 0, none⟩), .int .i64 0]) ∧ Lo w' w.heap.size (fun b => b = w.heap.size) (newG start seq) ∧ Below w.heap.size w w' := by
  obtain ⟨W1, hW1⟩ : ∃ W1, W1 = w.alloc (.cells (lgC (newG start seq) (.slice none 0 0) (.slice none 0 0)) 110) := ⟨_, rfl⟩
  have HB1 : Hid (Below w.heap.size w W1) := hid (by rw [hW1]; exact (Below.refl _ _).alloc (Nat.le_refl _) _)
  have HLO : Hid (Lo W1 w.heap.size (fun b => b = w.heap.size) (newG start seq)) := hid (by
    refine ⟨_, _, [], [], ⟨by rw [hW1]; exact alloc_new w _, rfl, fun b hb => by rw [hb, hW1]; simp, PO.nil _ _, rfl, PO.nil _ _, rfl, fun g h1 => by simp [Value.ownBlock] at h1, Fine.nil, Fine.nil⟩⟩)
  have hWW : W1 = w.alloc (.cells #[.int .i64 start, .int .u64 seq, .int .i64 0, .int .i64 1, .slice none 0 0, .int .i64 0, .slice none 0 0, .int .u64 0, .int .i64 0, .bool false, .int .i64 0] 110) := hW1
  clear hW1
  go_enter Tryd.func17, Tryd.ntmps17
  go_wp2_with (rw [← hWW])
  go_ret2
  exact ⟨rfl, HLO.out, HB1.out⟩
theorem New_no (w : World) (start seq : Int) (h : start < 0) :
    Calls Tryd.prog 17 #[.int .i64 start, .int .u64 seq] w fun e w' => e = .returned (.tuple #[.pointer none, .int .i64 1]) ∧ w' = w := by
  go_enter Tryd.func17, Tryd.ntmps17
  go_wp2
  go_ret2
  exact ⟨rfl, rfl⟩
end Go.Proofs.YtoifeioijoancaaDoor
