/- vnet: a card and a port over one memory, and who owns which block. -/
import Derived.Test.YtpmbknlafeljlaaNetF
namespace Go.Proofs.Ytpmbknlafeljlaa
open Go.RowKit

structure Nh where
  g : Nat
  base : Nat
  n : Nat
  N : Nat
  pc : Nat
  pp : Nat
  di : Nat
  dq : Nat
  vi : Nat
  vo : Nat
  p2 : pow2 n = true
  fit : base + (2 * (8 + 26 * n) + 2 * n * 1528) ≤ N
  big : N ≤ 1099511627776
theorem Nh.bd (H : Nh) : 1 ≤ H.n ∧ H.n ≤ 256 := by have := pow2_bd H.p2; omega
abbrev Nh.qi (H : Nh) : Qu := ⟨H.g, H.base, H.n, H.N, H.base + 16 * H.n, H.base + 18 * H.n + 4, 16 * H.n, 4 + 2 * H.n, 4 + 8 * H.n, ⟨H.bd.1, H.bd.2, rfl, rfl, rfl, rfl, rfl, by have := H.fit; omega, H.big⟩⟩
abbrev Nh.qo (H : Nh) : Qu := ⟨H.g, H.base + (8 + 26 * H.n), H.n, H.N, H.base + (8 + 26 * H.n) + 16 * H.n, H.base + (8 + 26 * H.n) + 18 * H.n + 4, 16 * H.n, 4 + 2 * H.n, 4 + 8 * H.n, ⟨H.bd.1, H.bd.2, rfl, rfl, rfl, rfl, rfl, by have := H.fit; omega, H.big⟩⟩
/-- Where the places begin. -/
def Nh.fi (H : Nh) : Nat := H.base + 2 * (8 + 26 * H.n)
def Nh.fo (H : Nh) : Nat := H.base + 2 * (8 + 26 * H.n) + H.n * 1528
theorem Nh.fi_fit (H : Nh) (p : Nat) (hp : p < H.n) : H.fi + p * 1528 + 1526 ≤ H.N := by
  have := H.fit; unfold Nh.fi; have : p * 1528 + 1528 ≤ H.n * 1528 := by omega
  omega
theorem Nh.fo_fit (H : Nh) (p : Nat) (hp : p < H.n) : H.fo + p * 1528 + 1526 ≤ H.N := by
  have := H.fit; unfold Nh.fo; have : p * 1528 + 1528 ≤ H.n * 1528 := by omega
  omega
structure Ns where
  f : Nat → Int
  Ai : Abs
  Ao : Abs
  oi : Nat
  ui : Nat
  oo : Nat
  uo : Nat
def Ns.i (S : Ns) : Sd := ⟨S.Ai, S.f, S.oi, S.ui⟩
def Ns.o (S : Ns) : Sd := ⟨S.Ao, S.f, S.oo, S.uo⟩
def Ns.setI (S : Ns) (T : Sd) : Ns := ⟨T.f, T.A, S.Ao, T.o, T.u, S.oo, S.uo⟩
def Ns.setO (S : Ns) (T : Sd) : Ns := ⟨T.f, S.Ai, T.A, S.oi, S.ui, T.o, T.u⟩
def memV (H : Nh) : Value := .slice (some ⟨H.g, 0, none⟩) H.N H.N
def cardC (H : Nh) : Array Value := #[.pointer (some ⟨H.di, 0, none⟩), memV H, .int .i64 H.fi, .pointer (some ⟨H.dq, 0, none⟩), memV H, .int .i64 H.fo]
def portC (H : Nh) : Array Value := #[.pointer (some ⟨H.vi, 0, none⟩), memV H, .pointer (some ⟨H.vo, 0, none⟩), memV H]
structure Net (w : World) (lab : Nat → Nat) (H : Nh) (S : Ns) (c : Nat) : Prop where
  lt : ∀ b, lab b ≠ 0 → b < w.heap.size
  di : Drv w H.di H.qi S.Ai c (fun b => lab b = 1)
  dq : Drv w H.dq H.qo S.Ao c (fun b => lab b = 2)
  vi : Dev w H.vi H.qi S.oi S.ui
  vo : Dev w H.vo H.qo S.oo S.uo
  mem : Mem w H.g H.N S.f
  card : w.heap[H.pc]? = some (.cells (cardC H) 51 (0, 0))
  port : w.heap[H.pp]? = some (.cells (portC H) 58 (0, 0))
  l3 : lab H.vi = 3
  l4 : lab H.vo = 4
  l5 : lab H.g = 5
  l6 : lab H.pc = 6
  l7 : lab H.pp = 7
  oi : One S.Ai
  oo : One S.Ao
/-- What a call of the net leaves alone. -/
def Keep (lab : Nat → Nat) (w : World) (lab' : Nat → Nat) (w' : World) : Prop := (∀ b, b < w.heap.size → lab' b = lab b) ∧ Mods (fun b => lab b ≠ 0) w w'
theorem Keep.refl (lab : Nat → Nat) (w : World) : Keep lab w lab w := ⟨fun _ _ => rfl, Mods.refl _ _⟩
theorem Keep.trans {lab lab' lab'' : Nat → Nat} {w w' w'' : World} (h : Keep lab w lab' w') (h' : Keep lab' w' lab'' w'') : Keep lab w lab'' w'' :=
  ⟨fun b hb => (h'.1 b (Nat.lt_of_lt_of_le hb h.2.size)).trans (h.1 b hb), h.2.trans h'.2 (fun b hb => by
    by_cases h3 : b < w.heap.size
    · exact .inl (by rw [← h.1 b h3]; exact hb)
    · exact .inr (by omega))⟩
theorem Keep.size {lab lab' : Nat → Nat} {w w' : World} (h : Keep lab w lab' w') : w.heap.size ≤ w'.heap.size := h.2.size
theorem Keep.block {lab lab' : Nat → Nat} {w w' : World} (h : Keep lab w lab' w') {b : Nat} (hb : b < w.heap.size) (h0 : lab b = 0) : w'.heap[b]? = w.heap[b]? := h.2.block b hb (fun e => e h0)
theorem Keep.below {lab : Nat → Nat} {w w' : World} (h : Below w.heap.size w w') : Keep lab w lab w' := ⟨fun _ _ => rfl, Mods.of_below h⟩
theorem Drv.up {w : World} {pd : Nat} {q : Qu} {A : Abs} {c c' : Nat} {al al' : Nat → Prop} (h : Drv w pd q A c al) (h1 : ∀ b, al b → al' b) (h2 : ∀ b, al' b → b < w.heap.size) (h3 : ¬ al' q.g) (hc : c ≤ c') : Drv w pd q A c' al' := by
  obtain ⟨vf, bm, M, d⟩ := h
  exact ⟨vf, bm, M, h2, d.box, h1 _ d.apd, h1 _ d.abm, d.fr, fun g hg => h1 _ (d.afr g hg), d.mp.mono hc, fun k hk => (d.ch k hk).imp id (fun ⟨v, l, e1, e2, e3, e4⟩ => ⟨v, l, e1, e2, e3, fun g hg => ⟨h1 _ (e4 g hg).1, (e4 g hg).2⟩⟩), h3, d.wf⟩
open Classical in
noncomputable def relab (w : World) (lab : Nat → Nat) (al' : Nat → Prop) (k b : Nat) : Nat := if b < w.heap.size then lab b else if al' b then k else 0
section
variable {w w' : World} {lab : Nat → Nat} {H : Nh} {S : Ns} {c : Nat}
theorem relab_old {al' : Nat → Prop} {k b : Nat} (h : b < w.heap.size) : relab w lab al' k b = lab b := by unfold relab; rw [if_pos h]
theorem relab_new {al' : Nat → Prop} {k b : Nat} (h : w.heap.size ≤ b) (hb : relab w lab al' k b ≠ 0) : al' b := by
  unfold relab at hb
  rw [if_neg (by omega)] at hb
  split at hb
  · assumption
  · exact absurd rfl hb
theorem relab_yes {al' : Nat → Prop} {k b : Nat} (h : w.heap.size ≤ b) (hb : al' b) : relab w lab al' k b = k := by
  unfold relab
  rw [if_neg (by omega), if_pos hb]
theorem relab_kk {al' : Nat → Prop} {k b : Nat} (h : w.heap.size ≤ b) : relab w lab al' k b = k ∨ relab w lab al' k b = 0 := by
  unfold relab
  rw [if_neg (by omega)]
  split
  · exact .inl rfl
  · exact .inr rfl
theorem Net.pcl (h : Net w lab H S c) : H.pc < w.heap.size := h.lt _ (by rw [h.l6]; omega)
theorem Net.ppl (h : Net w lab H S c) : H.pp < w.heap.size := h.lt _ (by rw [h.l7]; omega)
theorem Net.wfi (h : Net w lab H S c) : Wf H.n S.Ai := let ⟨_, _, _, d⟩ := h.di; d.wf
theorem Net.wfo (h : Net w lab H S c) : Wf H.n S.Ao := let ⟨_, _, _, d⟩ := h.dq; d.wf
theorem Net.oki (h : Net w lab H S c) : Ok H.qi S.i := ⟨h.mem.2, h.vi.2.1, h.vi.2.2.1, h.wfi⟩
theorem Net.oko (h : Net w lab H S c) : Ok H.qo S.o := ⟨h.mem.2, h.vo.2.1, h.vo.2.2.1, h.wfo⟩
theorem Net.toDI (h : Net w lab H S c) {A' : Abs} {f' : Nat → Int} {c' : Nat} (hs : Step w w' H.di H.qi A' c' (fun b => lab b = 1)) (hm : Mem w' H.g H.N f') (hc : c ≤ c') (h1 : One A') :
    ∃ lab', Net w' lab' H { S with Ai := A', f := f' } c' ∧ Keep lab w lab' w' ∧ ∀ b, w.heap.size ≤ b → lab' b = 1 ∨ lab' b = 0 := by
  obtain ⟨al', hd, ha, hmo⟩ := hs
  have hP : ∀ b, (lab b = 1 ∨ b = H.g) → lab b = 1 ∨ lab b = 5 := fun b e => e.imp id (fun e => by rw [e]; exact h.l5)
  have hsz := hmo.size
  have old : ∀ {b k}, lab b = k → k ≠ 0 → relab w lab al' 1 b = k := fun {b k} e hk => by rw [relab_old (h.lt b (by omega))]; exact e
  have kp : ∀ b, lab b ≠ 0 → lab b ≠ 1 → lab b ≠ 5 → w'.heap[b]? = w.heap[b]? := fun b e1 e2 e3 => hmo.block b (h.lt b e1) (fun e => by have := hP b e; omega)
  have hlt : ∀ b, relab w lab al' 1 b ≠ 0 → b < w'.heap.size := fun b hb => by
    by_cases e : b < w.heap.size
    · omega
    · exact hd.lt b (relab_new (by omega) hb)
  refine ⟨relab w lab al' 1, ⟨hlt, ?_, ?_, ?_, ?_, hm, (kp _ (by rw [h.l6]; omega) (by rw [h.l6]; omega) (by rw [h.l6]; omega)).trans h.card, (kp _ (by rw [h.l7]; omega) (by rw [h.l7]; omega) (by rw [h.l7]; omega)).trans h.port, old h.l3 (by omega), old h.l4 (by omega), old h.l5 (by omega), old h.l6 (by omega), old h.l7 (by omega), h1, h.oo⟩, ⟨fun b hb => relab_old hb, hmo.weak (fun b e => .inl (by have := hP b e; omega))⟩, fun b hb => relab_kk hb⟩
  · refine hd.up (fun b hb => ?_) (fun b hb => hlt b (by rw [hb]; omega)) (by show ¬ _ = 1; rw [old h.l5 (by omega)]; omega) (Nat.le_refl _)
    rcases ha b hb with e | e
    · exact old e (by omega)
    · exact relab_yes e hb
  · refine (h.dq.mods hmo (fun b e1 e2 => by have := hP b e2; omega)).up (fun b hb => old hb (by omega)) (fun b hb => hlt b (by rw [hb]; omega)) (by show ¬ _ = 2; rw [old h.l5 (by omega)]; omega) hc
  · exact h.vi.keep (kp _ (by rw [h.l3]; omega) (by rw [h.l3]; omega) (by rw [h.l3]; omega))
  · exact h.vo.keep (kp _ (by rw [h.l4]; omega) (by rw [h.l4]; omega) (by rw [h.l4]; omega))
theorem Net.toDO (h : Net w lab H S c) {A' : Abs} {f' : Nat → Int} {c' : Nat} (hs : Step w w' H.dq H.qo A' c' (fun b => lab b = 2)) (hm : Mem w' H.g H.N f') (hc : c ≤ c') (h1 : One A') :
    ∃ lab', Net w' lab' H { S with Ao := A', f := f' } c' ∧ Keep lab w lab' w' ∧ ∀ b, w.heap.size ≤ b → lab' b = 2 ∨ lab' b = 0 := by
  obtain ⟨al', hd, ha, hmo⟩ := hs
  have hP : ∀ b, (lab b = 2 ∨ b = H.g) → lab b = 2 ∨ lab b = 5 := fun b e => e.imp id (fun e => by rw [e]; exact h.l5)
  have hsz := hmo.size
  have old : ∀ {b k}, lab b = k → k ≠ 0 → relab w lab al' 2 b = k := fun {b k} e hk => by rw [relab_old (h.lt b (by omega))]; exact e
  have kp : ∀ b, lab b ≠ 0 → lab b ≠ 2 → lab b ≠ 5 → w'.heap[b]? = w.heap[b]? := fun b e1 e2 e3 => hmo.block b (h.lt b e1) (fun e => by have := hP b e; omega)
  have hlt : ∀ b, relab w lab al' 2 b ≠ 0 → b < w'.heap.size := fun b hb => by
    by_cases e : b < w.heap.size
    · omega
    · exact hd.lt b (relab_new (by omega) hb)
  refine ⟨relab w lab al' 2, ⟨hlt, ?_, ?_, ?_, ?_, hm, (kp _ (by rw [h.l6]; omega) (by rw [h.l6]; omega) (by rw [h.l6]; omega)).trans h.card, (kp _ (by rw [h.l7]; omega) (by rw [h.l7]; omega) (by rw [h.l7]; omega)).trans h.port, old h.l3 (by omega), old h.l4 (by omega), old h.l5 (by omega), old h.l6 (by omega), old h.l7 (by omega), h.oi, h1⟩, ⟨fun b hb => relab_old hb, hmo.weak (fun b e => .inl (by have := hP b e; omega))⟩, fun b hb => relab_kk hb⟩
  · refine (h.di.mods hmo (fun b e1 e2 => by have := hP b e2; omega)).up (fun b hb => old hb (by omega)) (fun b hb => hlt b (by rw [hb]; omega)) (by show ¬ _ = 1; rw [old h.l5 (by omega)]; omega) hc
  · refine hd.up (fun b hb => ?_) (fun b hb => hlt b (by rw [hb]; omega)) (by show ¬ _ = 2; rw [old h.l5 (by omega)]; omega) (Nat.le_refl _)
    rcases ha b hb with e | e
    · exact old e (by omega)
    · exact relab_yes e hb
  · exact h.vi.keep (kp _ (by rw [h.l3]; omega) (by rw [h.l3]; omega) (by rw [h.l3]; omega))
  · exact h.vo.keep (kp _ (by rw [h.l4]; omega) (by rw [h.l4]; omega) (by rw [h.l4]; omega))
theorem Net.toVI (h : Net w lab H S c) {f' : Nat → Int} {o' u' : Nat} (hd : Dev w' H.vi H.qi o' u') (hm : Mem w' H.g H.N f') (hmo : Mods (fun b => b = H.vi ∨ b = H.g) w w') :
    Net w' lab H { S with oi := o', ui := u', f := f' } c ∧ Keep lab w lab w' := by
  have hP : ∀ b, (b = H.vi ∨ b = H.g) → lab b = 3 ∨ lab b = 5 := fun b e => e.imp (fun e => by rw [e]; exact h.l3) (fun e => by rw [e]; exact h.l5)
  have kp : ∀ b, lab b ≠ 0 → lab b ≠ 3 → lab b ≠ 5 → w'.heap[b]? = w.heap[b]? := fun b e1 e2 e3 => hmo.block b (h.lt b e1) (fun e => by have := hP b e; omega)
  refine ⟨⟨fun b hb => Nat.lt_of_lt_of_le (h.lt b hb) hmo.size, h.di.mods hmo (fun b e1 e2 => by have := hP b e2; omega), h.dq.mods hmo (fun b e1 e2 => by have := hP b e2; omega), hd, h.vo.keep (kp _ (by rw [h.l4]; omega) (by rw [h.l4]; omega) (by rw [h.l4]; omega)), hm, (kp _ (by rw [h.l6]; omega) (by rw [h.l6]; omega) (by rw [h.l6]; omega)).trans h.card, (kp _ (by rw [h.l7]; omega) (by rw [h.l7]; omega) (by rw [h.l7]; omega)).trans h.port, h.l3, h.l4, h.l5, h.l6, h.l7, h.oi, h.oo⟩, fun _ _ => rfl, hmo.weak (fun b e => .inl (by have := hP b e; omega))⟩
theorem Net.toVO (h : Net w lab H S c) {f' : Nat → Int} {o' u' : Nat} (hd : Dev w' H.vo H.qo o' u') (hm : Mem w' H.g H.N f') (hmo : Mods (fun b => b = H.vo ∨ b = H.g) w w') :
    Net w' lab H { S with oo := o', uo := u', f := f' } c ∧ Keep lab w lab w' := by
  have hP : ∀ b, (b = H.vo ∨ b = H.g) → lab b = 4 ∨ lab b = 5 := fun b e => e.imp (fun e => by rw [e]; exact h.l4) (fun e => by rw [e]; exact h.l5)
  have kp : ∀ b, lab b ≠ 0 → lab b ≠ 4 → lab b ≠ 5 → w'.heap[b]? = w.heap[b]? := fun b e1 e2 e3 => hmo.block b (h.lt b e1) (fun e => by have := hP b e; omega)
  refine ⟨⟨fun b hb => Nat.lt_of_lt_of_le (h.lt b hb) hmo.size, h.di.mods hmo (fun b e1 e2 => by have := hP b e2; omega), h.dq.mods hmo (fun b e1 e2 => by have := hP b e2; omega), h.vi.keep (kp _ (by rw [h.l3]; omega) (by rw [h.l3]; omega) (by rw [h.l3]; omega)), hd, hm, (kp _ (by rw [h.l6]; omega) (by rw [h.l6]; omega) (by rw [h.l6]; omega)).trans h.card, (kp _ (by rw [h.l7]; omega) (by rw [h.l7]; omega) (by rw [h.l7]; omega)).trans h.port, h.l3, h.l4, h.l5, h.l6, h.l7, h.oi, h.oo⟩, fun _ _ => rfl, hmo.weak (fun b e => .inl (by have := hP b e; omega))⟩
theorem Net.below (h : Net w lab H S c) (hb : Below w.heap.size w w') : Net w' lab H S c :=
  have kp : ∀ b, lab b ≠ 0 → w'.heap[b]? = w.heap[b]? := fun b e => hb.block b (h.lt b e)
  ⟨fun b e => Nat.lt_of_lt_of_le (h.lt b e) hb.size, h.di.below hb, h.dq.below hb, h.vi.keep (kp _ (by rw [h.l3]; omega)), h.vo.keep (kp _ (by rw [h.l4]; omega)), h.mem.below hb, (kp _ (by rw [h.l6]; omega)).trans h.card, (kp _ (by rw [h.l7]; omega)).trans h.port, h.l3, h.l4, h.l5, h.l6, h.l7, h.oi, h.oo⟩
/-- What is changed outside the net. -/
theorem Net.outside (h : Net w lab H S c) {P : Nat → Prop} (hm : Mods P w w') (hP : ∀ b, P b → lab b = 0) : Net w' lab H S c :=
  have kp : ∀ b, lab b ≠ 0 → w'.heap[b]? = w.heap[b]? := fun b e => hm.block b (h.lt b e) (fun e2 => e (hP b e2))
  ⟨fun b e => Nat.lt_of_lt_of_le (h.lt b e) hm.size, h.di.mods hm (fun b e1 e2 => by have := hP b e2; omega), h.dq.mods hm (fun b e1 e2 => by have := hP b e2; omega), h.vi.keep (kp _ (by rw [h.l3]; omega)), h.vo.keep (kp _ (by rw [h.l4]; omega)), h.mem.keep (kp _ (by rw [h.l5]; omega)), (kp _ (by rw [h.l6]; omega)).trans h.card, (kp _ (by rw [h.l7]; omega)).trans h.port, h.l3, h.l4, h.l5, h.l6, h.l7, h.oi, h.oo⟩
end
theorem cell_of {w : World} {b : Nat} {cs : Array Value} {t : TypeId} (h : w.heap[b]? = some (.cells cs t (0, 0))) {i : Nat} {v : Value} (hi : cs[i]? = some v) : w.cell? ⟨b, i, none⟩ = some v := by
  unfold World.cell?
  simp [h, hi]
theorem Net.cardCells {w : World} {lab : Nat → Nat} {H : Nh} {S : Ns} {c : Nat} (h : Net w lab H S c) : w.cell? ⟨H.pc, 0, none⟩ = some (.pointer (some ⟨H.di, 0, none⟩)) ∧ w.cell? ⟨H.pc, 1, none⟩ = some (.slice (some ⟨H.g, 0, none⟩) H.N H.N) ∧ w.cell? ⟨H.pc, 2, none⟩ = some (.int .i64 H.fi) ∧
    w.cell? ⟨H.pc, 3, none⟩ = some (.pointer (some ⟨H.dq, 0, none⟩)) ∧ w.cell? ⟨H.pc, 4, none⟩ = some (.slice (some ⟨H.g, 0, none⟩) H.N H.N) ∧ w.cell? ⟨H.pc, 5, none⟩ = some (.int .i64 H.fo) :=
  ⟨cell_of h.card rfl, cell_of h.card rfl, cell_of h.card rfl, cell_of h.card rfl, cell_of h.card rfl, cell_of h.card rfl⟩
theorem Net.portCells {w : World} {lab : Nat → Nat} {H : Nh} {S : Ns} {c : Nat} (h : Net w lab H S c) : w.cell? ⟨H.pp, 0, none⟩ = some (.pointer (some ⟨H.vi, 0, none⟩)) ∧ w.cell? ⟨H.pp, 1, none⟩ = some (.slice (some ⟨H.g, 0, none⟩) H.N H.N) ∧
    w.cell? ⟨H.pp, 2, none⟩ = some (.pointer (some ⟨H.vo, 0, none⟩)) ∧ w.cell? ⟨H.pp, 3, none⟩ = some (.slice (some ⟨H.g, 0, none⟩) H.N H.N) :=
  ⟨cell_of h.port rfl, cell_of h.port rfl, cell_of h.port rfl, cell_of h.port rfl⟩
end Go.Proofs.Ytpmbknlafeljlaa
