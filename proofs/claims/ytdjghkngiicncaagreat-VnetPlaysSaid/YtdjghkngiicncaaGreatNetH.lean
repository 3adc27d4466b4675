/- NetG, NetH in one text. -/
import Derived.Test.YtdjghkngiicncaaGreatNetF
/- vnet: a card and a port over one memory, and who owns which block. -/
namespace Go.Proofs.YtdjghkngiicncaaGreat
open Go.RowKit

structure Nh where
  g : Nat
  base : Nat
  n : Nat
  N : Nat
  pc : Nat
  pp : Nat
  di : Nat
  dq : Nat
  vi : Nat
  vo : Nat
  p2 : pow2 n = true
  fit : base + (2 * (8 + 26 * n) + 2 * n * 1528) ≤ N
  big : N ≤ 1099511627776
theorem Nh.bd (H : Nh) : 1 ≤ H.n ∧ H.n ≤ 256 := by have := pow2_bd H.p2; omega
abbrev Nh.qi (H : Nh) : Qu := ⟨H.g, H.base, H.n, H.N, H.base + 16 * H.n, H.base + 18 * H.n + 4, 16 * H.n, 4 + 2 * H.n, 4 + 8 * H.n, ⟨H.bd.1, H.bd.2, rfl, rfl, rfl, rfl, rfl, by have := H.fit; omega, H.big⟩⟩
abbrev Nh.qo (H : Nh) : Qu := ⟨H.g, H.base + (8 + 26 * H.n), H.n, H.N, H.base + (8 + 26 * H.n) + 16 * H.n, H.base + (8 + 26 * H.n) + 18 * H.n + 4, 16 * H.n, 4 + 2 * H.n, 4 + 8 * H.n, ⟨H.bd.1, H.bd.2, rfl, rfl, rfl, rfl, rfl, by have := H.fit; omega, H.big⟩⟩
/-- Where the places begin. -/
def Nh.fi (H : Nh) : Nat := H.base + 2 * (8 + 26 * H.n)
def Nh.fo (H : Nh) : Nat := H.base + 2 * (8 + 26 * H.n) + H.n * 1528
theorem Nh.fi_fit (H : Nh) (p : Nat) (hp : p < H.n) : H.fi + p * 1528 + 1526 ≤ H.N := by
  have := H.fit; unfold Nh.fi; have : p * 1528 + 1528 ≤ H.n * 1528 := by omega
  omega
theorem Nh.fo_fit (H : Nh) (p : Nat) (hp : p < H.n) : H.fo + p * 1528 + 1526 ≤ H.N := by
  have := H.fit; unfold Nh.fo; have : p * 1528 + 1528 ≤ H.n * 1528 := by omega
  omega
structure Ns where
  f : Nat → Int
  Ai : Abs
  Ao : Abs
  oi : Nat
  ui : Nat
  oo : Nat
  uo : Nat
def Ns.i (S : Ns) : Sd := ⟨S.Ai, S.f, S.oi, S.ui⟩
def Ns.o (S : Ns) : Sd := ⟨S.Ao, S.f, S.oo, S.uo⟩
def Ns.setI (S : Ns) (T : Sd) : Ns := ⟨T.f, T.A, S.Ao, T.o, T.u, S.oo, S.uo⟩
def Ns.setO (S : Ns) (T : Sd) : Ns := ⟨T.f, S.Ai, T.A, S.oi, S.ui, T.o, T.u⟩
def memV (H : Nh) : Value := .slice (some ⟨H.g, 0, none⟩) H.N H.N
def cardC (H : Nh) : Array Value := #[.pointer (some ⟨H.di, 0, none⟩), memV H, .int .i64 H.fi, .pointer (some ⟨H.dq, 0, none⟩), memV H, .int .i64 H.fo]
def portC (H : Nh) : Array Value := #[.pointer (some ⟨H.vi, 0, none⟩), memV H, .pointer (some ⟨H.vo, 0, none⟩), memV H]
structure Net (w : World) (lab : Nat → Nat) (H : Nh) (S : Ns) (c : Nat) : Prop where
  lt : ∀ b, lab b ≠ 0 → b < w.heap.size
  di : Drv w H.di H.qi S.Ai c (fun b => lab b = 1)
  dq : Drv w H.dq H.qo S.Ao c (fun b => lab b = 2)
  vi : Dev w H.vi H.qi S.oi S.ui
  vo : Dev w H.vo H.qo S.oo S.uo
  mem : Mem w H.g H.N S.f
  card : w.heap[H.pc]? = some (.cells (cardC H) 56 (0, 0))
  port : w.heap[H.pp]? = some (.cells (portC H) 70 (0, 0))
  l3 : lab H.vi = 3
  l4 : lab H.vo = 4
  l5 : lab H.g = 5
  l6 : lab H.pc = 6
  l7 : lab H.pp = 7
  oi : One S.Ai
  oo : One S.Ao
/-- What a call of the net leaves alone. -/
def Keep (lab : Nat → Nat) (w : World) (lab' : Nat → Nat) (w' : World) : Prop := (∀ b, b < w.heap.size → lab' b = lab b) ∧ Mods (fun b => lab b ≠ 0) w w'
theorem Keep.refl (lab : Nat → Nat) (w : World) : Keep lab w lab w := ⟨fun _ _ => rfl, Mods.refl _ _⟩
theorem Keep.trans {lab lab' lab'' : Nat → Nat} {w w' w'' : World} (h : Keep lab w lab' w') (h' : Keep lab' w' lab'' w'') : Keep lab w lab'' w'' :=
  ⟨fun b hb => (h'.1 b (Nat.lt_of_lt_of_le hb h.2.size)).trans (h.1 b hb), h.2.trans h'.2 (fun b hb => by
    by_cases h3 : b < w.heap.size
    · exact .inl (by rw [← h.1 b h3]; exact hb)
    · exact .inr (by omega))⟩
theorem Keep.size {lab lab' : Nat → Nat} {w w' : World} (h : Keep lab w lab' w') : w.heap.size ≤ w'.heap.size := h.2.size
theorem Keep.block {lab lab' : Nat → Nat} {w w' : World} (h : Keep lab w lab' w') {b : Nat} (hb : b < w.heap.size) (h0 : lab b = 0) : w'.heap[b]? = w.heap[b]? := h.2.block b hb (fun e => e h0)
theorem Keep.below {lab : Nat → Nat} {w w' : World} (h : Below w.heap.size w w') : Keep lab w lab w' := ⟨fun _ _ => rfl, Mods.of_below h⟩
theorem Drv.up {w : World} {pd : Nat} {q : Qu} {A : Abs} {c c' : Nat} {al al' : Nat → Prop} (h : Drv w pd q A c al) (h1 : ∀ b, al b → al' b) (h2 : ∀ b, al' b → b < w.heap.size) (h3 : ¬ al' q.g) (hc : c ≤ c') : Drv w pd q A c' al' := by
  obtain ⟨vf, bm, M, d⟩ := h
  exact ⟨vf, bm, M, h2, d.box, h1 _ d.apd, h1 _ d.abm, d.fr, fun g hg => h1 _ (d.afr g hg), d.mp.mono hc, fun k hk => (d.ch k hk).imp id (fun ⟨v, l, e1, e2, e3, e4⟩ => ⟨v, l, e1, e2, e3, fun g hg => ⟨h1 _ (e4 g hg).1, (e4 g hg).2⟩⟩), h3, d.wf⟩
open Classical in
noncomputable def relab (w : World) (lab : Nat → Nat) (al' : Nat → Prop) (k b : Nat) : Nat := if b < w.heap.size then lab b else if al' b then k else 0
section
variable {w w' : World} {lab : Nat → Nat} {H : Nh} {S : Ns} {c : Nat}
theorem relab_old {al' : Nat → Prop} {k b : Nat} (h : b < w.heap.size) : relab w lab al' k b = lab b := by unfold relab; rw [if_pos h]
theorem relab_new {al' : Nat → Prop} {k b : Nat} (h : w.heap.size ≤ b) (hb : relab w lab al' k b ≠ 0) : al' b := by
  unfold relab at hb
  rw [if_neg (by omega)] at hb
  split at hb
  · assumption
  · exact absurd rfl hb
theorem relab_yes {al' : Nat → Prop} {k b : Nat} (h : w.heap.size ≤ b) (hb : al' b) : relab w lab al' k b = k := by
  unfold relab
  rw [if_neg (by omega), if_pos hb]
theorem relab_kk {al' : Nat → Prop} {k b : Nat} (h : w.heap.size ≤ b) : relab w lab al' k b = k ∨ relab w lab al' k b = 0 := by
  unfold relab
  rw [if_neg (by omega)]
  split
  · exact .inl rfl
  · exact .inr rfl
theorem Net.pcl (h : Net w lab H S c) : H.pc < w.heap.size := h.lt _ (by rw [h.l6]; omega)
theorem Net.ppl (h : Net w lab H S c) : H.pp < w.heap.size := h.lt _ (by rw [h.l7]; omega)
theorem Net.wfi (h : Net w lab H S c) : Wf H.n S.Ai := let ⟨_, _, _, d⟩ := h.di; d.wf
theorem Net.wfo (h : Net w lab H S c) : Wf H.n S.Ao := let ⟨_, _, _, d⟩ := h.dq; d.wf
theorem Net.oki (h : Net w lab H S c) : Ok H.qi S.i := ⟨h.mem.2, h.vi.2.1, h.vi.2.2.1, h.wfi⟩
theorem Net.oko (h : Net w lab H S c) : Ok H.qo S.o := ⟨h.mem.2, h.vo.2.1, h.vo.2.2.1, h.wfo⟩
theorem Net.toDI (h : Net w lab H S c) {A' : Abs} {f' : Nat → Int} {c' : Nat} (hs : Step w w' H.di H.qi A' c' (fun b => lab b = 1)) (hm : Mem w' H.g H.N f') (hc : c ≤ c') (h1 : One A') :
    ∃ lab', Net w' lab' H { S with Ai := A', f := f' } c' ∧ Keep lab w lab' w' ∧ ∀ b, w.heap.size ≤ b → lab' b = 1 ∨ lab' b = 0 := by
  obtain ⟨al', hd, ha, hmo⟩ := hs
  have hP : ∀ b, (lab b = 1 ∨ b = H.g) → lab b = 1 ∨ lab b = 5 := fun b e => e.imp id (fun e => by rw [e]; exact h.l5)
  have hsz := hmo.size
  have old : ∀ {b k}, lab b = k → k ≠ 0 → relab w lab al' 1 b = k := fun {b k} e hk => by rw [relab_old (h.lt b (by omega))]; exact e
  have kp : ∀ b, lab b ≠ 0 → lab b ≠ 1 → lab b ≠ 5 → w'.heap[b]? = w.heap[b]? := fun b e1 e2 e3 => hmo.block b (h.lt b e1) (fun e => by have := hP b e; omega)
  have hlt : ∀ b, relab w lab al' 1 b ≠ 0 → b < w'.heap.size := fun b hb => by
    by_cases e : b < w.heap.size
    · omega
    · exact hd.lt b (relab_new (by omega) hb)
  refine ⟨relab w lab al' 1, ⟨hlt, ?_, ?_, ?_, ?_, hm, (kp _ (by rw [h.l6]; omega) (by rw [h.l6]; omega) (by rw [h.l6]; omega)).trans h.card, (kp _ (by rw [h.l7]; omega) (by rw [h.l7]; omega) (by rw [h.l7]; omega)).trans h.port, old h.l3 (by omega), old h.l4 (by omega), old h.l5 (by omega), old h.l6 (by omega), old h.l7 (by omega), h1, h.oo⟩, ⟨fun b hb => relab_old hb, hmo.weak (fun b e => .inl (by have := hP b e; omega))⟩, fun b hb => relab_kk hb⟩
  · refine hd.up (fun b hb => ?_) (fun b hb => hlt b (by rw [hb]; omega)) (by show ¬ _ = 1; rw [old h.l5 (by omega)]; omega) (Nat.le_refl _)
    rcases ha b hb with e | e
    · exact old e (by omega)
    · exact relab_yes e hb
  · refine (h.dq.mods hmo (fun b e1 e2 => by have := hP b e2; omega)).up (fun b hb => old hb (by omega)) (fun b hb => hlt b (by rw [hb]; omega)) (by show ¬ _ = 2; rw [old h.l5 (by omega)]; omega) hc
  · exact h.vi.keep (kp _ (by rw [h.l3]; omega) (by rw [h.l3]; omega) (by rw [h.l3]; omega))
  · exact h.vo.keep (kp _ (by rw [h.l4]; omega) (by rw [h.l4]; omega) (by rw [h.l4]; omega))
theorem Net.toDO (h : Net w lab H S c) {A' : Abs} {f' : Nat → Int} {c' : Nat} (hs : Step w w' H.dq H.qo A' c' (fun b => lab b = 2)) (hm : Mem w' H.g H.N f') (hc : c ≤ c') (h1 : One A') :
    ∃ lab', Net w' lab' H { S with Ao := A', f := f' } c' ∧ Keep lab w lab' w' ∧ ∀ b, w.heap.size ≤ b → lab' b = 2 ∨ lab' b = 0 := by
  obtain ⟨al', hd, ha, hmo⟩ := hs
  have hP : ∀ b, (lab b = 2 ∨ b = H.g) → lab b = 2 ∨ lab b = 5 := fun b e => e.imp id (fun e => by rw [e]; exact h.l5)
  have hsz := hmo.size
  have old : ∀ {b k}, lab b = k → k ≠ 0 → relab w lab al' 2 b = k := fun {b k} e hk => by rw [relab_old (h.lt b (by omega))]; exact e
  have kp : ∀ b, lab b ≠ 0 → lab b ≠ 2 → lab b ≠ 5 → w'.heap[b]? = w.heap[b]? := fun b e1 e2 e3 => hmo.block b (h.lt b e1) (fun e => by have := hP b e; omega)
  have hlt : ∀ b, relab w lab al' 2 b ≠ 0 → b < w'.heap.size := fun b hb => by
    by_cases e : b < w.heap.size
    · omega
    · exact hd.lt b (relab_new (by omega) hb)
  refine ⟨relab w lab al' 2, ⟨hlt, ?_, ?_, ?_, ?_, hm, (kp _ (by rw [h.l6]; omega) (by rw [h.l6]; omega) (by rw [h.l6]; omega)).trans h.card, (kp _ (by rw [h.l7]; omega) (by rw [h.l7]; omega) (by rw [h.l7]; omega)).trans h.port, old h.l3 (by omega), old h.l4 (by omega), old h.l5 (by omega), old h.l6 (by omega), old h.l7 (by omega), h.oi, h1⟩, ⟨fun b hb => relab_old hb, hmo.weak (fun b e => .inl (by have := hP b e; omega))⟩, fun b hb => relab_kk hb⟩
  · refine (h.di.mods hmo (fun b e1 e2 => by have := hP b e2; omega)).up (fun b hb => old hb (by omega)) (fun b hb => hlt b (by rw [hb]; omega)) (by show ¬ _ = 1; rw [old h.l5 (by omega)]; omega) hc
  · refine hd.up (fun b hb => ?_) (fun b hb => hlt b (by rw [hb]; omega)) (by show ¬ _ = 2; rw [old h.l5 (by omega)]; omega) (Nat.le_refl _)
    rcases ha b hb with e | e
    · exact old e (by omega)
    · exact relab_yes e hb
  · exact h.vi.keep (kp _ (by rw [h.l3]; omega) (by rw [h.l3]; omega) (by rw [h.l3]; omega))
  · exact h.vo.keep (kp _ (by rw [h.l4]; omega) (by rw [h.l4]; omega) (by rw [h.l4]; omega))
theorem Net.toVI (h : Net w lab H S c) {f' : Nat → Int} {o' u' : Nat} (hd : Dev w' H.vi H.qi o' u') (hm : Mem w' H.g H.N f') (hmo : Mods (fun b => b = H.vi ∨ b = H.g) w w') :
    Net w' lab H { S with oi := o', ui := u', f := f' } c ∧ Keep lab w lab w' := by
  have hP : ∀ b, (b = H.vi ∨ b = H.g) → lab b = 3 ∨ lab b = 5 := fun b e => e.imp (fun e => by rw [e]; exact h.l3) (fun e => by rw [e]; exact h.l5)
  have kp : ∀ b, lab b ≠ 0 → lab b ≠ 3 → lab b ≠ 5 → w'.heap[b]? = w.heap[b]? := fun b e1 e2 e3 => hmo.block b (h.lt b e1) (fun e => by have := hP b e; omega)
  refine ⟨⟨fun b hb => Nat.lt_of_lt_of_le (h.lt b hb) hmo.size, h.di.mods hmo (fun b e1 e2 => by have := hP b e2; omega), h.dq.mods hmo (fun b e1 e2 => by have := hP b e2; omega), hd, h.vo.keep (kp _ (by rw [h.l4]; omega) (by rw [h.l4]; omega) (by rw [h.l4]; omega)), hm, (kp _ (by rw [h.l6]; omega) (by rw [h.l6]; omega) (by rw [h.l6]; omega)).trans h.card, (kp _ (by rw [h.l7]; omega) (by rw [h.l7]; omega) (by rw [h.l7]; omega)).trans h.port, h.l3, h.l4, h.l5, h.l6, h.l7, h.oi, h.oo⟩, fun _ _ => rfl, hmo.weak (fun b e => .inl (by have := hP b e; omega))⟩
theorem Net.toVO (h : Net w lab H S c) {f' : Nat → Int} {o' u' : Nat} (hd : Dev w' H.vo H.qo o' u') (hm : Mem w' H.g H.N f') (hmo : Mods (fun b => b = H.vo ∨ b = H.g) w w') :
    Net w' lab H { S with oo := o', uo := u', f := f' } c ∧ Keep lab w lab w' := by
  have hP : ∀ b, (b = H.vo ∨ b = H.g) → lab b = 4 ∨ lab b = 5 := fun b e => e.imp (fun e => by rw [e]; exact h.l4) (fun e => by rw [e]; exact h.l5)
  have kp : ∀ b, lab b ≠ 0 → lab b ≠ 4 → lab b ≠ 5 → w'.heap[b]? = w.heap[b]? := fun b e1 e2 e3 => hmo.block b (h.lt b e1) (fun e => by have := hP b e; omega)
  refine ⟨⟨fun b hb => Nat.lt_of_lt_of_le (h.lt b hb) hmo.size, h.di.mods hmo (fun b e1 e2 => by have := hP b e2; omega), h.dq.mods hmo (fun b e1 e2 => by have := hP b e2; omega), h.vi.keep (kp _ (by rw [h.l3]; omega) (by rw [h.l3]; omega) (by rw [h.l3]; omega)), hd, hm, (kp _ (by rw [h.l6]; omega) (by rw [h.l6]; omega) (by rw [h.l6]; omega)).trans h.card, (kp _ (by rw [h.l7]; omega) (by rw [h.l7]; omega) (by rw [h.l7]; omega)).trans h.port, h.l3, h.l4, h.l5, h.l6, h.l7, h.oi, h.oo⟩, fun _ _ => rfl, hmo.weak (fun b e => .inl (by have := hP b e; omega))⟩
theorem Net.below (h : Net w lab H S c) (hb : Below w.heap.size w w') : Net w' lab H S c :=
  have kp : ∀ b, lab b ≠ 0 → w'.heap[b]? = w.heap[b]? := fun b e => hb.block b (h.lt b e)
  ⟨fun b e => Nat.lt_of_lt_of_le (h.lt b e) hb.size, h.di.below hb, h.dq.below hb, h.vi.keep (kp _ (by rw [h.l3]; omega)), h.vo.keep (kp _ (by rw [h.l4]; omega)), h.mem.below hb, (kp _ (by rw [h.l6]; omega)).trans h.card, (kp _ (by rw [h.l7]; omega)).trans h.port, h.l3, h.l4, h.l5, h.l6, h.l7, h.oi, h.oo⟩
/-- What is changed outside the net. -/
theorem Net.outside (h : Net w lab H S c) {P : Nat → Prop} (hm : Mods P w w') (hP : ∀ b, P b → lab b = 0) : Net w' lab H S c :=
  have kp : ∀ b, lab b ≠ 0 → w'.heap[b]? = w.heap[b]? := fun b e => hm.block b (h.lt b e) (fun e2 => e (hP b e2))
  ⟨fun b e => Nat.lt_of_lt_of_le (h.lt b e) hm.size, h.di.mods hm (fun b e1 e2 => by have := hP b e2; omega), h.dq.mods hm (fun b e1 e2 => by have := hP b e2; omega), h.vi.keep (kp _ (by rw [h.l3]; omega)), h.vo.keep (kp _ (by rw [h.l4]; omega)), h.mem.keep (kp _ (by rw [h.l5]; omega)), (kp _ (by rw [h.l6]; omega)).trans h.card, (kp _ (by rw [h.l7]; omega)).trans h.port, h.l3, h.l4, h.l5, h.l6, h.l7, h.oi, h.oo⟩
end
theorem cell_of {w : World} {b : Nat} {cs : Array Value} {t : TypeId} (h : w.heap[b]? = some (.cells cs t (0, 0))) {i : Nat} {v : Value} (hi : cs[i]? = some v) : w.cell? ⟨b, i, none⟩ = some v := by
  unfold World.cell?
  simp [h, hi]
theorem Net.cardCells {w : World} {lab : Nat → Nat} {H : Nh} {S : Ns} {c : Nat} (h : Net w lab H S c) : w.cell? ⟨H.pc, 0, none⟩ = some (.pointer (some ⟨H.di, 0, none⟩)) ∧ w.cell? ⟨H.pc, 1, none⟩ = some (.slice (some ⟨H.g, 0, none⟩) H.N H.N) ∧ w.cell? ⟨H.pc, 2, none⟩ = some (.int .i64 H.fi) ∧
    w.cell? ⟨H.pc, 3, none⟩ = some (.pointer (some ⟨H.dq, 0, none⟩)) ∧ w.cell? ⟨H.pc, 4, none⟩ = some (.slice (some ⟨H.g, 0, none⟩) H.N H.N) ∧ w.cell? ⟨H.pc, 5, none⟩ = some (.int .i64 H.fo) :=
  ⟨cell_of h.card rfl, cell_of h.card rfl, cell_of h.card rfl, cell_of h.card rfl, cell_of h.card rfl, cell_of h.card rfl⟩
theorem Net.portCells {w : World} {lab : Nat → Nat} {H : Nh} {S : Ns} {c : Nat} (h : Net w lab H S c) : w.cell? ⟨H.pp, 0, none⟩ = some (.pointer (some ⟨H.vi, 0, none⟩)) ∧ w.cell? ⟨H.pp, 1, none⟩ = some (.slice (some ⟨H.g, 0, none⟩) H.N H.N) ∧
    w.cell? ⟨H.pp, 2, none⟩ = some (.pointer (some ⟨H.vo, 0, none⟩)) ∧ w.cell? ⟨H.pp, 3, none⟩ = some (.slice (some ⟨H.g, 0, none⟩) H.N H.N) :=
  ⟨cell_of h.port rfl, cell_of h.port rfl, cell_of h.port rfl, cell_of h.port rfl⟩
end Go.Proofs.YtdjghkngiicncaaGreat

/- vnet: Send. -/
namespace Go.Proofs.YtdjghkngiicncaaGreat
open Go.RowKit

theorem Net.more {w : World} {lab : Nat → Nat} {H : Nh} {S : Ns} {c c' : Nat} (h : Net w lab H S c) (hc : c ≤ c') : Net w lab H S c' := { h with di := h.di.up (fun _ h => h) h.di.lt (by show ¬ _ = 1; rw [h.l5]; omega) hc, dq := h.dq.up (fun _ h => h) h.dq.lt (by show ¬ _ = 2; rw [h.l5]; omega) hc }
theorem backN_of (q : Qu) : ∀ (k : Nat) (S : Sd), (backN q k S).f = S.f ∧ (backN q k S).o = S.o ∧ (backN q k S).u = S.u
  | 0, _ => ⟨rfl, rfl, rfl⟩
  | k + 1, S => by
    obtain ⟨h1, h2, h3⟩ := backN_of q k (usedS q S)
    exact ⟨h1.trans (usedS_f q S), h2.trans (usedS_o q S).1, h3.trans (usedS_o q S).2⟩
theorem One.use {A : Abs} (h : One A) (hd : Int) (ch : List Nat) : One (UseA A hd ch) := fun p hp => h p (List.mem_of_mem_eraseP hp)
theorem One.bad {A : Abs} (h : One A) : One (BadA A) := h
theorem One.used {q : Qu} {S : Sd} (h : One S.A) : One (usedS q S).A := by
  unfold usedS
  split
  · exact h
  · split
    · exact h
    · exact h.use _ _
theorem One.backN {q : Qu} : ∀ (k : Nat) (S : Sd), One S.A → One (Go.Proofs.YtdjghkngiicncaaGreat.backN q k S).A
  | 0, _, h => h
  | k + 1, S, h => One.backN k (usedS q S) (One.used h)
theorem take_one {l : List Nat} (h : 0 < l.length) : l.take 1 = [l.getD 0 0] := by
  cases l with
  | nil => simp at h
  | cons x l => simp
theorem One.add {A : Abs} (h : One A) (hf : 0 < A.free.length) : One (AddA A 1) := fun p hp => by
  rcases List.mem_append.1 hp with h1 | h1
  · exact h p h1
  · simp at h1
    subst h1
    simp [take_one hf]
theorem Ok.backN {q : Qu} : ∀ (k : Nat) (S : Sd), Ok q S → Ok q (Go.Proofs.YtdjghkngiicncaaGreat.backN q k S)
  | 0, _, h => h
  | k + 1, S, h => Ok.backN k (usedS q S) h.used

def sendA (H : Nh) (T : Sd) (L : List Int) : Sd :=
  { T with A := AddA T.A 1, f := addF (puts T.f (H.fo + T.A.free.getD 0 0 * 1528) (rowL L)) H.qo T.A [⟨(H.fo + T.A.free.getD 0 0 * 1528 : Nat), (12 + L.length : Nat), false⟩] }
def sendR (H : Nh) (S : Ns) (L : List Int) : Int := if frB L.length then (if (backS H.qo S.o).A.free.length = 0 then 7 else 0) else 14
def sendS (H : Nh) (S : Ns) (L : List Int) : Ns := if frB L.length then (if (backS H.qo S.o).A.free.length = 0 then S.setO (backS H.qo S.o) else S.setO (sendA H (backS H.qo S.o) L)) else S
theorem frB_iff {n : Nat} : frB (n : Int) = true ↔ 14 ≤ n ∧ n ≤ 1514 := by simp [frB]; omega

set_option maxRecDepth 100000 in
set_option maxHeartbeats 4000000 in
theorem Send_any (w : World) (lab : Nat → Nat) (H : Nh) (S : Ns) (c : Nat) (hn : Net w lab H S c) (hc : c < 1099511627775) (ad : Option Addr) (cap len : Nat) (L : List Int) (hB : Bytes w ad L) (hln : L.length = len) (hl : ∀ b off, ad = some ⟨b, off, none⟩ → lab b = 0) :
    Calls Tryz.prog 11 #[.pointer (some ⟨H.pc, 0, none⟩), .slice ad len cap] w fun e w' => e = .returned (.int .i64 (sendR H S L)) ∧ ∃ lab', Net w' lab' H (sendS H S L) (c + 1) ∧ Keep lab w lab' w' := by
  have HFRM := hid (isFrame_any w len)
  have hsz : (Net w lab H S c) := hn
  unfold sendR sendS
  rw [hln]
  obtain ⟨_, _, _, p3, p4, p5⟩ := hn.cardCells
  have HN := hid hn
  cases hfr : frB (len : Int) with
  | false =>
    have HF := hid hfr
    simp only [Bool.false_eq_true, if_false]
    clear hfr hn hsz hB
    rw [HF.out] at HFRM
    go_enter Tryz.func11, Tryz.ntmps11
    go_wp2_with (go_at_call 31; refine HFRM.out.mono ?_; rintro e w1 ⟨rfl, rfl⟩)
    go_ret
    exact ⟨rfl, lab, HN.out.more (by omega), Keep.refl _ _⟩
  | true =>
    obtain ⟨h14, h15⟩ := frB_iff.1 hfr
    rw [hfr] at HFRM
    simp only [if_true]
    have HTB := hid (takeBack_any w H.dq H.qo S.o c (fun b => lab b = 2) H.fo hn.dq hn.mem hn.oko)
    have HO1 := hid (One.backN (q := H.qo) (more H.qo S.o) S.o hn.oo)
    have HOK := hid (Ok.backN (q := H.qo) (more H.qo S.o) S.o hn.oko)
    have HFO := hid (backN_of H.qo (more H.qo S.o) S.o)
    have HB := hid hB
    have HLN := hid hln
    have HL := hid hl
    have HTD : Hid (∀ w1 w' (lab1 : Nat → Nat) (S1 : Ns) (A' : Abs) (f' : Nat → Int), Net w1 lab1 H S1 c → Step w1 w' H.dq H.qo A' (c + 1) (fun b => lab1 b = 2) → Mem w' H.g H.N f' → One A' → ∃ lab', Net w' lab' H { S1 with Ao := A', f := f' } (c + 1) ∧ Keep lab1 w1 lab' w') := hid (fun w1 w' lab1 S1 A' f' h1 h2 h3 h4 => by
      obtain ⟨lab', h5, h6, _⟩ := h1.toDO h2 h3 (by omega) h4
      exact ⟨lab', h5, h6⟩)
    change Hid (One (backS H.qo S.o).A) at HO1
    change Hid (Ok H.qo (backS H.qo S.o)) at HOK
    change Hid ((backS H.qo S.o).f = _ ∧ (backS H.qo S.o).o = _ ∧ (backS H.qo S.o).u = _) at HFO
    clear hn hsz hB hln hl hfr
    generalize hT : backS H.qo S.o = T at *
    clear hT
    have hfi := H.fo_fit
    have hni := H.bd
    have hbigN := H.big
    unfold sideV at HTB
    by_cases hf0 : T.A.free.length = 0
    · have g1 : ((T.A.free.length : Int) == 0) = true := by simp [hf0]
      have g2 : decide ((T.A.free.length : Int) = 0) = true := by simp [hf0]
      rw [if_pos hf0, if_pos hf0]
      clear hf0
      go_enter Tryz.func11, Tryz.ntmps11
      go_wp2_with (first
        | (go_at_call 31; refine HFRM.out.mono ?_; rintro e w1 ⟨rfl, hw1⟩; rw [hw1]; clear hw1)
        | (go_at_call 32; refine HTB.out.mono ?_; rintro e w2 ⟨rfl, hs2, hm2⟩; obtain ⟨lab2, hn2, hk2, _⟩ := HN.out.toDO hs2 hm2 (Nat.le_refl _) HO1.out; obtain ⟨_, _, _, q3, q4, q5⟩ := hn2.cardCells; have HN2 := hid hn2; have HK2 := hid hk2; clear hs2 hm2 hn2 hk2)
        | (go_at_call 33; refine (Free_any w2 H.dq H.qo T.A c (fun b => lab2 b = 2) HN2.out.dq).mono ?_; rintro e w3 ⟨rfl, hw3⟩; rw [hw3]; clear hw3))
      go_ret
      refine ⟨rfl, lab2, ?_, HK2.out⟩
      have hx := HN2.out.more (show c ≤ c + 1 by omega)
      obtain ⟨e1, e2, e3⟩ := HFO.out
      have he : S.setO T = { S with Ao := T.A, f := T.f } := by unfold Ns.setO; rw [e2, e3]; rfl
      rw [he]
      exact hx
    · have g1 : ((T.A.free.length : Int) == 0) = false := by simpa using hf0
      have g2 : decide ((T.A.free.length : Int) = 0) = false := by simpa using hf0
      rw [if_neg hf0, if_neg hf0]
      have hpos : 0 < T.A.free.length := by omega
      obtain ⟨x, hx⟩ : ∃ x, T.A.free.getD 0 0 = x := ⟨_, rfl⟩
      have hxn : x < H.n := by rw [← hx]; exact HOK.out.wf.free_lt (getD_mem T.A.free 0 0 hpos)
      have HX := hid hx
      have HPOS := hid hpos
      clear hf0 hpos hx
      go_enter Tryz.func11, Tryz.ntmps11
      go_wp2_with (first
        | (go_at_call 31; refine HFRM.out.mono ?_; rintro e w1 ⟨rfl, hw1⟩; rw [hw1]; clear hw1)
        | (go_at_call 32; refine HTB.out.mono ?_; rintro e w2 ⟨rfl, hs2, hm2⟩; obtain ⟨lab2, hn2, hk2, _⟩ := HN.out.toDO hs2 hm2 (Nat.le_refl _) HO1.out; obtain ⟨_, _, _, q3, q4, q5⟩ := hn2.cardCells; have HN2 := hid hn2; have HK2 := hid hk2; clear hs2 hm2 hn2 hk2)
        | (go_at_call 33; refine (Free_any w2 H.dq H.qo T.A c (fun b => lab2 b = 2) HN2.out.dq).mono ?_; rintro e w3 ⟨rfl, hw3⟩; rw [hw3]; clear hw3))
      have HLF := hid (lowestFree_any w2.drew H.dq H.qo T.A c (fun b => lab2 b = 2) H.fo H.g H.N (HN2.out.dq.below ((Below.refl _ w2).drew)) (by omega) HO1.out HPOS.out)
      rw [HX.out] at HLF
      have hB2 : Bytes w2 ad L := fun i hi => by
        obtain ⟨b, off, h1, h2, h3⟩ := HB.out i hi
        exact ⟨b, off, h1, HK2.out.2.cell h2 (fun e => e (HL.out b off h1)), h3⟩
      have HOF : Hid (∀ w5, Below w2.heap.size w2 w5 → Calls Tryz.prog 34 #[sideV H.dq H.g H.N H.fo, .int .i64 x, .slice ad len cap] w5 fun e w' => e = .returned (.int .i64 0) ∧ Step w5 w' H.dq H.qo (AddA T.A 1) (c + 1) (fun b => lab2 b = 2) ∧ Mem w' H.g H.N (addF (puts T.f (H.fo + x * 1528) (rowL L)) H.qo T.A [⟨(H.fo + x * 1528 : Nat), (12 + len : Nat), false⟩])) := hid (fun w5 h5 =>
        offerFrame_any w5 H.dq H.qo T c (fun b => lab2 b = 2) H.fo x (H.fo + x * 1528) ad cap len L (HN2.out.dq.below h5) (HN2.out.mem.below h5) (hB2.later h5) HLN.out h14 h15 (by omega) rfl (hfi x hxn) HPOS.out (by omega))
      clear hB2
      unfold sideV at HLF HOF
      go_region_held3 (fun w' => w'.cell? ⟨H.pc, 3, none⟩ = some (.pointer (some ⟨H.dq, 0, none⟩)) ∧ w'.cell? ⟨H.pc, 4, none⟩ = some (.slice (some ⟨H.g, 0, none⟩) H.N H.N) ∧ w'.cell? ⟨H.pc, 5, none⟩ = some (.int .i64 H.fo)) ((first | exact ⟨q3, q4, q5⟩ | exact HS5.out | exact HS6.out))
        ((first
          | (go_at_call 35; refine HLF.out.mono ?_; rintro e w5 ⟨rfl, hb5⟩; have HB5 := hid ((Below.refl _ w2).drew.trans hb5); have HS5 := hid (And.intro (cell_later HB5.out q3) (And.intro (cell_later HB5.out q4) (cell_later HB5.out q5))); clear hb5)
          | (go_at_call 34; refine (HOF.out w5 HB5.out).mono ?_; rintro e w6 ⟨rfl, hs6, hm6⟩; obtain ⟨lab6, hn6, hk6⟩ := HTD.out w5 w6 lab2 _ _ _ (HN2.out.below HB5.out) hs6 hm6 (HO1.out.add HPOS.out); obtain ⟨_, _, _, s3, s4, s5⟩ := hn6.cardCells; have HS6 := hid (And.intro s3 (And.intro s4 s5)); have HN6 := hid hn6; have HK6 := hid hk6; clear hs6 hm6 hn6 hk6 s3 s4 s5)))
      go_wp2
      go_ret
      obtain ⟨e1, e2, e3⟩ := HFO.out
      refine ⟨rfl, lab6, ?_, HK2.out.trans ((Keep.below HB5.out).trans HK6.out)⟩
      have he : S.setO (sendA H T L) = { S with Ao := AddA T.A 1, f := addF (puts T.f (H.fo + x * 1528) (rowL L)) H.qo T.A [⟨(H.fo + x * 1528 : Nat), (12 + len : Nat), false⟩] } := by unfold Ns.setO sendA; rw [HX.out, HLN.out]; simp only [e2, e3]; rfl
      rw [he]
      exact HN6.out
end Go.Proofs.YtdjghkngiicncaaGreat
