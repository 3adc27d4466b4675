/- Both sides' queues side by side: what each call leaves of them. -/
import Derived.Test.YtjnhcbompgmknaaRefL
import Derived.Test.YtjnhcbompgmknaaRefE
import Derived.Test.YtjnhcbompgmknaaSameA
namespace Go.Proofs.Ytjnhcbompgmknaa
open Go.RowKit

/-- Where the two pairs lie. -/
structure Hd where
  pb : Nat
  pd : Nat
  pv : Nat
  px : Nat
  py : Nat
  g : Nat
  q : Qu
/-- The state of one pair: the driver's, the bytes, the device's two counts. -/
structure Sd where
  A : Abs
  f : Nat → Int
  o : Nat
  u : Nat
def boxV (H : Hd) (vt : Value) : Array Value := #[.pointer (some ⟨H.pd, 0, none⟩), .pointer (some ⟨H.pv, 0, none⟩), .pointer (some ⟨H.px, 0, none⟩), .pointer (some ⟨H.py, 0, none⟩), .slice (some ⟨H.q.g, 0, none⟩) H.q.N H.q.N, .slice (some ⟨H.g, 0, none⟩) H.q.N H.q.N, vt]
structure Bo (w0 w : World) (H : Hd) (c : Nat) (S S2 : Sd) (T : List Int) (vt : Value) (al ar : Nat → Prop) (lab : Nat → Nat) : Prop where
  box : w.heap[H.pb]? = some (.cells (boxV H vt) 39 (0, 0))
  drv : Drv w H.pd H.q S.A c al
  dev : Dev w H.pv H.q S.o S.u
  mem : Mem w H.q.g H.q.N S.f
  rdrv : RDrv w H.px H.g H.q S2.A ar
  rdev : RDev w H.py H.g H.q.N H.q.N H.q.base H.q.n S2.o S2.u
  rmem : Mem w H.g H.q.N S2.f
  tk : w.ownsRow 0 3 1 vt T.length (T.map encZ)
  l1 : ∀ b, al b → lab b = 1
  l2 : lab H.pv = 2
  l3 : lab H.q.g = 3
  l4 : ∀ b, ar b → lab b = 4
  l5 : lab H.py = 5
  l6 : lab H.g = 6
  l7 : lab H.pb = 7
  l8 : ∀ b, vt.ownBlock = some b → lab b = 8
  low : ∀ b, b < w0.heap.size → lab b = 0
  bel : Below w0.heap.size w0 w

def nl (w : World) (lab : Nat → Nat) (k b : Nat) : Nat := if b < w.heap.size then lab b else k
theorem nl_old {w : World} {lab : Nat → Nat} {k b : Nat} (h : b < w.heap.size) : nl w lab k b = lab b := if_pos h
theorem nl_new {w : World} {lab : Nat → Nat} {k b : Nat} (h : w.heap.size ≤ b) : nl w lab k b = k := if_neg (by omega)

theorem Bo.pblt {w0 w : World} {H : Hd} {c : Nat} {S S2 : Sd} {T : List Int} {vt : Value} {al ar : Nat → Prop} {lab : Nat → Nat} (h : Bo w0 w H c S S2 T vt al ar lab) : H.pb < w.heap.size := (Array.getElem?_eq_some_iff.1 h.box).1
theorem Bo.high {w0 w : World} {H : Hd} {c : Nat} {S S2 : Sd} {T : List Int} {vt : Value} {al ar : Nat → Prop} {lab : Nat → Nat} (h : Bo w0 w H c S S2 T vt al ar lab) {b : Nat} (hb : lab b ≠ 0) : w0.heap.size ≤ b := by
  by_cases hl : b < w0.heap.size
  · exact absurd (h.low b hl) hb
  · omega
theorem Bo.gen {w0 w w' : World} {H : Hd} {c : Nat} {S S2 : Sd} {T : List Int} {vt : Value} {al ar : Nat → Prop} {lab : Nat → Nat} (h : Bo w0 w H c S S2 T vt al ar lab) {P : Nat → Prop} (hmo : Mods P w w') (hP0 : ∀ b, P b → lab b ≠ 0) (k : Nat)
    {c' : Nat} {S' S2' : Sd} {T' : List Int} {vt' : Value} {al' ar' : Nat → Prop}
    (box : w'.heap[H.pb]? = some (.cells (boxV H vt') 39 (0, 0))) (drv : Drv w' H.pd H.q S'.A c' al') (dev : Dev w' H.pv H.q S'.o S'.u) (mem : Mem w' H.q.g H.q.N S'.f) (rdrv : RDrv w' H.px H.g H.q S2'.A ar') (rdev : RDev w' H.py H.g H.q.N H.q.N H.q.base H.q.n S2'.o S2'.u) (rmem : Mem w' H.g H.q.N S2'.f) (tk : w'.ownsRow 0 3 1 vt' T'.length (T'.map encZ))
    (h1 : ∀ b, al' b → al b ∨ (w.heap.size ≤ b ∧ k = 1)) (h4 : ∀ b, ar' b → ar b ∨ (w.heap.size ≤ b ∧ k = 4)) (h8 : ∀ b, vt'.ownBlock = some b → vt.ownBlock = some b ∨ (w.heap.size ≤ b ∧ k = 8)) : Bo w0 w' H c' S' S2' T' vt' al' ar' (nl w lab k) where
  box := box
  drv := drv
  dev := dev
  mem := mem
  rdrv := rdrv
  rdev := rdev
  rmem := rmem
  tk := tk
  l1 := fun b hb => by
    rcases h1 b hb with h2 | ⟨h2, h3⟩
    · rw [nl_old (h.drv.lt b h2)]; exact h.l1 b h2
    · rw [nl_new h2]; exact h3
  l2 := by rw [nl_old h.dev.lt]; exact h.l2
  l3 := by rw [nl_old h.mem.lt]; exact h.l3
  l4 := fun b hb => by
    rcases h4 b hb with h2 | ⟨h2, h3⟩
    · rw [nl_old (h.rdrv.lt b h2)]; exact h.l4 b h2
    · rw [nl_new h2]; exact h3
  l5 := by rw [nl_old h.rdev.lt]; exact h.l5
  l6 := by rw [nl_old h.rmem.lt]; exact h.l6
  l7 := by rw [nl_old h.pblt]; exact h.l7
  l8 := fun b hb => by
    rcases h8 b hb with h2 | ⟨h2, h3⟩
    · rw [nl_old (owns_lt h.tk h2).1]; exact h.l8 b h2
    · rw [nl_new h2]; exact h3
  low := fun b hb => by rw [nl_old (Nat.lt_of_lt_of_le hb h.bel.size)]; exact h.low b hb
  bel := hmo.to_below h.bel h.bel.size (fun b hb => h.high (hP0 b hb))

/-- Both pairs, held beside blocks Z that are none of theirs. -/
def Both (Z : Nat → Prop) (w0 w : World) (H : Hd) (c : Nat) (S S2 : Sd) (T : List Int) : Prop := ∃ vt al ar lab, Bo w0 w H c S S2 T vt al ar lab ∧ ∀ b, Z b → b < w.heap.size ∧ lab b = 0
/-- What a call leaves: Z's blocks lie as they lay. -/
def Goes (Z : Nat → Prop) (w0 w w' : World) (H : Hd) (c : Nat) (S S2 : Sd) (T : List Int) : Prop := Both Z w0 w' H c S S2 T ∧ ∀ b, Z b → w'.heap[b]? = w.heap[b]?
theorem Bo.pack {w0 w w' : World} {H : Hd} {c : Nat} {S S2 : Sd} {T : List Int} {vt : Value} {al ar : Nat → Prop} {lab : Nat → Nat} (_ : Bo w0 w H c S S2 T vt al ar lab) {Z : Nat → Prop} (hZ : ∀ b, Z b → b < w.heap.size ∧ lab b = 0) {P : Nat → Prop} (hmo : Mods P w w') (hP0 : ∀ b, P b → lab b ≠ 0) {k : Nat}
    {c' : Nat} {S' S2' : Sd} {T' : List Int} {vt' : Value} {al' ar' : Nat → Prop} (h' : Bo w0 w' H c' S' S2' T' vt' al' ar' (nl w lab k)) : Goes Z w0 w w' H c' S' S2' T' :=
  ⟨⟨vt', al', ar', _, h', fun b hb => ⟨Nat.lt_of_lt_of_le (hZ b hb).1 hmo.size, by rw [nl_old (hZ b hb).1]; exact (hZ b hb).2⟩⟩, fun b hb => hmo.block b (hZ b hb).1 (fun e => hP0 b e (hZ b hb).2)⟩

section
variable {w0 w w' : World} {H : Hd} {c : Nat} {S S2 : Sd} {T : List Int} {vt : Value} {al ar : Nat → Prop} {lab : Nat → Nat} {Z : Nat → Prop}
theorem Bo.keepBox (h : Bo w0 w H c S S2 T vt al ar lab) {P : Nat → Prop} (hmo : Mods P w w') (hP : ∀ b, P b → lab b ≠ 7) : w'.heap[H.pb]? = some (.cells (boxV H vt) 39 (0, 0)) := (hmo.block H.pb h.pblt (fun e => hP _ e h.l7)).trans h.box
theorem Bo.keepDrv (h : Bo w0 w H c S S2 T vt al ar lab) {P : Nat → Prop} (hmo : Mods P w w') (hP : ∀ b, P b → lab b ≠ 1) : Drv w' H.pd H.q S.A c al := h.drv.mods hmo (fun b hb e => hP b e (h.l1 b hb))
theorem Bo.keepDev (h : Bo w0 w H c S S2 T vt al ar lab) {P : Nat → Prop} (hmo : Mods P w w') (hP : ∀ b, P b → lab b ≠ 2) : Dev w' H.pv H.q S.o S.u := h.dev.mods hmo (fun e => hP _ e h.l2)
theorem Bo.keepMem (h : Bo w0 w H c S S2 T vt al ar lab) {P : Nat → Prop} (hmo : Mods P w w') (hP : ∀ b, P b → lab b ≠ 3) : Mem w' H.q.g H.q.N S.f := h.mem.mods hmo (fun e => hP _ e h.l3)
theorem Bo.keepRdrv (h : Bo w0 w H c S S2 T vt al ar lab) {P : Nat → Prop} (hmo : Mods P w w') (hP : ∀ b, P b → lab b ≠ 4) : RDrv w' H.px H.g H.q S2.A ar := h.rdrv.mods hmo (fun b hb e => hP b e (h.l4 b hb))
theorem Bo.keepRdev (h : Bo w0 w H c S S2 T vt al ar lab) {P : Nat → Prop} (hmo : Mods P w w') (hP : ∀ b, P b → lab b ≠ 5) : RDev w' H.py H.g H.q.N H.q.N H.q.base H.q.n S2.o S2.u := h.rdev.keep (hmo.block H.py h.rdev.lt (fun e => hP _ e h.l5))
theorem Bo.keepRmem (h : Bo w0 w H c S S2 T vt al ar lab) {P : Nat → Prop} (hmo : Mods P w w') (hP : ∀ b, P b → lab b ≠ 6) : Mem w' H.g H.q.N S2.f := h.rmem.mods hmo (fun e => hP _ e h.l6)
theorem Bo.keepTk (h : Bo w0 w H c S S2 T vt al ar lab) {P : Nat → Prop} (hmo : Mods P w w') (hP : ∀ b, P b → lab b ≠ 8) : w'.ownsRow 0 3 1 vt T.length (T.map encZ) := owns_keep h.tk (fun b hb => hmo.block b (owns_lt h.tk hb).1 (fun e => hP b e (h.l8 b hb)))

theorem Bo.toDrv (h : Bo w0 w H c S S2 T vt al ar lab) (hZ : ∀ b, Z b → b < w.heap.size ∧ lab b = 0) {A' : Abs} {c' : Nat} {f' : Nat → Int} (hs : Step w w' H.pd H.q A' c' al) (hm : Mem w' H.q.g H.q.N f') : Goes Z w0 w w' H c' ⟨A', f', S.o, S.u⟩ S2 T := by
  obtain ⟨al', d', hsub, hmo⟩ := hs
  have hP : ∀ b, (al b ∨ b = H.q.g) → lab b = 1 ∨ lab b = 3 := fun b e => e.imp (h.l1 b) (fun e => by rw [e]; exact h.l3)
  exact h.pack hZ hmo (fun b e => by have := hP b e; omega) (h.gen hmo (fun b e => by have := hP b e; omega) 1 (h.keepBox hmo (fun b e => by have := hP b e; omega)) d' (h.keepDev hmo (fun b e => by have := hP b e; omega)) hm (h.keepRdrv hmo (fun b e => by have := hP b e; omega)) (h.keepRdev hmo (fun b e => by have := hP b e; omega)) (h.keepRmem hmo (fun b e => by have := hP b e; omega)) (h.keepTk hmo (fun b e => by have := hP b e; omega)) (fun b hb => (hsub b hb).imp id (fun e => ⟨e, rfl⟩)) (fun b hb => .inl hb) (fun b hb => .inl hb))
theorem Bo.toDev (h : Bo w0 w H c S S2 T vt al ar lab) (hZ : ∀ b, Z b → b < w.heap.size ∧ lab b = 0) {o' u' : Nat} {f' : Nat → Int} (hmo : Mods (fun b => b = H.pv ∨ b = H.q.g) w w') (hd : Dev w' H.pv H.q o' u') (hm : Mem w' H.q.g H.q.N f') : Goes Z w0 w w' H c ⟨S.A, f', o', u'⟩ S2 T := by
  have hP : ∀ b, (b = H.pv ∨ b = H.q.g) → lab b = 2 ∨ lab b = 3 := fun b e => e.imp (fun e => by rw [e]; exact h.l2) (fun e => by rw [e]; exact h.l3)
  exact h.pack hZ hmo (fun b e => by have := hP b e; omega) (h.gen hmo (fun b e => by have := hP b e; omega) 0 (h.keepBox hmo (fun b e => by have := hP b e; omega)) (h.keepDrv hmo (fun b e => by have := hP b e; omega)) hd hm (h.keepRdrv hmo (fun b e => by have := hP b e; omega)) (h.keepRdev hmo (fun b e => by have := hP b e; omega)) (h.keepRmem hmo (fun b e => by have := hP b e; omega)) (h.keepTk hmo (fun b e => by have := hP b e; omega)) (fun b hb => .inl hb) (fun b hb => .inl hb) (fun b hb => .inl hb))
theorem Bo.toRdrv (h : Bo w0 w H c S S2 T vt al ar lab) (hZ : ∀ b, Z b → b < w.heap.size ∧ lab b = 0) {A' : Abs} {f' : Nat → Int} (hs : RStep w w' H.px H.g H.q A' ar) (hm : Mem w' H.g H.q.N f') : Goes Z w0 w w' H c S ⟨A', f', S2.o, S2.u⟩ T := by
  obtain ⟨ar', d', hsub, hmo⟩ := hs
  have hP : ∀ b, (ar b ∨ b = H.g) → lab b = 4 ∨ lab b = 6 := fun b e => e.imp (h.l4 b) (fun e => by rw [e]; exact h.l6)
  exact h.pack hZ hmo (fun b e => by have := hP b e; omega) (h.gen hmo (fun b e => by have := hP b e; omega) 4 (h.keepBox hmo (fun b e => by have := hP b e; omega)) (h.keepDrv hmo (fun b e => by have := hP b e; omega)) (h.keepDev hmo (fun b e => by have := hP b e; omega)) (h.keepMem hmo (fun b e => by have := hP b e; omega)) d' (h.keepRdev hmo (fun b e => by have := hP b e; omega)) hm (h.keepTk hmo (fun b e => by have := hP b e; omega)) (fun b hb => .inl hb) (fun b hb => (hsub b hb).imp id (fun e => ⟨e, rfl⟩)) (fun b hb => .inl hb))
theorem Bo.toRdev (h : Bo w0 w H c S S2 T vt al ar lab) (hZ : ∀ b, Z b → b < w.heap.size ∧ lab b = 0) {o' u' : Nat} {f' : Nat → Int} (hmo : Mods (fun b => b = H.py ∨ b = H.g) w w') (hd : RDev w' H.py H.g H.q.N H.q.N H.q.base H.q.n o' u') (hm : Mem w' H.g H.q.N f') : Goes Z w0 w w' H c S ⟨S2.A, f', o', u'⟩ T := by
  have hP : ∀ b, (b = H.py ∨ b = H.g) → lab b = 5 ∨ lab b = 6 := fun b e => e.imp (fun e => by rw [e]; exact h.l5) (fun e => by rw [e]; exact h.l6)
  exact h.pack hZ hmo (fun b e => by have := hP b e; omega) (h.gen hmo (fun b e => by have := hP b e; omega) 0 (h.keepBox hmo (fun b e => by have := hP b e; omega)) (h.keepDrv hmo (fun b e => by have := hP b e; omega)) (h.keepDev hmo (fun b e => by have := hP b e; omega)) (h.keepMem hmo (fun b e => by have := hP b e; omega)) (h.keepRdrv hmo (fun b e => by have := hP b e; omega)) hd hm (h.keepTk hmo (fun b e => by have := hP b e; omega)) (fun b hb => .inl hb) (fun b hb => .inl hb) (fun b hb => .inl hb))
theorem Bo.toBelow (h : Bo w0 w H c S S2 T vt al ar lab) (hb : Below w.heap.size w w') : Bo w0 w' H c S S2 T vt al ar (nl w lab 0) :=
  have hmo : Mods (fun _ => False) w w' := Mods.of_below hb
  h.gen hmo (fun _ e => e.elim) 0 (h.keepBox hmo (fun _ e => e.elim)) (h.keepDrv hmo (fun _ e => e.elim)) (h.keepDev hmo (fun _ e => e.elim)) (h.keepMem hmo (fun _ e => e.elim)) (h.keepRdrv hmo (fun _ e => e.elim)) (h.keepRdev hmo (fun _ e => e.elim)) (h.keepRmem hmo (fun _ e => e.elim)) (h.keepTk hmo (fun _ e => e.elim)) (fun _ hb => .inl hb) (fun _ hb => .inl hb) (fun _ hb => .inl hb)
theorem Both.below (h : Both Z w0 w H c S S2 T) (hb : Below w.heap.size w w') : Both Z w0 w' H c S S2 T := by
  obtain ⟨vt, al, ar, lab, b, hZ⟩ := h
  exact ⟨vt, al, ar, _, b.toBelow hb, fun x hx => ⟨Nat.lt_of_lt_of_le (hZ x hx).1 hb.size, by rw [nl_old (hZ x hx).1]; exact (hZ x hx).2⟩⟩
theorem Both.wide (h : Both Z w0 w H c S S2 T) (hb : Below w.heap.size w w') {Z' : Nat → Prop} (hz : ∀ b, Z' b → b < w'.heap.size ∧ (Z b ∨ w.heap.size ≤ b ∨ b < w0.heap.size)) : Both Z' w0 w' H c S S2 T := by
  obtain ⟨vt, al, ar, lab, b, hZ⟩ := h
  refine ⟨vt, al, ar, _, b.toBelow hb, fun x hx => ⟨(hz x hx).1, ?_⟩⟩
  rcases (hz x hx).2 with h1 | h1 | h1
  · rw [nl_old (hZ x h1).1]; exact (hZ x h1).2
  · exact nl_new h1
  · rw [nl_old (Nat.lt_of_lt_of_le h1 b.bel.size)]; exact b.low x h1
theorem Both.less (h : Both Z w0 w H c S S2 T) {Z' : Nat → Prop} (hz : ∀ b, Z' b → Z b) : Both Z' w0 w H c S S2 T := let ⟨vt, al, ar, lab, b, hZ⟩ := h; ⟨vt, al, ar, lab, b, fun x hx => hZ x (hz x hx)⟩
theorem Bo.toTaken (h : Bo w0 w H c S S2 T vt al ar lab) (hZ : ∀ b, Z b → b < w.heap.size ∧ lab b = 0) {T' : List Int} {vt' : Value} (hmo : Mods (fun b => b = H.pb ∨ vt.ownBlock = some b) w w') (box : w'.heap[H.pb]? = some (.cells (boxV H vt') 39 (0, 0))) (tk : w'.ownsRow 0 3 1 vt' T'.length (T'.map encZ)) (hv : ∀ b, vt'.ownBlock = some b → vt.ownBlock = some b ∨ w.heap.size ≤ b) : Goes Z w0 w w' H c S S2 T' := by
  have hP : ∀ b, (b = H.pb ∨ vt.ownBlock = some b) → lab b = 7 ∨ lab b = 8 := fun b e => e.imp (fun e => by rw [e]; exact h.l7) (h.l8 b)
  exact h.pack hZ hmo (fun b e => by have := hP b e; omega) (h.gen hmo (fun b e => by have := hP b e; omega) 8 box (h.keepDrv hmo (fun b e => by have := hP b e; omega)) (h.keepDev hmo (fun b e => by have := hP b e; omega)) (h.keepMem hmo (fun b e => by have := hP b e; omega)) (h.keepRdrv hmo (fun b e => by have := hP b e; omega)) (h.keepRdev hmo (fun b e => by have := hP b e; omega)) (h.keepRmem hmo (fun b e => by have := hP b e; omega)) tk (fun b hb => .inl hb) (fun b hb => .inl hb) (fun b hb => (hv b hb).imp id (fun e => ⟨e, rfl⟩)))
theorem Bo.cells (h : Bo w0 w H c S S2 T vt al ar lab) : w.cell? ⟨H.pb, 0, none⟩ = some (.pointer (some ⟨H.pd, 0, none⟩)) ∧ w.cell? ⟨H.pb, 1, none⟩ = some (.pointer (some ⟨H.pv, 0, none⟩)) ∧ w.cell? ⟨H.pb, 2, none⟩ = some (.pointer (some ⟨H.px, 0, none⟩)) ∧ w.cell? ⟨H.pb, 3, none⟩ = some (.pointer (some ⟨H.py, 0, none⟩)) ∧
    w.cell? ⟨H.pb, 4, none⟩ = some (.slice (some ⟨H.q.g, 0, none⟩) H.q.N H.q.N) ∧ w.cell? ⟨H.pb, 5, none⟩ = some (.slice (some ⟨H.g, 0, none⟩) H.q.N H.q.N) ∧ w.cell? ⟨H.pb, 6, none⟩ = some vt ∧ w.frozen? ⟨H.pb, 6, none⟩ = false := by
  have h1 := h.box
  unfold World.cell? World.frozen?
  simp [h1, boxV]
theorem Both.cells (h : Both Z w0 w H c S S2 T) : w.cell? ⟨H.pb, 0, none⟩ = some (.pointer (some ⟨H.pd, 0, none⟩)) ∧ w.cell? ⟨H.pb, 1, none⟩ = some (.pointer (some ⟨H.pv, 0, none⟩)) ∧ w.cell? ⟨H.pb, 2, none⟩ = some (.pointer (some ⟨H.px, 0, none⟩)) ∧ w.cell? ⟨H.pb, 3, none⟩ = some (.pointer (some ⟨H.py, 0, none⟩)) ∧
    w.cell? ⟨H.pb, 4, none⟩ = some (.slice (some ⟨H.q.g, 0, none⟩) H.q.N H.q.N) ∧ w.cell? ⟨H.pb, 5, none⟩ = some (.slice (some ⟨H.g, 0, none⟩) H.q.N H.q.N) := by
  obtain ⟨vt, al, ar, lab, b, _⟩ := h
  obtain ⟨h0, h1, h2, h3, h4, h5, _⟩ := b.cells
  exact ⟨h0, h1, h2, h3, h4, h5⟩
theorem Drv.wf {w : World} {pd : Nat} {q : Qu} {A : Abs} {c : Nat} {al : Nat → Prop} (h : Drv w pd q A c al) : Wf q.n A := let ⟨_, _, _, d⟩ := h; d.wf
theorem Both.wf (h : Both Z w0 w H c S S2 T) : Wf H.q.n S.A := let ⟨_, _, _, _, b, _⟩ := h; b.drv.wf
theorem Both.bel (h : Both Z w0 w H c S S2 T) : Below w0.heap.size w0 w := let ⟨_, _, _, _, b, _⟩ := h; b.bel
end
end Go.Proofs.Ytjnhcbompgmknaa
