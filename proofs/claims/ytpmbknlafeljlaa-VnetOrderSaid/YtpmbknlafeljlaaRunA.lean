/- Both sides over one memory, held by a law beside blocks of its own (K): one call of each. -/
import Derived.Test.YtpmbknlafeljlaaPureC
namespace Go.Proofs.Ytpmbknlafeljlaa
open Go.RowKit

structure RunAt (B : Nat) (w0 w : World) (K : Nat → Prop) (pd pv : Nat) (q : Qu) (A : Abs) (c : Nat) (f : Nat → Int) (o u : Nat) (al : Nat → Prop) : Prop where
  drv : Drv w pd q A c al
  own : ∀ b, al b → B ≤ b
  npv : ¬ al pv
  bpv : B ≤ pv
  bg : B ≤ q.g
  dev : Dev w pv q o u
  mem : Mem w q.g q.N f
  bel : Below B w0 w
  size : B ≤ w.heap.size
  kp : ∀ b, K b → b < w.heap.size ∧ ¬ al b ∧ b ≠ pv ∧ b ≠ q.g
def Run (B : Nat) (w0 w : World) (K : Nat → Prop) (pd pv : Nat) (q : Qu) (A : Abs) (c : Nat) (f : Nat → Int) (o u : Nat) : Prop := ∃ al, RunAt B w0 w K pd pv q A c f o u al
def Kept (K : Nat → Prop) (w w' : World) : Prop := ∀ b, K b → w'.heap[b]? = w.heap[b]?
theorem Kept.trans {K : Nat → Prop} {w w' w'' : World} (h : Kept K w w') (h' : Kept K w' w'') : Kept K w w'' := fun b hb => (h' b hb).trans (h b hb)

section
variable {B : Nat} {w0 w w' : World} {K : Nat → Prop} {pd pv : Nat} {q : Qu} {A A' : Abs} {c c' : Nat} {f f' : Nat → Int} {o u o' u' : Nat} {al : Nat → Prop}

theorem RunAt.below (h : RunAt B w0 w K pd pv q A c f o u al) (hb : Below w.heap.size w w') : RunAt B w0 w' K pd pv q A c f o u al :=
  ⟨h.drv.below hb, h.own, h.npv, h.bpv, h.bg, h.dev.mods (Mods.of_below (al := fun _ => False) hb) (fun e => e), h.mem.below hb, h.bel.trans (hb.mono h.size), Nat.le_trans h.size hb.size, fun b hk => ⟨Nat.lt_of_lt_of_le (h.kp b hk).1 hb.size, (h.kp b hk).2⟩⟩
theorem RunAt.kept (h : RunAt B w0 w K pd pv q A c f o u al) (hb : Below w.heap.size w w') : Kept K w w' := fun b hk => hb.block b (h.kp b hk).1
theorem Run.below (h : Run B w0 w K pd pv q A c f o u) (hb : Below w.heap.size w w') : Run B w0 w' K pd pv q A c f o u := let ⟨al, r⟩ := h; ⟨al, r.below hb⟩
theorem Run.kept (h : Run B w0 w K pd pv q A c f o u) (hb : Below w.heap.size w w') : Kept K w w' := let ⟨_, r⟩ := h; r.kept hb
theorem Run.bel (h : Run B w0 w K pd pv q A c f o u) : Below B w0 w ∧ B ≤ w.heap.size := let ⟨_, r⟩ := h; ⟨r.bel, r.size⟩
theorem Run.wf (h : Run B w0 w K pd pv q A c f o u) : Wf q.n A := let ⟨_, r⟩ := h; let ⟨_, _, _, d⟩ := r.drv; d.wf
theorem Run.mem (h : Run B w0 w K pd pv q A c f o u) : Mem w q.g q.N f := let ⟨_, r⟩ := h; r.mem
theorem Run.lt (h : Run B w0 w K pd pv q A c f o u) {b : Nat} (hb : K b) : b < w.heap.size := let ⟨_, r⟩ := h; (r.kp b hb).1
theorem Run.less (h : Run B w0 w K pd pv q A c f o u) {K' : Nat → Prop} (hk : ∀ b, K' b → K b) : Run B w0 w K' pd pv q A c f o u := let ⟨al, r⟩ := h; ⟨al, r.drv, r.own, r.npv, r.bpv, r.bg, r.dev, r.mem, r.bel, r.size, fun b hb => r.kp b (hk b hb)⟩
/-- Blocks that came since. -/
theorem Run.more (h : Run B w0 w K pd pv q A c f o u) (hb : Below w.heap.size w w') {K' : Nat → Prop} (hk : ∀ b, K' b → K b ∨ (w.heap.size ≤ b ∧ b < w'.heap.size)) : Run B w0 w' K' pd pv q A c f o u := by
  obtain ⟨al, r⟩ := h
  have r' := r.below hb
  refine ⟨al, r'.drv, r'.own, r'.npv, r'.bpv, r'.bg, r'.dev, r'.mem, r'.bel, r'.size, fun b hk' => ?_⟩
  rcases hk b hk' with h1 | ⟨h1, h2⟩
  · exact r'.kp b h1
  · have hg := r.mem.lt
    have hp := r.dev.lt
    exact ⟨h2, fun e => by have := r.drv.lt b e; omega, by omega, by omega⟩
theorem RunAt.step (h : RunAt B w0 w K pd pv q A c f o u al) (hs : Step w w' pd q A' c' al) (hm : Mem w' q.g q.N f') : Run B w0 w' K pd pv q A' c' f' o u ∧ Kept K w w' := by
  obtain ⟨al', h1, h2, h3⟩ := hs
  have hpl := h.dev.lt
  refine ⟨⟨al', h1, fun b hb => (h2 b hb).elim (h.own b) (fun e => Nat.le_trans h.size e), fun e => (h2 pv e).elim h.npv (fun e => by omega), h.bpv, h.bg, h.dev.mods h3 (fun e => e.elim h.npv (fun e => h.dev.2.2.2 e)), hm, h3.to_below h.bel h.size (fun b hb => hb.elim (h.own b) (fun e => by rw [e]; exact h.bg)), Nat.le_trans h.size h3.size, fun b hk => ?_⟩, fun b hk => ?_⟩
  · obtain ⟨k1, k2, k3, k4⟩ := h.kp b hk
    exact ⟨Nat.lt_of_lt_of_le k1 h3.size, fun e => (h2 b e).elim k2 (fun e => by omega), k3, k4⟩
  · obtain ⟨k1, k2, k3, k4⟩ := h.kp b hk
    exact h3.block b k1 (fun e => e.elim k2 k4)
theorem RunAt.dstep (h : RunAt B w0 w K pd pv q A c f o u al) (hd : Dev w' pv q o' u') (hm : Mem w' q.g q.N f') (hmo : Mods (fun b => b = pv ∨ b = q.g) w w') : Run B w0 w' K pd pv q A c f' o' u' ∧ Kept K w w' :=
  ⟨⟨al, h.drv.mods hmo (fun b hb e => by
      rcases e with e | e
      · exact h.npv (e ▸ hb)
      · obtain ⟨_, _, _, d⟩ := h.drv
        exact d.ng (e ▸ hb)), h.own, h.npv, h.bpv, h.bg, hd, hm, hmo.to_below h.bel h.size (fun b hb => hb.elim (fun e => by rw [e]; exact h.bpv) (fun e => by rw [e]; exact h.bg)), Nat.le_trans h.size hmo.size, fun b hk => ⟨Nat.lt_of_lt_of_le (h.kp b hk).1 hmo.size, (h.kp b hk).2⟩⟩,
   fun b hk => hmo.block b (h.kp b hk).1 (fun e => e.elim (h.kp b hk).2.2.1 (h.kp b hk).2.2.2)⟩

theorem Run.add (h : Run B w0 w K pd pv q A c f o u) (w1 : World) (hb1 : Below w.heap.size w w1) (ab : Option Addr) (m capb : Nat) (bufs : List Bf) (hb : bufs.length = m) (hB : Bufs w1 ab bufs q.g) (hfr : ∀ b off, ab = some ⟨b, off, none⟩ → w.heap.size ≤ b)
    (hok : ∀ b ∈ bufs, okB b) (h0 : 0 < m) (hfm : m ≤ A.free.length) (hc : c < 1099511627776) :
    Calls Try.prog 41 #[.pointer (some ⟨pd, 0, none⟩), .slice ab m capb] w1 fun e w' => e = .returned (.tuple #[.int .i64 (A.free.getD 0 0 : Nat), .int .i64 0]) ∧ Run B w0 w' K pd pv q (AddA A m) (c + 1) (addF f q A bufs) o u ∧ Kept K w w' := by
  obtain ⟨al, r⟩ := h
  have r1 := r.below hb1
  refine (Add_ok w1 pd q A c al f r1.drv r1.mem ab m capb bufs hb hB (fun b off e ha => ?_) hok h0 hfm hc).mono ?_
  · have := hfr b off e
    have := r.drv.lt b ha
    omega
  · rintro e w' ⟨rfl, h1, h2⟩
    obtain ⟨s1, s2⟩ := r1.step h1 h2
    exact ⟨rfl, s1, (r.kept hb1).trans s2⟩
theorem Run.add_full (h : Run B w0 w K pd pv q A c f o u) (w1 : World) (hb1 : Below w.heap.size w w1) (ab : Option Addr) (m capb : Nat) (bufs : List Bf) (hb : bufs.length = m) (hB : Bufs w1 ab bufs q.g) (hok : ∀ b ∈ bufs, okB b) (hm : m ≤ 65536) (h0 : 0 < m) (hfm : A.free.length < m) :
    Calls Try.prog 41 #[.pointer (some ⟨pd, 0, none⟩), .slice ab m capb] w1 fun e w' => e = .returned (.tuple #[.int .i64 0, .int .i64 7]) ∧ Run B w0 w' K pd pv q A c f o u ∧ Kept K w w' := by
  obtain ⟨al, r⟩ := h
  have r1 := r.below hb1
  refine (Add_full w1 pd q A c al r1.drv ab m capb bufs hb hB hok hm h0 hfm).mono ?_
  rintro e w' ⟨rfl, h1⟩
  exact ⟨rfl, ⟨al, r1.below h1⟩, (r.kept hb1).trans (r1.kept h1)⟩
theorem Run.take_none (h : Run B w0 w K pd pv q A c f o u) (he : rd f (q.po + 2) 2 = o) :
    Calls Try.prog 43 #[.pointer (some ⟨pv, 0, none⟩)] w fun e w' => e = .returned (.tuple #[.int .i64 0, .slice none 0 0, .int .i64 2]) ∧ Run B w0 w' K pd pv q A c f o u ∧ Kept K w w' := by
  obtain ⟨al, r⟩ := h
  refine (Take_any w pv q o u f r.dev r.mem).mono ?_
  rintro e w' ⟨hm, hp⟩
  rcases hp with ⟨_, rfl, hd⟩ | ⟨hne, _⟩
  · exact ⟨rfl, r.dstep hd (r.mem.mods hm (fun e => r.dev.2.2.2 e.symm)) (hm.weak (fun b e => .inl (.inl e)))⟩
  · exact absurd he hne
theorem Run.take_some (h : Run B w0 w K pd pv q A c f o u) (hne : rd f (q.po + 2) 2 ≠ o) (hd : Nat) (hh : rd f (q.po + (4 + o % q.n * 2)) 2 = hd) (L : List Bf) (hL : rch f q.base q.n (q.n + 1) hd [] = some L) :
    Calls Try.prog 43 #[.pointer (some ⟨pv, 0, none⟩)] w fun e w' => ∃ v, e = .returned (.tuple #[.int .i64 hd, v, .int .i64 0]) ∧ w'.ownsRow w.heap.size 65 3 v L.length (cellsB L) ∧ Run B w0 w' (fun b => K b ∨ v.ownBlock = some b) pd pv q A c f ((o + 1) % 65536) u ∧ Kept K w w' := by
  obtain ⟨al, r⟩ := h
  refine (Take_any w pv q o u f r.dev r.mem).mono ?_
  rintro e w' ⟨hm, hp⟩
  rcases hp with ⟨he, _⟩ | ⟨_, hdv, hd', h1, _, h3⟩
  · exact absurd he hne
  · obtain rfl : hd' = hd := by rw [hh] at h1; omega
    obtain ⟨hr, hk⟩ := r.dstep hdv (r.mem.mods hm (fun e => r.dev.2.2.2 e.symm)) (hm.weak (fun b e => .inl (.inl e)))
    rcases h3 with ⟨h3, _⟩ | ⟨L', v, h3, rfl, h4⟩
    · rw [hL] at h3; cases h3
    · obtain rfl : L = L' := by rw [hL] at h3; simpa using h3
      refine ⟨v, rfl, h4, ?_, hk⟩
      have hg := r.mem.lt
      have hp := r.dev.lt
      have hs := hm.size
      refine ⟨al, r.drv.mods hm (fun b hb e => r.npv (e ▸ hb)), r.own, r.npv, r.bpv, r.bg, hdv, r.mem.mods hm (fun e => r.dev.2.2.2 e.symm), hm.to_below r.bel r.size (fun b e => by rw [e]; exact r.bpv), Nat.le_trans r.size hs, fun b hb => ?_⟩
      rcases hb with hb | hb
      · exact ⟨Nat.lt_of_lt_of_le (r.kp b hb).1 hs, (r.kp b hb).2⟩
      · obtain ⟨l1, l2⟩ := owns_lt h4 hb
        exact ⟨l1, fun e => by have := r.drv.lt b e; omega, by omega, by omega⟩
theorem Run.give (h : Run B w0 w K pd pv q A c f o u) (hd len : Int) (hb : giveB q.n hd len = true) :
    Calls Try.prog 27 #[.pointer (some ⟨pv, 0, none⟩), .int .i64 hd, .int .i64 len] w fun e w' => e = .returned (.int .i64 0) ∧ Run B w0 w' K pd pv q A c (given f q.pu q.n u hd len) o ((u + 1) % 65536) ∧ Kept K w w' := by
  obtain ⟨al, r⟩ := h
  refine (Give_ok w pv q o u f r.dev r.mem hd len hb).mono ?_
  rintro e w' ⟨rfl, h1, h2, h3⟩
  exact ⟨rfl, r.dstep h2 h3 h1⟩
theorem Run.used_none (h : Run B w0 w K pd pv q A c f o u) (he : rd f (q.pu + 2) 2 = A.uses) :
    Calls Try.prog 32 #[.pointer (some ⟨pd, 0, none⟩)] w fun e w' => e = .returned (.tuple #[.int .i64 0, .int .i64 0, .int .i64 2]) ∧ Run B w0 w' K pd pv q A c f o u ∧ Kept K w w' := by
  obtain ⟨al, r⟩ := h
  refine (Used_any w pd q A c al f r.drv r.mem).mono ?_
  rintro e w' ⟨hm, hp⟩
  rcases hp with ⟨_, rfl, hs⟩ | ⟨hne, _⟩
  · exact ⟨rfl, r.step hs hm⟩
  · exact absurd he hne
theorem Run.used_some (h : Run B w0 w K pd pv q A c f o u) (hne : rd f (q.pu + 2) 2 ≠ A.uses) (hd len : Int) (hh : rd f (q.pu + (4 + A.uses % q.n * 8)) 4 = hd) (hl : rd f (q.pu + (4 + A.uses % q.n * 8) + 4) 4 = len) (ch : List Nat) (hc : look A.fl hd = some ch) :
    Calls Try.prog 32 #[.pointer (some ⟨pd, 0, none⟩)] w fun e w' => e = .returned (.tuple #[.int .i64 hd, .int .i64 len, .int .i64 0]) ∧ Run B w0 w' K pd pv q (UseA A hd ch) c f o u ∧ Kept K w w' := by
  obtain ⟨al, r⟩ := h
  subst hh hl
  refine (Used_any w pd q A c al f r.drv r.mem).mono ?_
  rintro e w' ⟨hm, hp⟩
  rcases hp with ⟨he, _⟩ | ⟨_, h3⟩
  · exact absurd he hne
  · rcases h3 with ⟨h3, _⟩ | ⟨ch', h3, rfl, hs⟩
    · rw [hc] at h3; cases h3
    · obtain rfl : ch = ch' := by rw [hc] at h3; simpa using h3
      exact ⟨rfl, r.step hs hm⟩
theorem Run.free (h : Run B w0 w K pd pv q A c f o u) : Calls Try.prog 29 #[.pointer (some ⟨pd, 0, none⟩)] w fun e w' => e = .returned (.int .i64 A.free.length) ∧ w' = w :=
  let ⟨_, r⟩ := h; Free_any w pd q A c _ r.drv
end

/-- Both sides are made over memory of a law's own. -/
theorem made (B : Nat) (w0 w : World) (q : Qu) (len cap : Nat) (f : Nat → Int) (hbel : Below B w0 w) (hB : B ≤ w.heap.size) (hg : B ≤ q.g) (hm : Mem w q.g q.N f) (hp : pow2 q.n = true) (hf : q.base + (8 + 26 * q.n) ≤ len) (hc : len ≤ cap) (hl : len ≤ 1099511627776) :
    Calls Try.prog 39 #[.slice (some ⟨q.g, 0, none⟩) len cap, .int .i64 q.base, .int .i64 q.n] w fun e w1 => ∃ pd, e = .returned (.tuple #[.pointer (some ⟨pd, 0, none⟩), .int .i64 0]) ∧
    Calls Try.prog 42 #[.slice (some ⟨q.g, 0, none⟩) len cap, .int .i64 q.base, .int .i64 q.n] w1 fun e w2 => ∃ pv, e = .returned (.tuple #[.pointer (some ⟨pv, 0, none⟩), .int .i64 0]) ∧ Run B w0 w2 (fun _ => False) pd pv q (A0 q.n) 0 (zr f q.base (8 + 26 * q.n)) 0 0 := by
  refine (NewDriver_ok w q len cap f hm hp hf hc hl).mono ?_
  rintro e w1 ⟨pd, rfl, hmo, hm1, al, hd, hal⟩
  refine ⟨pd, rfl, ?_⟩
  have hgl := hm1.lt
  refine (NewDevice_ok w1 q len cap hp hf hc hl hgl).mono ?_
  rintro e w2 ⟨pv, rfl, hb2, hpv, hdv⟩
  have hs := hmo.size
  have hb1 : Below B w0 w1 := hmo.to_below hbel hB (fun b e => by rw [e]; exact hg)
  exact ⟨pv, rfl, al, hd.below hb2, fun b hb => Nat.le_trans hB (hal b hb), fun e => by have := hd.lt pv e; omega, by omega, hg, hdv, hm1.below hb2, hb1.trans (hb2.mono (by omega)), by have := hb2.size; omega, fun b e => e.elim⟩
theorem Sane.of_zr (q : Qu) (f : Nat → Int) (hp : pow2 q.n = true) : Sane q (zr f q.base (8 + 26 * q.n)) (A0 q.n) 0 [] := Sane.start q _ hp (fun i h1 h2 => by unfold zr; rw [if_pos ⟨h1, h2⟩])
theorem cell_kept {K : Nat → Prop} {w w' : World} (h : Kept K w w') {b o : Nat} (hb : K b) {v : Value} (hc : w.cell? ⟨b, o, none⟩ = some v) : w'.cell? ⟨b, o, none⟩ = some v := (World.cell?_of_block (w := w) (h b hb)).trans hc
end Go.Proofs.Ytpmbknlafeljlaa
