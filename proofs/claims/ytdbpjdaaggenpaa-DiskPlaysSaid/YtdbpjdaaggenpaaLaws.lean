/- What the laws' walks share: one block written; a disk that a law holds; bytes as a string. -/
import Derived.Test.YtdbpjdaaggenpaaWalkG
import Derived.Laws.BytesString
import Derived.Laws.BytesArg
namespace Go.Proofs.Ytdbpjdaaggenpaa
open Go.RowKit

/-- What block hands over, and Read: a whole row of its own. -/
def Fresh (w : World) (g : Nat) (l : List Int) : Prop := w.ownsRow 0 5 1 (.slice (some ⟨g, 0, none⟩) l.length l.length) l.length (l.map fun x => Value.int .u8 x)
theorem Fresh.lt {w : World} {g : Nat} {l : List Int} (h : Fresh w g l) : g < w.heap.size := (owns_lt h rfl).1
theorem Fresh.keep {w w' : World} {g : Nat} {l : List Int} (h : Fresh w g l) (hk : w'.heap[g]? = w.heap[g]?) : Fresh w' g l :=
  owns_keep h (fun g' hg => by have hg : some g = some g' := hg; obtain rfl : g = g' := by simpa using hg
                               exact hk)
theorem Fresh.below {w w' : World} {g : Nat} {l : List Int} (h : Fresh w g l) (hb : Below w.heap.size w w') : Fresh w' g l := h.keep (hb.block g h.lt)
theorem Fresh.mods {w w' : World} {g : Nat} {l : List Int} {al : Nat → Prop} (h : Fresh w g l) (hm : Mods al w w') (hn : ¬ al g) : Fresh w' g l := h.keep (hm.block g h.lt hn)
theorem Fresh.cell {w : World} {g : Nat} {l : List Int} (h : Fresh w g l) (j : Nat) (hj : j < l.length) : w.cell? ⟨g, j, none⟩ = some (.int .u8 (l.getD j 0)) := by
  rcases h.2 with ⟨e, _⟩ | ⟨g', cap, cur, e, _, hh, hc1, _, hcs, ht⟩
  · cases e
  · simp only [Value.slice.injEq, Option.some.injEq, Addr.mk.injEq] at e
    obtain ⟨⟨rfl, _⟩, _, _⟩ := e
    have : cur[j]? = some (.int .u8 (l.getD j 0)) := by
      have e : (cur.toList.take (l.length * 1))[j]? = (l.map fun x => Value.int .u8 x)[j]? := by rw [ht]
      rw [List.getElem?_take] at e
      simp [hj] at e
      simp [e, List.getD, hj]
    simp [World.cell?, hh, this]
theorem Fresh.of_rowIs {w : World} {g : Nat} {l : List Int} (h : w.rowIs g 5 l.length (fun i => .int .u8 (l.getD i 0))) (hl : l.length ≤ maxLen) : Fresh w g l := rowIs_owns h hl
theorem Fresh.conv {w : World} {g : Nat} {l : List Int} {k : Nat} (h : Fresh w g l) (hk : l.length = k) : (convert 42 9 (.slice (some ⟨g, 0, none⟩) k k)).run Try.prog w = .ok (.string (strOfNums l)) w := by
  subst hk
  exact run_convert_bytes_arg w 42 5 Try.underlying42 Try.underlying5 g 0 l.length l.length l rfl (fun i hi => by rw [Nat.zero_add]; exact h.cell i hi) 9 Try.underlying9

theorem block_f (b : Int) (w : World) : Calls Try.prog 20 #[.int .u8 b] w fun e w' => e = .returned (.slice (some ⟨w.heap.size, 0, none⟩) 512 512) ∧ Below w.heap.size w w' ∧ Fresh w' w.heap.size (blk b) := by
  refine (block_any b w).mono ?_
  rintro e w' ⟨rfl, h1, h2⟩
  refine ⟨rfl, h1, ?_⟩
  unfold Fresh
  rw [blk_len]
  exact h2

def wr1 (A : Abs) (x : Int) (l : List Int) : Abs := { A with V := upd A.V x (A.V x ++ [l]) }
theorem wrA_one (A : Abs) (x : Int) (l : List Int) : wrA A x [l] = wr1 A x l := by
  have := wrA_snoc A x [] l
  rw [List.nil_append] at this
  rw [this]
  simp [wrA_nil, wr1]

theorem WriteBlk (w : World) (pd : Nat) (A : Abs) (n : Nat) (al : Nat → Prop) (hd : Disk w pd A n al) (x : Int) (g : Nat) (l : List Int) (hf : Fresh w g l) (hl : l.length = 512) (hB : ∀ y ∈ l, IsB y) (hng : ¬ al g) (hh : hasB A.N x 1 = true) (hn : n ≤ 549755813888) :
    Calls Try.prog 14 #[.pointer (some ⟨pd, 0, none⟩), .int .i64 x, .slice (some ⟨g, 0, none⟩) 512 512] w fun e w' => e = .returned (.int .i64 0) ∧ Step w w' pd (wr1 A x l) (n + 1) al := by
  have := Write_any w pd A n al hd x g 0 512 1 512 rfl (by omega) (by omega) (by simpa using hh) hn [l] rfl (fun i hi => by
      obtain rfl : i = 0 := by omega
      exact ⟨hl, hB⟩) (fun i hi j hj => by
      obtain rfl : i = 0 := by omega
      have := hf.cell j (by omega)
      simpa using this) hf.lt hng
  rw [wrA_one] at this
  exact this

/-- A disk that a law holds, in blocks of the law's own. -/
structure St (B : Nat) (w0 w : World) (pd : Nat) (A : Abs) (n : Nat) (al : Nat → Prop) : Prop where
  disk : Disk w pd A n al
  own : ∀ b, al b → B ≤ b
  bel : Below B w0 w
  size : B ≤ w.heap.size
theorem St.below {B : Nat} {w0 w w' : World} {pd : Nat} {A : Abs} {n : Nat} {al : Nat → Prop} (h : St B w0 w pd A n al) (hb : Below w.heap.size w w') : St B w0 w' pd A n al :=
  ⟨h.disk.below hb, h.own, h.bel.trans (hb.mono h.size), Nat.le_trans h.size hb.size⟩
theorem St.drew {B : Nat} {w0 w : World} {pd : Nat} {A : Abs} {n : Nat} {al : Nat → Prop} (h : St B w0 w pd A n al) : St B w0 w.drew pd A n al := h.below ((Below.refl _ w).drew)
theorem St.step {B : Nat} {w0 w w' : World} {pd : Nat} {A A' : Abs} {n n' : Nat} {al : Nat → Prop} (h : St B w0 w pd A n al) (hs : Step w w' pd A' n' al) :
    ∃ al', St B w0 w' pd A' n' al' ∧ (∀ b, al' b → al b ∨ w.heap.size ≤ b) ∧ Mods al w w' := by
  obtain ⟨al', h1, h2, h3⟩ := hs
  exact ⟨al', ⟨h1, fun b hb => (h2 b hb).elim (h.own b) (fun h' => Nat.le_trans h.size h'), h3.below h.bel h.size h.own, Nat.le_trans h.size h3.size⟩, h2, h3⟩
theorem St.new {al : Nat → Prop} {w : World} {pd : Nat} {A : Abs} {n g : Nat} (h : Disk w pd A n al) (hg : w.heap.size ≤ g) : ¬ al g := fun ha => by have := h.lt g ha; omega

theorem read_f (w : World) (pd : Nat) (A : Abs) (n : Nat) (al : Nat → Prop) (hd : Disk w pd A n al) (x : Int) (m M : Nat) (hM : M = m * 512) (hm : m ≤ 65536) (hh : hasB A.N x m = true) :
    Calls Try.prog 19 #[.pointer (some ⟨pd, 0, none⟩), .int .i64 x, .int .i64 m] w fun e w' => e = .returned (.tuple #[.slice (some ⟨w.heap.size, 0, none⟩) M M, .int .i64 0]) ∧ Below w.heap.size w w' ∧ Fresh w' w.heap.size (readTo A x m) ∧ (readTo A x m).length = M := by
  subst hM
  have hx : 0 ≤ x ∧ x + m ≤ 65536 := by
    have hN : A.N ≤ 65536 := let ⟨_, _, _, _, d⟩ := hd; d.hN.2
    unfold hasB at hh; simp at hh; omega
  have hlen : (readTo A x m).length = m * 512 := by
    obtain ⟨_, _, _, _, d⟩ := hd
    have gen : ∀ k, k ≤ m → (readTo A x k).length = k * 512 := by
      intro k
      induction k with
      | zero => intro _; rfl
      | succ k ih => intro hk; rw [readTo, List.length_append, ih (by omega), d.block_len _ (isI_of (by omega) (by omega))]; omega
    exact gen m (Nat.le_refl _)
  refine (Read_any w pd A n al hd x m hm hh).mono ?_
  rintro e w' ⟨rfl, h1, h2⟩
  refine ⟨rfl, h1, Fresh.of_rowIs (by rw [hlen]; exact h2) (by rw [hlen]; unfold maxLen; omega), hlen⟩

/-- The one block that is dirty. -/
theorem dirty_one {A : Abs} {L : List Int} (h : DirtyL A L) (x : Int) (hx : ∀ k, A.V k ≠ [] ↔ k = x) : L = [x] := by
  obtain ⟨hp, hm⟩ := h
  have hmem : ∀ k, k ∈ L ↔ k = x := fun k => (hm k).trans (hx k)
  match L, hp, hmem with
  | [], _, hmem => have := (hmem x).2 rfl; simp at this
  | [y], _, hmem => have := (hmem y).1 (by simp); rw [this]
  | y :: z :: r, hp, hmem =>
    have h1 := (hmem y).1 (by simp)
    have h2 := (hmem z).1 (by simp)
    have h3 := (List.pairwise_cons.1 hp).1 z (by simp)
    omega
theorem dirty_none {A : Abs} {L : List Int} (h : DirtyL A L) (hx : ∀ k, A.V k = []) : L = [] := by
  match L, h with
  | [], _ => rfl
  | y :: r, h => exact absurd (hx y) ((h.2 y).1 (by simp))
end Go.Proofs.Ytdbpjdaaggenpaa
