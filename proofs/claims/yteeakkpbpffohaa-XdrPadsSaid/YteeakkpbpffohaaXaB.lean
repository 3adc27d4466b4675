/- Writers in memory, the program's and the document's; numbers put behind what there is. -/
import Derived.Test.YteeakkpbpffohaaXaA
namespace Go.Proofs.Yteeakkpbpffohaa
open Go.RowKit Go.Maps
set_option linter.unusedVariables false

def pad4 (n : Nat) : Nat := (4 - n % 4) % 4
theorem pad4_lt (n : Nat) : pad4 n < 4 := by unfold pad4; omega
/-- Bytes and the noughts behind them. -/
def pdL (b : List Int) : List Int := b ++ List.replicate (pad4 b.length) 0
/-- Bytes with their length ahead. -/
def fuL (b : List Int) : List Int := bytesBe 4 b.length ++ pdL b
theorem pdL_len (b : List Int) : (pdL b).length = b.length + pad4 b.length := by simp [pdL]
theorem fuL_len (b : List Int) : (fuL b).length = 4 + (b.length + pad4 b.length) := by simp [fuL, pdL_len, len_be]
theorem pdL_isB (b : List Int) (h : ∀ x ∈ b, IsB x) : ∀ x ∈ pdL b, IsB x := fun x hx => by
  rcases List.mem_append.1 hx with h1 | h1
  · exact h x h1
  · rw [(List.mem_replicate.1 h1).2]; unfold IsB; omega
theorem fuL_isB (b : List Int) (h : ∀ x ∈ b, IsB x) : ∀ x ∈ fuL b, IsB x := fun x hx => by
  rcases List.mem_append.1 hx with h1 | h1
  · exact be_isB _ _ x h1
  · exact pdL_isB b h x h1
theorem app_isB {l m : List Int} (h : ∀ x ∈ l, IsB x) (h' : ∀ x ∈ m, IsB x) : ∀ x ∈ l ++ m, IsB x := fun x hx => by
  rcases List.mem_append.1 hx with h1 | h1
  · exact h x h1
  · exact h' x h1
/-- A writer at block p, of type T, over l; its blocks S. -/
structure WX (w : World) (T : TypeId) (p : Nat) (S : Nat → Prop) (l : List Int) : Prop where
  t5 : T ≠ 5
  isB : ∀ x ∈ l, IsB x
  box : ∃ v, w.heap[p]? = some (.cells #[v] T (0, 0)) ∧ RW w 5 1 v l.length (u8s l) ∧ ∀ b, blkV v = some b → S b
  sp : S p
  slt : ∀ b, S b → b < w.heap.size
section
variable {w w' : World} {T : TypeId} {p : Nat} {S : Nat → Prop} {l : List Int}
theorem WX.keep (h : WX w T p S l) (hk : ∀ b, S b → w'.heap[b]? = w.heap[b]?) (hs : w.heap.size ≤ w'.heap.size) : WX w' T p S l := by
  obtain ⟨v, h1, h2, h3⟩ := h.box
  exact ⟨h.t5, h.isB, ⟨v, (hk p h.sp).trans h1, h2.keep (fun b hb => hk b (h3 b hb)), h3⟩, h.sp, fun b hb => Nat.lt_of_lt_of_le (h.slt b hb) hs⟩
theorem WX.later (h : WX w T p S l) (hb : Below w.heap.size w w') : WX w' T p S l := h.keep (fun b hb2 => hb.block b (h.slt b hb2)) hb.size
/-- Another's call leaves it alone. -/
theorem WX.beside {S2 S2' : Nat → Prop} (h : WX w T p S l) (hk : Kp S2 w S2' w') (hd : ∀ b, S b → ¬ S2 b) : WX w' T p S l := h.keep (fun b hb => hk.block (h.slt b hb) (hd b hb)) hk.2.size
theorem WX.ne (h : WX w T p S l) {v : Value} (h1 : w.heap[p]? = some (.cells #[v] T (0, 0))) {v2 : Value} {n : Nat} {X : List Value} (h2 : RW w 5 1 v2 n X) : blkV v2 ≠ some p := fun e => by
  obtain ⟨cur, hk⟩ := h2.kind e
  rw [h1] at hk
  simp only [Option.some.injEq, Obj.cells.injEq] at hk
  exact h.t5 hk.2.1
/-- Its row turns. -/
theorem WX.turn (h : WX w T p S l) {v v2 : Value} {w2 : World} (h1 : w.heap[p]? = some (.cells #[v] T (0, 0))) (hr : RW w 5 1 v l.length (u8s l)) (hS : ∀ b, blkV v = some b → S b) {l2 : List Int} (hc : RWc w v w2 v2 l2) (hI : ∀ x ∈ l2, IsB x) :
    w2.heap[p]? = some (.cells #[v] T (0, 0)) ∧ ∃ S', WX (w2.setCell ⟨p, 0, none⟩ v2) T p S' l2 ∧ Kp S w S' (w2.setCell ⟨p, 0, none⟩ v2) := by
  have hbp : w2.heap[p]? = some (.cells #[v] T (0, 0)) := (hc.2.1.block p (h.slt p h.sp) (h.ne h1 hr)).trans h1
  have hsz : (w2.setCell ⟨p, 0, none⟩ v2).heap.size = w2.heap.size := by simp [World.setCell]
  refine ⟨hbp, fun b => S b ∨ blkV v2 = some b, ⟨h.t5, hI, ⟨v2, setc hbp 0 v2, ?_, fun b hb => .inr hb⟩, .inl h.sp, ?_⟩, ?_, ?_⟩
  · refine hc.1.keep (fun b hb => ?_)
    have hne : b ≠ p := fun e => by
      subst e
      obtain ⟨cur, hk⟩ := hc.1.kind hb
      rw [hbp] at hk
      simp only [Option.some.injEq, Obj.cells.injEq] at hk
      exact h.t5 hk.2.1
    exact ((Mods.refl (fun b => b = p) w2).setCell p 0 _ rfl).block b (hc.1.lt hb) hne
  · intro b hb
    rw [hsz]
    rcases hb with e | e
    · exact Nat.lt_of_lt_of_le (h.slt b e) hc.2.1.size
    · exact hc.1.lt e
  · intro b hb
    rcases hb with e | e
    · exact .inl e
    · rcases hc.2.2 with e2 | ⟨x, hx, e2⟩
      · exact .inl (hS b (by rw [← e2]; exact e))
      · rw [e2] at e; simp at e; exact .inr (by omega)
  · exact (hc.2.1.weak (al' := S) (fun b hb => .inl (hS b hb))).setCell p 0 v2 h.sp
end
theorem truth_any (b : Bool) (w : World) : Calls Try.prog 42 #[.bool b] w fun e w' => e = .returned (.int .u64 (if b then 1 else 0)) ∧ w' = w := by
  cases b
  · go_enter Try.func42, Try.ntmps42
    go_wp2
    go_ret
    exact ⟨rfl, rfl⟩
  · go_enter Try.func42, Try.ntmps42
    go_wp2
    go_ret
    exact ⟨rfl, rfl⟩
theorem padding_any (n : Nat) (hn : n ≤ 9223372036854775807) (w : World) : Calls Try.prog 60 #[.int .i64 n] w fun e w' => e = .returned (.int .i64 (pad4 n : Nat)) ∧ w' = w := by
  have e1 : ((n : Int)).tmod 4 = ((n % 4 : Nat) : Int) := by
    rw [Int.tmod_eq_emod_of_nonneg (by omega)]; omega
  have hlt : n % 4 < 4 := Nat.mod_lt _ (by omega)
  have e2 : (4 - ((n % 4 : Nat) : Int)).tmod 4 = ((pad4 n : Nat) : Int) := by
    rw [Int.tmod_eq_emod_of_nonneg (by omega)]; unfold pad4; omega
  have w1 : IntKind.i64.wrap ((n : Int).tmod 4) = (n : Int).tmod 4 := IntWalk.i64_in _ (by rw [e1]; omega)
  have w2 : IntKind.i64.wrap (4 - (n : Int).tmod 4) = 4 - (n : Int).tmod 4 := IntWalk.i64_in _ (by rw [e1]; omega)
  have w3 : IntKind.i64.wrap ((4 - (n : Int).tmod 4).tmod 4) = (4 - (n : Int).tmod 4).tmod 4 := IntWalk.i64_in _ (by rw [e1, e2]; have := pad4_lt n; omega)
  have HE : Hid ((4 - (n : Int).tmod 4).tmod 4 = ((pad4 n : Nat) : Int)) := hid (by rw [e1, e2])
  clear e1 e2 hlt
  go_enter Try.func60, Try.ntmps60
  go_wp2
  go_ret
  refine ⟨ret_int ?_, rfl⟩
  first | exact HE.out | (unfold pad4; omega)
end Go.Proofs.Yteeakkpbpffohaa
