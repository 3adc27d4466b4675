/- Both tables side by side; the steps that come in. -/
import Derived.Test.YthgmghfegaemkaaQeF
import Derived.Test.YthgmghfegaemkaaQeH
import Derived.Test.YthgmghfegaemkaaQbH
namespace Go.Proofs.Ythgmghfegaemkaa
open Go.RowKit Go.Maps
set_option linter.unusedVariables false

/-- The program's table holds L, the document's M. -/
structure PH (w0 w : World) (p : Nat) (S : Nat → Prop) (q : Nat) (T : Nat → Prop) (N : Nat) (L M : Tl) (c : Nat) : Prop where
  t : TbAt w p S N L c
  d : DbAt w q T N M
  dis : ∀ b, S b → T b → False
  bel : Below w0.heap.size w0 w
  s0 : ∀ b, S b → w0.heap.size ≤ b
  t0 : ∀ b, T b → w0.heap.size ≤ b
section
variable {w0 w w' : World} {p q : Nat} {S T S' T' : Nat → Prop} {N : Nat} {L M L' M' : Tl} {c c' : Nat}
theorem TbAt.lt (h : TbAt w p S N L c) : ∀ b, S b → b < w.heap.size := let ⟨_, _, h1⟩ := h; h1.slt
theorem DbAt.lt (h : DbAt w q T N L) : ∀ b, T b → b < w.heap.size := let ⟨_, _, _, h1⟩ := h; h1.slt
theorem TbAt.mono (h : TbAt w p S N L c) (hc : c ≤ c') : TbAt w p S N L c' := let ⟨gm, vo, h1⟩ := h; ⟨gm, vo, h1.mono hc⟩
theorem PH.later (h : PH w0 w p S q T N L M c) (hb : Below w.heap.size w w') : PH w0 w' p S q T N L M c :=
  ⟨h.t.later hb, h.d.later hb, h.dis, h.bel.trans (hb.mono h.bel.size), h.s0, h.t0⟩
theorem PH.prog (h : PH w0 w p S q T N L M c) (ht : TbAt w' p S' N L' c') (hk : Kp S w S' w') : PH w0 w' p S' q T N L' M c' :=
  ⟨ht, h.d.keep (fun b hb => hk.block (h.d.lt b hb) (fun hs => h.dis b hs hb)) hk.2.size, fun b hs hb => by
    rcases hk.1 b hs with h1 | h1
    · exact h.dis b h1 hb
    · have := h.d.lt b hb; omega, (Kp.below0 hk h.bel h.s0).1, (Kp.below0 hk h.bel h.s0).2, h.t0⟩
theorem PH.doc (h : PH w0 w p S q T N L M c) (hd : DbAt w' q T' N M') (hk : Kp T w T' w') : PH w0 w' p S q T' N L M' c :=
  ⟨h.t.keep (fun b hb => hk.block (h.t.lt b hb) (fun ht => h.dis b hb ht)) hk.2.size, hd, fun b hs hb => by
    rcases hk.1 b hb with h1 | h1
    · exact h.dis b hs h1
    · have := h.t.lt b hs; omega, (Kp.below0 hk h.bel h.t0).1, h.s0, (Kp.below0 hk h.bel h.t0).2⟩
/-- What is nobody's has turned. -/
theorem PH.aside (h : PH w0 w p S q T N L M c) {U : Nat → Prop} (hm : Mods U w w') (hu : ∀ b, U b → w0.heap.size ≤ b ∧ ¬ S b ∧ ¬ T b) : PH w0 w' p S q T N L M c :=
  ⟨h.t.keep (fun b hb => hm.block b (h.t.lt b hb) (fun e => (hu b e).2.1 hb)) hm.size, h.d.keep (fun b hb => hm.block b (h.d.lt b hb) (fun e => (hu b e).2.2 hb)) hm.size, h.dis, hm.to_below h.bel h.bel.size (fun b hb => (hu b hb).1), h.s0, h.t0⟩
end
/-- A block beside both. -/
def BX (w : World) (S T : Nat → Prop) (g : Nat) (cs : Array Value) (t : TypeId) : Prop := w.heap[g]? = some (.cells cs t (0, 0)) ∧ ¬ S g ∧ ¬ T g
section
variable {w w' : World} {S T S' T' : Nat → Prop} {g : Nat} {cs : Array Value} {t : TypeId}
theorem BX.lt (h : BX w S T g cs t) : g < w.heap.size := (Array.getElem?_eq_some_iff.1 h.1).1
theorem BX.prog (h : BX w S T g cs t) (hk : Kp S w S' w') : BX w' S' T g cs t := ⟨(hk.block h.lt h.2.1).trans h.1, hk.off h.lt h.2.1, h.2.2⟩
theorem BX.doc (h : BX w S T g cs t) (hk : Kp T w T' w') : BX w' S T' g cs t := ⟨(hk.block h.lt h.2.2).trans h.1, h.2.1, hk.off h.lt h.2.2⟩
theorem BX.later (h : BX w S T g cs t) (hb : Below w.heap.size w w') : BX w' S T g cs t := ⟨(hb.block g h.lt).trans h.1, h.2⟩
end
theorem beL_len {N : Nat} {L : Tl} (h : L.length ≤ N) (hN : 0 < N) (k : Ky) : (beL N L k).length ≤ N := by
  unfold beL
  split
  · exact h
  · cases hr : rmT N L with
    | none => exact h
    | some M =>
      have := rmT_len hr h hN
      simp [runT]
      omega
def Sm (L : Tl) : Prop := ∀ e ∈ L, ∀ l, e.2 = some l → l.length ≤ 3000
theorem Sm.nil : Sm [] := fun e he => by simp at he
theorem Sm.be {N : Nat} {L : Tl} (h : Sm L) (k : Ky) : Sm (beL N L k) := by
  unfold beL
  split
  · exact h
  · cases hr : rmT N L with
    | none => exact h
    | some M =>
      intro e he l hl
      simp only [Option.map_some, Option.getD_some, runT, List.mem_append, List.mem_singleton] at he
      rcases he with h1 | h1
      · refine h e ?_ l hl
        unfold rmT at hr
        split at hr
        · simp at hr; rw [hr]; exact h1
        · cases hd : dIx L with
          | none => rw [hd] at hr; simp at hr
          | some i => rw [hd] at hr; simp at hr; subst hr; exact List.mem_of_mem_eraseIdx h1
      · subst h1; simp at hl
theorem Sm.en {L : Tl} (h : Sm L) (k : Ky) (r : List Int) (hr : r.length ≤ 3000) : Sm (enL L k r) := by
  unfold enL
  split
  · intro e he l hl
    unfold doneT at he
    obtain ⟨f, hf, rfl⟩ := List.mem_map.1 he
    split at hl
    · simp at hl; subst hl; exact hr
    · exact h f hf l hl
  · exact h
theorem enL_len (L : Tl) (k : Ky) (r : List Int) : (enL L k r).length = L.length := by
  unfold enL
  split
  · exact doneT_len _ _ _
  · rfl
theorem Sm.got {L : Tl} (h : Sm L) (k : Ky) (l : List Int) (hf : fndT L k = some (some l)) : l.length ≤ 900000 := by
  unfold fndT at hf
  cases hx : L.find? (fun e => decide (e.1 = k)) with
  | none => rw [hx] at hf; simp at hf
  | some e =>
    rw [hx] at hf
    simp at hf
    have := h e (List.mem_of_find?_eq_some hx) l hf
    omega
theorem beR_len {L : Tl} (h : Sm L) (k : Ky) : (beR L k).length ≤ 3000 := by
  unfold beR
  cases hf : fndT L k with
  | none => simp
  | some o =>
    cases o with
    | none => simp
    | some l =>
      show l.length ≤ 3000
      unfold fndT at hf
      cases hx : L.find? (fun e => decide (e.1 = k)) with
      | none => rw [hx] at hf; simp at hf
      | some e =>
        rw [hx] at hf
        simp at hf
        exact h e (List.mem_of_find?_eq_some hx) l hf
/-! ### steps -/
structure Stp where
  kd : Int
  K : Ky
  a : Option Addr
  n : Nat
  c : Nat
  r : List Int
deriving Inhabited
structure Stp.ok (W : World) (s : Stp) : Prop where
  kd : IsI s.kd
  K : s.K.Ok
  n : s.r.length = s.n
  by_ : Bytes W s.a s.r
abbrev stC (s : Stp) : Array Value := #[.int .i64 s.kd, .int .u32 s.K.ip, .int .i64 s.K.port, .int .u32 s.K.xid, .int .u32 s.K.proc, .int .u32 s.K.sum, .slice s.a s.n s.c]
abbrev stZ : Array Value := #[.int .i64 0, .int .u32 0, .int .i64 0, .int .u32 0, .int .u32 0, .int .u32 0, .slice none 0 0]
def StR (W : World) (a0 : Option Addr) (l : List Stp) : Prop := ∀ i, i < l.length → (l.getD i default).ok W ∧ ∃ b off, a0 = some ⟨b, off, none⟩ ∧ ∀ j, j < 7 → W.cell? ⟨b, off + i * 7 + j, none⟩ = (stC (l.getD i default))[j]?
theorem sizeSt : (Try.prog.info? 36).map (·.size) = some 7 := by kernel_rfl
theorem stOne (s : Stp) : (stC s).all (·.oneCell') = true := by simp [Value.oneCell']
/-- A step is laid in a new block. -/
theorem box_st (w : World) (s : Stp) : ∃ W2 W3 g, w.heap.size = g ∧ W2 = w.alloc (.cells stZ 36) ∧ W2.heap[g]? = some (.cells stZ 36 (0, 0)) ∧ W3 = W2.setRow g (stC s) ∧ W3.heap[g]? = some (.cells (stC s) 36 (0, 0)) ∧ Below w.heap.size w W3 := by
  have b := below_alloc (Below.refl w.heap.size w) (Nat.le_refl _) (.cells stZ 36)
  have h2 := alloc_new w (.cells stZ 36)
  exact ⟨_, _, _, rfl, rfl, h2, rfl, setRow_heap _ _ _ _ _ _ h2, (setRow_mods _ _ _).to_below b b.size (fun y hy => by rw [hy]; exact Nat.le_refl _)⟩
end Go.Proofs.Ythgmghfegaemkaa
