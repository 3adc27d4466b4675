/- Both writers, each over what it has: their calls. -/
import Derived.Test.YteeakkpbpffohaaXbC
namespace Go.Proofs.Yteeakkpbpffohaa
open Go.RowKit Go.Maps
set_option linter.unusedVariables false

/-- The program's writer at p over L, the document's at q over M, in blocks since w0. -/
structure TV (w0 w : World) (p q : Nat) (L M : List Int) : Prop where
  ex : ∃ S1 S2, WX w 73 p S1 L ∧ WX w 42 q S2 M ∧ (∀ b, S1 b → ¬ S2 b) ∧ (∀ b, S1 b → w0.heap.size ≤ b) ∧ (∀ b, S2 b → w0.heap.size ≤ b)
  bl : Below w0.heap.size w0 w
theorem TV.later {w0 w w' : World} {p q : Nat} {L M : List Int} (h : TV w0 w p q L M) (hb : Below w.heap.size w w') : TV w0 w' p q L M := by
  obtain ⟨S1, S2, h1, h2, h3, h4, h5⟩ := h.ex
  exact ⟨⟨S1, S2, h1.later hb, h2.later hb, h3, h4, h5⟩, h.bl.trans (hb.mono h.bl.size)⟩
/-- A call of the program's writer. -/
theorem TV.mine {w0 w : World} {p q : Nat} {L M L' : List Int} {f : FuncId} {args : Array Value} (h : TV w0 w p q L M)
    (hc : ∀ S, WX w 73 p S L → (∀ b, S b → w0.heap.size ≤ b) → Calls Try.prog f args w fun e w' => e = .returned (.tuple #[]) ∧ ∃ S', WX w' 73 p S' L' ∧ Kp S w S' w') :
    Calls Try.prog f args w fun e w' => e = .returned (.tuple #[]) ∧ TV w0 w' p q L' M := by
  obtain ⟨⟨S1, S2, h1, h2, h3, h4, h5⟩, hbl⟩ := h
  refine (hc S1 h1 h4).mono ?_
  rintro e w' ⟨rfl, S', hx, hk⟩
  obtain ⟨g1, g2⟩ := hk.below0 hbl h4
  refine ⟨rfl, ⟨S', S2, hx, h2.beside hk (fun b hb e => h3 b e hb), fun b hb e => ?_, g2, h5⟩, g1⟩
  rcases hk.1 b hb with g | g
  · exact h3 b g e
  · have := h2.slt b e; omega
/-- A call of the document's. -/
theorem TV.theirs {w0 w : World} {p q : Nat} {L M M' : List Int} {f : FuncId} {args : Array Value} (h : TV w0 w p q L M)
    (hc : ∀ S, WX w 42 q S M → (∀ b, S b → w0.heap.size ≤ b) → Calls Try.prog f args w fun e w' => e = .returned (.tuple #[]) ∧ ∃ S', WX w' 42 q S' M' ∧ Kp S w S' w') :
    Calls Try.prog f args w fun e w' => e = .returned (.tuple #[]) ∧ TV w0 w' p q L M' := by
  obtain ⟨⟨S1, S2, h1, h2, h3, h4, h5⟩, hbl⟩ := h
  refine (hc S2 h2 h5).mono ?_
  rintro e w' ⟨rfl, S', hx, hk⟩
  obtain ⟨g1, g2⟩ := hk.below0 hbl h5
  refine ⟨rfl, ⟨S1, S', h1.beside hk h3, hx, fun b hb e => ?_, h4, g2⟩, g1⟩
  rcases hk.1 b e with g | g
  · exact h3 b hb g
  · have := h1.slt b hb; omega
theorem U32s.later {w w' : World} {a : Option Addr} {l : List Int} (h : U32s w a l) (hb : Below w.heap.size w w') : U32s w' a l := fun i hi => by
  obtain ⟨b, off, ha, hc, hx⟩ := h i hi
  exact ⟨b, off, ha, cell_later hb hc, hx⟩
theorem Trus.later {w w' : World} {a : Option Addr} {l : List Bool} (h : Trus w a l) (hb : Below w.heap.size w w') : Trus w' a l := fun i hi => by
  obtain ⟨b, off, ha, hc⟩ := h i hi
  exact ⟨b, off, ha, cell_later hb hc⟩
theorem rowsK_of {w0 w : World} {S : Nat → Prop} {a : Option Addr} {ls : List (List Int)} (h : RowsOf w0 a ls) (hbl : Below w0.heap.size w0 w) (h4 : ∀ b, S b → w0.heap.size ≤ b) : RowsK S w a ls := fun i hi => by
  obtain ⟨b, off, ai, ci, e, hc, hb⟩ := h i hi
  exact ⟨b, off, ai, ci, e, fun W S2 hk => ⟨cell_later (hk.below0 hbl h4).1 hc, hb.later (hk.below0 hbl h4).1⟩⟩
section
variable {w0 w : World} {p q : Nat} {L M : List Int}
theorem TV.pU32 (h : TV w0 w p q L M) (m cap : Nat) (a2 : Option Addr) (vs : List Int) (hm : vs.length = m) (hml : m ≤ 100) (hw : U32s w0 a2 vs) (hl : L.length ≤ 600000) :
    Calls Try.prog 18 #[.pointer (some ⟨p, 0, none⟩), .slice a2 m cap] w fun e w' => e = .returned (.tuple #[]) ∧ TV w0 w' p q (L ++ nuL 4 vs) M :=
  h.mine fun S hx hS => WU32_any hx m cap a2 vs hm (by omega) (fun W S2 hk => hw.later (hk.below0 h.bl hS).1) (by omega)
theorem TV.pU64 (h : TV w0 w p q L M) (m cap : Nat) (a2 : Option Addr) (vs : List Int) (hm : vs.length = m) (hml : m ≤ 100) (hw : Words w0 a2 vs) (hl : L.length ≤ 600000) :
    Calls Try.prog 19 #[.pointer (some ⟨p, 0, none⟩), .slice a2 m cap] w fun e w' => e = .returned (.tuple #[]) ∧ TV w0 w' p q (L ++ nuL 8 vs) M :=
  h.mine fun S hx hS => WU64_any hx m cap a2 vs hm (by omega) (hw.later h.bl) (by omega)
theorem TV.pBool (h : TV w0 w p q L M) (m cap : Nat) (a2 : Option Addr) (vs : List Bool) (hm : vs.length = m) (hml : m ≤ 100) (hw : Trus w0 a2 vs) (hl : L.length ≤ 600000) :
    Calls Try.prog 20 #[.pointer (some ⟨p, 0, none⟩), .slice a2 m cap] w fun e w' => e = .returned (.tuple #[]) ∧ TV w0 w' p q (L ++ nuL 4 (tnums vs)) M :=
  h.mine fun S hx hS => WBool_any hx m cap a2 vs hm (by omega) (fun W S2 hk => hw.later (hk.below0 h.bl hS).1) (by omega)
theorem TV.pBytes (h : TV w0 w p q L M) (m cap : Nat) (a2 : Option Addr) (ls : List (List Int)) (hm : ls.length = m) (hml : m ≤ 100) (hw : RowsOf w0 a2 ls) (hl : ∀ k, (L ++ (ls.take k).flatMap fuL).length ≤ 700000) (hbl : ∀ b ∈ ls, b.length ≤ 3000) :
    Calls Try.prog 25 #[.pointer (some ⟨p, 0, none⟩), .slice a2 m cap] w fun e w' => e = .returned (.tuple #[]) ∧ TV w0 w' p q (L ++ ls.flatMap fuL) M :=
  h.mine fun S hx hS => WBytes_any hx m cap a2 ls hm (by omega) (rowsK_of hw h.bl hS) hl hbl
theorem TV.pFixed (h : TV w0 w p q L M) (m cap : Nat) (a2 : Option Addr) (ls : List (List Int)) (hm : ls.length = m) (hml : m ≤ 100) (hw : RowsOf w0 a2 ls) (hl : ∀ k, (L ++ (ls.take k).flatMap pdL).length ≤ 700000) (hbl : ∀ b ∈ ls, b.length ≤ 3000) :
    Calls Try.prog 27 #[.pointer (some ⟨p, 0, none⟩), .slice a2 m cap] w fun e w' => e = .returned (.tuple #[]) ∧ TV w0 w' p q (L ++ ls.flatMap pdL) M :=
  h.mine fun S hx hS => WFixed_any hx m cap a2 ls hm (by omega) (rowsK_of hw h.bl hS) hl hbl
theorem TV.rU32 (h : TV w0 w p q L M) (x : Int) (hx : IsU x) (hl : M.length ≤ 600000) :
    Calls Try.prog 21 #[.pointer (some ⟨q, 0, none⟩), .int .u32 x] w fun e w' => e = .returned (.tuple #[]) ∧ TV w0 w' p q L (M ++ bytesBe 4 x) :=
  h.theirs fun S hw hS => rWU32_any hw x hx (by omega)
theorem TV.rU64 (h : TV w0 w p q L M) (x : Int) (hx : IsW x) (hl : M.length ≤ 600000) :
    Calls Try.prog 22 #[.pointer (some ⟨q, 0, none⟩), .int .u64 x] w fun e w' => e = .returned (.tuple #[]) ∧ TV w0 w' p q L (M ++ bytesBe 8 x) :=
  h.theirs fun S hw hS => rWU64_any hw x hx (by omega)
theorem TV.rBool (h : TV w0 w p q L M) (x : Bool) (hl : M.length ≤ 600000) :
    Calls Try.prog 23 #[.pointer (some ⟨q, 0, none⟩), .bool x] w fun e w' => e = .returned (.tuple #[]) ∧ TV w0 w' p q L (M ++ bytesBe 4 (tnum x)) :=
  h.theirs fun S hw hS => rWBool_any hw x (by omega)
theorem TV.rBytes (h : TV w0 w p q L M) (n cp : Nat) (a : Option Addr) (b : List Int) (hn : b.length = n) (hb : Bytes w0 a b) (hn3 : n ≤ 3000) (hl : M.length ≤ 500000) :
    Calls Try.prog 24 #[.pointer (some ⟨q, 0, none⟩), .slice a n cp] w fun e w' => e = .returned (.tuple #[]) ∧ TV w0 w' p q L (M ++ fuL b) :=
  h.theirs fun S hw hS => rWBytes_any hw n cp a b hn (fun W S2 hk => hb.later (hk.below0 h.bl hS).1) hn3 (by omega)
theorem TV.rFixed (h : TV w0 w p q L M) (n cp : Nat) (a : Option Addr) (b : List Int) (hn : b.length = n) (hb : Bytes w0 a b) (hn3 : n ≤ 3000) (hl : M.length ≤ 500000) :
    Calls Try.prog 26 #[.pointer (some ⟨q, 0, none⟩), .slice a n cp] w fun e w' => e = .returned (.tuple #[]) ∧ TV w0 w' p q L (M ++ pdL b) :=
  h.theirs fun S hw hS => rWFixed_any hw n cp a b hn (hb.later h.bl) (by omega)
end
theorem flat_bd (f : List Int → List Int) (ls : List (List Int)) (B : Nat) (h : ∀ b ∈ ls, (f b).length ≤ B) : (ls.flatMap f).length ≤ B * ls.length := by
  induction ls with
  | nil => simp
  | cons x r ih =>
    have h1 := h x (by simp)
    have h2 := ih (fun b hb => h b (by simp [hb]))
    simp only [List.flatMap_cons, List.length_append, List.length_cons, Nat.mul_add]
    omega
theorem flat_take_bd (f : List Int → List Int) (ls : List (List Int)) (B k n : Nat) (hn : ls.length ≤ n) (h : ∀ b ∈ ls, (f b).length ≤ B) : ((ls.take k).flatMap f).length ≤ B * n := by
  refine Nat.le_trans (flat_bd f (ls.take k) B (fun b hb => h b (List.mem_of_mem_take hb))) (Nat.mul_le_mul_left B ?_)
  rw [List.length_take]
  exact Nat.le_trans (Nat.min_le_right _ _) hn
theorem fuL_bd (b : List Int) (n : Nat) (h : b.length ≤ n) : (fuL b).length ≤ n + 7 := by have := pad4_lt b.length; rw [fuL_len]; omega
theorem pdL_bd (b : List Int) (n : Nat) (h : b.length ≤ n) : (pdL b).length ≤ n + 7 := by have := pad4_lt b.length; rw [pdL_len]; omega
end Go.Proofs.Yteeakkpbpffohaa
