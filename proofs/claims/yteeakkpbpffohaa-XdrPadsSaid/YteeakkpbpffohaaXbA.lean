/- The law's items; both writers side by side. -/
import Derived.Test.YteeakkpbpffohaaXaH
import Derived.Lib.SlBytesConst
namespace Go.Proofs.Yteeakkpbpffohaa
open Go.RowKit Go.Maps
set_option linter.unusedVariables false

def II16 (x : Int) : Prop := -9223372036854775808 ≤ x ∧ x ≤ 9223372036854775807
structure It where
  kd : Int
  nn : Int
  v : Int
  on : Bool
  a : Option Addr
  n : Nat
  c : Nat
  l : List Int
  deriving Inhabited
abbrev itC (x : It) : Array Value := #[.int .i64 x.kd, .int .i64 x.nn, .int .u64 x.v, .bool x.on, .slice x.a x.n x.c]
structure It.ok (x : It) (W : World) : Prop where
  hk : II16 x.kd
  hn : II16 x.nn
  hv : IsW x.v
  hl : x.l.length = x.n
  hb : Bytes W x.a x.l
  hm : x.n ≤ maxLen
  hc : x.n ≤ x.c
/-- A row of items. -/
def ItR (W : World) (a : Option Addr) (L : List It) : Prop :=
  ∀ i, i < L.length → (L.getD i default).ok W ∧ ∃ b off, a = some ⟨b, off, none⟩ ∧ ∀ j, j < 5 → W.cell? ⟨b, off + i * 5 + j, none⟩ = (itC (L.getD i default))[j]?
/-- What an item is, written. -/
def itL (x : It) : List Int := if x.kd = 1 then bytesBe 4 (IntKind.u32.wrap x.v) else if x.kd = 2 then bytesBe 8 x.v else if x.kd = 3 then bytesBe 4 (tnum x.on) else if x.kd = 4 then fuL x.l else pdL x.l
theorem itL_len (x : It) (h : x.l.length ≤ 3000) : (itL x).length ≤ 3010 := by
  unfold itL
  have := pad4_lt x.l.length
  split
  · simp [len_be]
  · split
    · simp [len_be]
    · split
      · simp [len_be]
      · split
        · rw [fuL_len]; omega
        · rw [pdL_len]; omega
/-- The program's writer at p, the document's at q, both over L, in blocks since w0. -/
structure TW (w0 w : World) (p q : Nat) (L : List Int) : Prop where
  ex : ∃ S1 S2, WX w 73 p S1 L ∧ WX w 42 q S2 L ∧ (∀ b, S1 b → ¬ S2 b) ∧ (∀ b, S1 b → w0.heap.size ≤ b) ∧ (∀ b, S2 b → w0.heap.size ≤ b)
  bl : Below w0.heap.size w0 w
theorem TW.later {w0 w w' : World} {p q : Nat} {L : List Int} (h : TW w0 w p q L) (hb : Below w.heap.size w w') : TW w0 w' p q L := by
  obtain ⟨S1, S2, h1, h2, h3, h4, h5⟩ := h.ex
  exact ⟨⟨S1, S2, h1.later hb, h2.later hb, h3, h4, h5⟩, h.bl.trans (hb.mono h.bl.size)⟩
/-- The program's turns. -/
theorem TW.mine {w0 w w' : World} {p q : Nat} {L L' : List Int} {S1 S1' S2 : Nat → Prop} (h2 : WX w 42 q S2 L) (hd : ∀ b, S1 b → ¬ S2 b) (h4 : ∀ b, S1 b → w0.heap.size ≤ b) (hbl : Below w0.heap.size w0 w) (hk : Kp S1 w S1' w') :
    WX w' 42 q S2 L ∧ (∀ b, S1' b → ¬ S2 b) ∧ (∀ b, S1' b → w0.heap.size ≤ b) ∧ Below w0.heap.size w0 w' := by
  obtain ⟨g1, g2⟩ := hk.below0 hbl h4
  refine ⟨h2.beside hk (fun b hb e => hd b e hb), fun b hb e => ?_, g2, g1⟩
  rcases hk.1 b hb with h | h
  · exact hd b h e
  · have := h2.slt b e; omega
theorem TW.theirs {w0 w w' : World} {p q : Nat} {L : List Int} {S1 S2 S2' : Nat → Prop} (h1 : WX w 73 p S1 L) (hd : ∀ b, S1 b → ¬ S2 b) (h5 : ∀ b, S2 b → w0.heap.size ≤ b) (hbl : Below w0.heap.size w0 w) (hk : Kp S2 w S2' w') :
    WX w' 73 p S1 L ∧ (∀ b, S1 b → ¬ S2' b) ∧ (∀ b, S2' b → w0.heap.size ≤ b) ∧ Below w0.heap.size w0 w' := by
  obtain ⟨g1, g2⟩ := hk.below0 hbl h5
  refine ⟨h1.beside hk hd, fun b hb e => ?_, g2, g1⟩
  rcases hk.1 b e with h | h
  · exact hd b hb h
  · have := h1.slt b hb; omega
/-- A new row of one. -/
theorem rowsK_one {w : World} {S : Nat → Prop} {g n ci : Nat} {ai : Option Addr} {x : List Int} (hn : x.length = n) (hc : w.cell? ⟨g, 0, none⟩ = some (.slice ai n ci)) (hg : ¬ S g) (hb : ∀ W S2, Kp S w S2 W → Bytes W ai x) : RowsK S w (some ⟨g, 0, none⟩) [x] := fun i hi => by
  obtain rfl : i = 0 := by simp at hi; omega
  subst hn
  exact ⟨g, 0, ai, ci, rfl, fun W S2 hk => ⟨hk.cell hc hg, hb W S2 hk⟩⟩
set_option maxRecDepth 100000 in
set_option maxHeartbeats 4000000 in
theorem known_any (w : World) : Calls Try.prog 8 #[] w fun e w' => e = .returned (.bool true) ∧ Below w.heap.size w w' := by
  have kc := fun (w : World) (C : Array Value) (n c : Nat) => Lib.run_convert_bytes_const (P := Try.prog) w 22 5 C n c Try.underlying22 Try.underlying5
  have HNW := hid (NewWriter_any w)
  have HEX : Hid (fuL [97, 98, 99, 100, 101] = [0, 0, 0, 5, 97, 98, 99, 100, 101, 0, 0, 0]) := hid (by decide)
  have hstr : strOfNums [0, 0, 0, 5, 97, 98, 99, 100, 101, 0, 0, 0] = { data := #[0, 0, 0, 5, 97, 98, 99, 100, 101, 0, 0, 0] } := by decide
  have HSTR := hid hstr
  clear hstr
  go_enter Try.func8, Try.ntmps8
  go_wp2_with (first
    | (go_at_call 15
       refine HNW.out.mono ?_
       rintro e w1 ⟨rfl, hx, hb1⟩
       obtain ⟨p, hp⟩ : ∃ p, w.heap.size = p := ⟨_, rfl⟩
       have HP := hid hp
       rw [hp] at hx ⊢
       obtain ⟨W2, hW2⟩ : ∃ W, W = w1.alloc (.cells #[.int .u8 97, .int .u8 98, .int .u8 99, .int .u8 100, .int .u8 101] 5 (5, 6)) := ⟨_, rfl⟩
       have b2 : Below w1.heap.size w1 W2 := by rw [hW2]; exact below_alloc (Below.refl _ _) (Nat.le_refl _) _
       have hy2 : By W2 (New w1) (some ⟨w1.heap.size, 0, none⟩) [97, 98, 99, 100, 101] := by rw [hW2]; exact by_const w1 [97, 98, 99, 100, 101] (5, 6) (fun x hx => by simp at hx; unfold IsB; omega)
       obtain ⟨W3, hW3⟩ : ∃ W, W = W2.alloc (.cells #[.slice (some ⟨w1.heap.size, 0, none⟩) 5 5] 22) := ⟨_, rfl⟩
       have b3 : Below W2.heap.size W2 W3 := by rw [hW3]; exact below_alloc (Below.refl _ _) (Nat.le_refl _) _
       have c3 : W3.cell? ⟨W2.heap.size, 0, none⟩ = some (.slice (some ⟨w1.heap.size, 0, none⟩) 5 5) := by rw [hW3, new_cell _ _ _ _ 0 (by simp)]; rfl
       have hy3 := hy2.later b3
       have hx3 := (hx.later b2).later b3
       have hs2 := b2.size
       have hps := hx.slt p rfl
       have HC := hid (WBytes_any hx3 1 1 (some ⟨W2.heap.size, 0, none⟩) [[97, 98, 99, 100, 101]] rfl (by omega) (rowsK_one rfl c3 (by show ¬ W2.heap.size = p; omega) (fun W S2 hk => (hy3.keep (fun b hb hl => hk.block hl (fun e => by have h9 : w1.heap.size ≤ b := hb; have h8 : b = p := e; omega))).bytes)) (fun k => by have := List.length_take_le' k [[97, 98, 99, 100, 101]]; rcases k with _ | k <;> simp [fuL, pdL, len_be, pad4]) (by simp))
       have HBB := hid ((hb1.trans (b2.mono hb1.size)).trans (b3.mono (Nat.le_trans hb1.size b2.size)))
       have h2 := hW2.symm
       have h3 := hW3.symm
       clear hx hb1 b2 hy2 b3 c3 hy3 hx3 hW2 hW3 hs2 hps hp)
    | (go_at_call 25
       (try rw [h2])
       (try rw [h3])
       refine HC.out.mono ?_
       rintro e w4 ⟨rfl, S4, hx4, hk4⟩
       have hB4 := hk4.below0 (w0 := w) HBB.out (fun b hb => by have h8 : b = p := hb; rw [h8, ← HP.out]; exact Nat.le_refl _)
       simp only [List.flatMap_cons, List.flatMap_nil, List.append_nil, List.nil_append] at hx4
       rw [HEX.out] at hx4
       have HD := hid (Done_any hx4 12 rfl (by omega))
       have HB4 := hid hB4.1
       clear hx4 hk4 hB4 kc)
    | (go_at_call 17
       refine HD.out.mono ?_
       rintro e w5 ⟨a2, c2, rfl, hy5, hc5, hb5⟩
       have hcv := bytes_conv hy5.bytes (cap := c2) (k := 12) rfl
       have hcv0 := conv0 hy5.bytes (cap := c2) (k := 12) rfl
       rw [HSTR.out] at hcv hcv0
       have HB5 := hid (HB4.out.trans (hb5.mono HB4.out.size))
       clear hy5 hb5))
  go_ret
  exact ⟨rfl, HB5.out⟩
end Go.Proofs.Yteeakkpbpffohaa
