/- XaG, XaH, XbA, XbB in one text. -/
import Derived.Test.YtbfdkbdjipiliaaDoorXaF
import Derived.Lib.SlBytesConst
/- What the program's writer writes: rows of bytes, with their lengths or without; what is done. -/
namespace Go.Proofs.YtbfdkbdjipiliaaDoor
open Go.RowKit Go.Maps
set_option linter.unusedVariables false

theorem flatMap_snoc (f : List Int → List Int) (ls : List (List Int)) (k : Nat) (h : k < ls.length) : (ls.take (k + 1)).flatMap f = (ls.take k).flatMap f ++ f (ls.getD k []) := by
  have e : ls.getD k [] = ls[k] := by simp [List.getD, h]
  rw [e, List.take_succ_eq_append_getElem h, List.flatMap_append]; simp
theorem getD_mem {ls : List (List Int)} {k : Nat} (h : k < ls.length) : ls.getD k [] ∈ ls := by
  have e : ls.getD k [] = ls[k] := by simp [List.getD, h]
  rw [e]; exact List.getElem_mem h
/-- Rows of bytes that stand, whatever a writer with blocks S has done since w. -/
def RowsK (S : Nat → Prop) (w : World) (a : Option Addr) (ls : List (List Int)) : Prop :=
  ∀ i, i < ls.length → ∃ b off ai ci, a = some ⟨b, off, none⟩ ∧ ∀ W S2, Kp S w S2 W → W.cell? ⟨b, off + i, none⟩ = some (.slice ai (ls.getD i []).length ci) ∧ Bytes W ai (ls.getD i [])
set_option maxRecDepth 100000 in
set_option maxHeartbeats 1000000 in
theorem WBytes_any {w : World} {p : Nat} {S : Nat → Prop} {l : List Int} (h : WX w 98 p S l) (m cap : Nat) (a2 : Option Addr) (ls : List (List Int)) (hm : ls.length = m) (hml : m ≤ 1000) (hw : RowsK S w a2 ls) (hl : ∀ k, (l ++ (ls.take k).flatMap fuL).length ≤ 700000) (hbl : ∀ b ∈ ls, b.length ≤ 3000) :
    Calls Tryd.prog 46 #[.pointer (some ⟨p, 0, none⟩), .slice a2 m cap] w fun e w' => e = .returned (.tuple #[]) ∧ ∃ S', WX w' 98 p S' (l ++ ls.flatMap fuL) ∧ Kp S w S' w' := by
  have HH := hid h
  have HW := hid hw
  have HM := hid hm
  have HL := hid hl
  have HBL := hid hbl
  clear h hw hm hl hbl
  go_enter Tryd.func46, Tryd.ntmps46
  go_wp2
  go_loopw [8] (fun i wr => ∃ k : Nat, k ≤ m ∧ i = .int .i64 k ∧ ∃ S', WX wr 98 p S' (l ++ (ls.take k).flatMap fuL) ∧ Kp S w S' wr) (fun i _ => m - (intOf i).toNat)
  case atStart => exact ⟨0, Nat.zero_le _, rfl, S, by simpa using HH.out, Kp.refl _ _⟩
  case round =>
    obtain ⟨k, hk, rfl, S1, hx, hkp⟩ := hrel
    by_cases hlt : k < m
    · have hkl : k < ls.length := by rw [HM.out]; exact hlt
      obtain ⟨b2, off2, ai, ci, rfl, hcu⟩ := HW.out k hkl
      obtain ⟨hc, hu⟩ := hcu wr S1 hkp
      have HCU : Hid (∀ W S2, Kp S w S2 W → Bytes W ai (ls.getD k [])) := hid (fun W S2 hW => (hcu W S2 hW).2)
      clear hcu
      have HO := hid (flatMap_snoc fuL ls k hkl)
      have hb3 := HBL.out _ (getD_mem hkl)
      have hb9 := HL.out k
      generalize ls.getD k [] = x at *
      obtain ⟨n, hn⟩ : ∃ n, x.length = n := ⟨_, rfl⟩
      obtain ⟨W1, hW1⟩ : ∃ W1, W1 = wr.alloc (.cells #[.int .u64 n] 62) := ⟨_, rfl⟩
      have hb1 : Below wr.heap.size wr W1 := by rw [hW1]; exact (Below.refl _ _).alloc (Nat.le_refl _) _
      have hc1 : W1.cell? ⟨wr.heap.size, 0, none⟩ = some (.int .u64 n) := by rw [hW1, new_cell _ _ _ _ 0 (by simp)]; rfl
      obtain ⟨vv, h1, _, _⟩ := hx.box
      have c0 := cell_of h1 (i := 0) (v := vv) rfl
      have HC := hid (number1 (hx.later hb1) 4 wr.heap.size 1 n (.inl rfl) ⟨by omega, by simp; omega⟩ hc1 (by omega) 4 rfl)
      have HKP := hid (hkp.trans (Kp.below hb1))
      have hw64 : IntKind.u64.wrap (n : Int) = n := IntWalk.u64_in _ (by omega)
      have HN := hid hn
      have HB9 := hid hb9
      have HB3 := hid hb3
      have HE : Hid (bytesBe 4 n ++ pdL x = fuL x) := hid (by rw [fuL, hn])
      rw [hn] at hc
      clear hx hkp h1 hu hn hb3 hb9 hb1 hc1
      have hWW := hW1.symm
      clear hW1
      go_wp2_with (first
        | (go_at_call 35
           (try rw [hWW])
           refine HC.out.mono ?_
           rintro e w2 ⟨rfl, S2, hx2, hk2⟩
           have HK2 := hid (HKP.out.trans hk2)
           have HU2 := HCU.out w2 S2 HK2.out
           obtain ⟨v2, h2, _, _⟩ := hx2.box
           have c2 := cell_of h2 (i := 0) (v := v2) rfl
           have HP := hid (padded_any hx2 n ci ai x HN.out HU2 (by rw [List.length_append, len_be]; have := HB9.out; have := HB3.out; have := HN.out; omega))
           clear hx2 hk2 HU2 h2)
        | (go_at_call 58
           refine HP.out.mono ?_
           rintro e w3 ⟨rfl, S3, hx3, hk3⟩
           have HX := hid hx3
           have HK3 := hid (HK2.out.trans hk3)
           clear hx3 hk3))
      go_roundw
      case rel => exact ⟨k + 1, by omega, by go_num, S3, by rw [HO.out, ← HE.out, ← List.append_assoc, ← List.append_assoc]; exact HX.out, HK3.out⟩
      case measure => simp [intOf]; omega
    · have HX := hid hx
      have HK2 := hid hkp
      clear hx hkp
      go_wp2
      go_end0
      have e : ls.take k = ls := List.take_of_length_le (by rw [HM.out]; omega)
      rw [e] at HX
      exact ⟨rfl, S1, HX.out, HK2.out⟩
set_option maxRecDepth 100000 in
set_option maxHeartbeats 1000000 in
theorem Done_any {w : World} {p : Nat} {S : Nat → Prop} {l : List Int} (h : WX w 98 p S l) (n : Nat) (hn : l.length = n) (hl : n ≤ 900000) :
    Calls Tryd.prog 21 #[.pointer (some ⟨p, 0, none⟩)] w fun e w' => ∃ a2 c2, e = .returned (.slice a2 n c2) ∧ By w' (New w) a2 l ∧ n ≤ c2 ∧ Below w.heap.size w w' := by
  obtain ⟨v, h1, h2, _⟩ := h.box
  obtain ⟨a, c, rfl⟩ := h2.shape
  have hb : Bytes w a l := by
    by_cases hp : 0 < l.length
    · obtain ⟨b, off, cap, e, _, _, hc, _⟩ := h2.at_ hp
      simp only [Value.slice.injEq, true_and] at e
      obtain ⟨rfl, _⟩ := e
      exact Bytes.mk_ h.isB (fun i hi => by
        have := hc i _ (u8s_get hi)
        exact this)
    · have : l = [] := List.eq_nil_of_length_eq_zero (by omega)
      rw [this]; exact Bytes.nil_ _ _
  rw [hn] at h1
  have c0 := cell_of h1 (i := 0) (v := .slice a n c) rfl
  have HC := hid (Clone_all w a n c l hn hl hb)
  clear h h1 h2 hb hn
  go_enter Tryd.func21, Tryd.ntmps21
  go_wp2_with (go_at_call 25; refine HC.out.mono ?_; rintro e w2 ⟨a2, c2, rfl, hy, hc, hb2⟩; have HY := hid hy; have HB2 := hid hb2; clear hy hb2)
  go_ret
  exact ⟨a2, c2, rfl, HY.out, hc, HB2.out⟩
end Go.Proofs.YtbfdkbdjipiliaaDoor

/- What the document's writer writes. -/
namespace Go.Proofs.YtbfdkbdjipiliaaDoor
open Go.RowKit Go.Maps
set_option linter.unusedVariables false

end Go.Proofs.YtbfdkbdjipiliaaDoor

/- The law's items; both writers side by side. -/
namespace Go.Proofs.YtbfdkbdjipiliaaDoor
open Go.RowKit Go.Maps
set_option linter.unusedVariables false

def II16 (x : Int) : Prop := -9223372036854775808 ≤ x ∧ x ≤ 9223372036854775807
structure It where
  kd : Int
  nn : Int
  v : Int
  on : Bool
  a : Option Addr
  n : Nat
  c : Nat
  l : List Int
  deriving Inhabited
abbrev itC (x : It) : Array Value := #[.int .i64 x.kd, .int .i64 x.nn, .int .u64 x.v, .bool x.on, .slice x.a x.n x.c]
structure It.ok (x : It) (W : World) : Prop where
  hk : II16 x.kd
  hn : II16 x.nn
  hv : IsW x.v
  hl : x.l.length = x.n
  hb : Bytes W x.a x.l
  hm : x.n ≤ maxLen
  hc : x.n ≤ x.c
/-- A row of items. -/
def ItR (W : World) (a : Option Addr) (L : List It) : Prop :=
  ∀ i, i < L.length → (L.getD i default).ok W ∧ ∃ b off, a = some ⟨b, off, none⟩ ∧ ∀ j, j < 5 → W.cell? ⟨b, off + i * 5 + j, none⟩ = (itC (L.getD i default))[j]?
/-- What an item is, written. -/
def itL (x : It) : List Int := if x.kd = 1 then bytesBe 4 (IntKind.u32.wrap x.v) else if x.kd = 2 then bytesBe 8 x.v else if x.kd = 3 then bytesBe 4 (tnum x.on) else if x.kd = 4 then fuL x.l else pdL x.l
theorem itL_len (x : It) (h : x.l.length ≤ 3000) : (itL x).length ≤ 3010 := by
  unfold itL
  have := pad4_lt x.l.length
  split
  · simp [len_be]
  · split
    · simp [len_be]
    · split
      · simp [len_be]
      · split
        · rw [fuL_len]; omega
        · rw [pdL_len]; omega
theorem TW.theirs {w0 w w' : World} {p q : Nat} {L : List Int} {S1 S2 S2' : Nat → Prop} (h1 : WX w 98 p S1 L) (hd : ∀ b, S1 b → ¬ S2 b) (h5 : ∀ b, S2 b → w0.heap.size ≤ b) (hbl : Below w0.heap.size w0 w) (hk : Kp S2 w S2' w') :
    WX w' 98 p S1 L ∧ (∀ b, S1 b → ¬ S2' b) ∧ (∀ b, S2' b → w0.heap.size ≤ b) ∧ Below w0.heap.size w0 w' := by
  obtain ⟨g1, g2⟩ := hk.below0 hbl h5
  refine ⟨h1.beside hk hd, fun b hb e => ?_, g2, g1⟩
  rcases hk.1 b e with h | h
  · exact hd b hb h
  · have := h1.slt b hb; omega
/-- A new row of one. -/
theorem rowsK_one {w : World} {S : Nat → Prop} {g n ci : Nat} {ai : Option Addr} {x : List Int} (hn : x.length = n) (hc : w.cell? ⟨g, 0, none⟩ = some (.slice ai n ci)) (hg : ¬ S g) (hb : ∀ W S2, Kp S w S2 W → Bytes W ai x) : RowsK S w (some ⟨g, 0, none⟩) [x] := fun i hi => by
  obtain rfl : i = 0 := by simp at hi; omega
  subst hn
  exact ⟨g, 0, ai, ci, rfl, fun W S2 hk => ⟨hk.cell hc hg, hb W S2 hk⟩⟩
end Go.Proofs.YtbfdkbdjipiliaaDoor

/- One item written by both writers. -/
namespace Go.Proofs.YtbfdkbdjipiliaaDoor
open Go.RowKit Go.Maps
set_option linter.unusedVariables false

theorem isU_wrap (v : Int) : IsU (IntKind.u32.wrap v) := by
  have e : IntKind.u32.wrap v = v % 4294967296 := by simp [IntKind.wrap, IntKind.bits, IntKind.signed]
  rw [e]; unfold IsU; omega
end Go.Proofs.YtbfdkbdjipiliaaDoor
