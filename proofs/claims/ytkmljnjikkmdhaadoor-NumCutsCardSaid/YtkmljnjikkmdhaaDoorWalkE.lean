import Derived.Test.YtkmljnjikkmdhaaDoorRows
import Derived.Test.YtkmljnjikkmdhaaDoorWalkC
import Derived.WalkKit
import Derived.WalkSpells
import Derived.WalkLawsBesides
import Derived.Deep.QuietTactic
import Derived.BigQuiet
/-
  The walks of the writers of package num at one place (allFit, grown, writeLowFirst, writeHighFirst): what they answer and what they lay in the call's own row, as the plain mathematics says. Conditions: rows of at most 2^47 elements; numbers of eight bytes.
-/
namespace Go.Proofs.YtkmljnjikkmdhaaDoor
open Go.RowKit
set_option linter.unusedVariables false

/-- A row of numbers of eight bytes in memory. -/
def IsW (x : Int) : Prop := 0 ≤ x ∧ x < 18446744073709551616
def Words (w : World) (a : Option Addr) (l : List Int) : Prop :=
  ∀ i, i < l.length → ∃ b off, a = some ⟨b, off, none⟩ ∧ w.cell? ⟨b, off + i, none⟩ = some (.int .u64 (l.getD i 0)) ∧ IsW (l.getD i 0)
theorem Words.open_ {w : World} {a : Option Addr} {l : List Int} (h : Words w a l) (hp : 0 < l.length) :
    ∃ b off, a = some ⟨b, off, none⟩ ∧ ∀ i, i < l.length → w.cell? ⟨b, off + i, none⟩ = some (.int .u64 (l.getD i 0)) := by
  obtain ⟨b, off, ha, _, _⟩ := h 0 hp
  refine ⟨b, off, ha, fun i hi => ?_⟩
  obtain ⟨b', off', ha', hc, _⟩ := h i hi
  rw [ha] at ha'
  simp at ha'
  obtain ⟨rfl, rfl⟩ := ha'
  exact hc
theorem Words.isW {w : World} {a : Option Addr} {l : List Int} (h : Words w a l) : ∀ x ∈ l, IsW x := by
  intro x hx
  obtain ⟨i, hi, rfl⟩ := List.getElem_of_mem hx
  obtain ⟨_, _, _, _, hb⟩ := h i hi
  simpa [List.getD, hi] using hb
theorem Words.later {w w' : World} {a : Option Addr} {l : List Int} (h : Words w a l) (hb : Below w.heap.size w w') : Words w' a l := by
  intro i hi
  obtain ⟨b, off, ha, hc, hx⟩ := h i hi
  exact ⟨b, off, ha, cell_later hb hc, hx⟩

def fitB (n v : Int) : Bool := v / 256 ^ n.toNat == 0
def fitsB (n : Int) (l : List Int) : Bool := l.all (fitB n)

theorem fits_snoc (n : Int) (l : List Int) (k : Nat) (hk : k < l.length) : fitsB n (l.take (k + 1)) = (fitsB n (l.take k) && fitB n (l.getD k 0)) := by
  rw [take_snoc l k hk]; simp [fitsB]
theorem fits_not (n : Int) (l : List Int) (k : Nat) (hk : k < l.length) (h : fitB n (l.getD k 0) = false) : fitsB n l = false := by
  unfold fitsB
  rw [List.all_eq_false]
  refine ⟨l.getD k 0, by simp [List.getD, hk], ?_⟩
  rw [h]; decide

set_option maxHeartbeats 400000 in
theorem allFit_1 (a : Option Addr) (cap : Nat) (l : List Int) (w : World) (hl : l.length ≤ 140737488355328) (h : Words w a l) :
    Calls Tryd.prog 29 #[.int .i64 1, .slice a l.length cap] w fun e w' => e = .returned (.bool (fitsB 1 l)) ∧ w' = w := by
  have HW := hid h
  clear h
  obtain ⟨len, hlen⟩ : ∃ len, l.length = len := ⟨_, rfl⟩
  have HL := hid hlen
  rw [hlen] at hl ⊢
  clear hlen
  go_enter Tryd.func29, Tryd.ntmps29
  go_wp2
  go_loop [9] (fun i => ∃ k : Nat, k ≤ len ∧ i = .int .i64 k ∧ Hid (fitsB 1 (l.take k) = true)) (fun i => len - (intOf i).toNat)
  case atStart => exact ⟨0, Nat.zero_le _, rfl, hid rfl⟩
  case round =>
    obtain ⟨k, hk, rfl, hf⟩ := hrel
    by_cases hlt : k < len
    · have hkl : k < l.length := by rw [HL.out]; exact hlt
      obtain ⟨b, off, rfl, hcs⟩ := HW.out.open_ (by omega)
      have hc := hcs k hkl
      have hx := mem_getD l IsW HW.out.isW k hkl
      obtain ⟨x, hxe⟩ : ∃ x, l.getD k 0 = x := ⟨_, rfl⟩
      rw [hxe] at hc hx
      unfold IsW at hx
      clear hcs
      cases hb : fitB 1 x
      · have H1 := hid (fits_not 1 l k hkl (by rw [hxe]; exact hb))
        have ht : (x / 256 != 0) = true := by simp [fitB] at hb; simp [hb]
        clear hxe hb
        go_wp2
        go_ret
        exact ⟨ret_bool H1.out.symm, rfl⟩
      · have H1 := hid (show fitsB 1 (l.take (k + 1)) = true by rw [fits_snoc 1 l k hkl, hf.out, hxe, hb]; rfl)
        have ht : (x / 256 != 0) = false := by simp [fitB] at hb; simp [hb]
        clear hxe hb
        go_wp2
        go_round
        case rel => exact ⟨k + 1, by omega, by go_num, H1.out⟩
        case measure => simp [intOf]; omega
    · go_wp2
      go_ret
      have e : l.take k = l := List.take_of_length_le (by rw [HL.out]; omega)
      rw [e] at hf
      exact ⟨ret_bool hf.out.symm, rfl⟩

set_option maxHeartbeats 400000 in
theorem allFit_2 (a : Option Addr) (cap : Nat) (l : List Int) (w : World) (hl : l.length ≤ 140737488355328) (h : Words w a l) :
    Calls Tryd.prog 29 #[.int .i64 2, .slice a l.length cap] w fun e w' => e = .returned (.bool (fitsB 2 l)) ∧ w' = w := by
  have HW := hid h
  clear h
  obtain ⟨len, hlen⟩ : ∃ len, l.length = len := ⟨_, rfl⟩
  have HL := hid hlen
  rw [hlen] at hl ⊢
  clear hlen
  go_enter Tryd.func29, Tryd.ntmps29
  go_wp2
  go_loop [9] (fun i => ∃ k : Nat, k ≤ len ∧ i = .int .i64 k ∧ Hid (fitsB 2 (l.take k) = true)) (fun i => len - (intOf i).toNat)
  case atStart => exact ⟨0, Nat.zero_le _, rfl, hid rfl⟩
  case round =>
    obtain ⟨k, hk, rfl, hf⟩ := hrel
    by_cases hlt : k < len
    · have hkl : k < l.length := by rw [HL.out]; exact hlt
      obtain ⟨b, off, rfl, hcs⟩ := HW.out.open_ (by omega)
      have hc := hcs k hkl
      have hx := mem_getD l IsW HW.out.isW k hkl
      obtain ⟨x, hxe⟩ : ∃ x, l.getD k 0 = x := ⟨_, rfl⟩
      rw [hxe] at hc hx
      unfold IsW at hx
      clear hcs
      cases hb : fitB 2 x
      · have H1 := hid (fits_not 2 l k hkl (by rw [hxe]; exact hb))
        have ht : (x / 65536 != 0) = true := by simp [fitB] at hb; simp [hb]
        clear hxe hb
        go_wp2
        go_ret
        exact ⟨ret_bool H1.out.symm, rfl⟩
      · have H1 := hid (show fitsB 2 (l.take (k + 1)) = true by rw [fits_snoc 2 l k hkl, hf.out, hxe, hb]; rfl)
        have ht : (x / 65536 != 0) = false := by simp [fitB] at hb; simp [hb]
        clear hxe hb
        go_wp2
        go_round
        case rel => exact ⟨k + 1, by omega, by go_num, H1.out⟩
        case measure => simp [intOf]; omega
    · go_wp2
      go_ret
      have e : l.take k = l := List.take_of_length_le (by rw [HL.out]; omega)
      rw [e] at hf
      exact ⟨ret_bool hf.out.symm, rfl⟩

set_option maxHeartbeats 400000 in
theorem allFit_4 (a : Option Addr) (cap : Nat) (l : List Int) (w : World) (hl : l.length ≤ 140737488355328) (h : Words w a l) :
    Calls Tryd.prog 29 #[.int .i64 4, .slice a l.length cap] w fun e w' => e = .returned (.bool (fitsB 4 l)) ∧ w' = w := by
  have HW := hid h
  clear h
  obtain ⟨len, hlen⟩ : ∃ len, l.length = len := ⟨_, rfl⟩
  have HL := hid hlen
  rw [hlen] at hl ⊢
  clear hlen
  go_enter Tryd.func29, Tryd.ntmps29
  go_wp2
  go_loop [9] (fun i => ∃ k : Nat, k ≤ len ∧ i = .int .i64 k ∧ Hid (fitsB 4 (l.take k) = true)) (fun i => len - (intOf i).toNat)
  case atStart => exact ⟨0, Nat.zero_le _, rfl, hid rfl⟩
  case round =>
    obtain ⟨k, hk, rfl, hf⟩ := hrel
    by_cases hlt : k < len
    · have hkl : k < l.length := by rw [HL.out]; exact hlt
      obtain ⟨b, off, rfl, hcs⟩ := HW.out.open_ (by omega)
      have hc := hcs k hkl
      have hx := mem_getD l IsW HW.out.isW k hkl
      obtain ⟨x, hxe⟩ : ∃ x, l.getD k 0 = x := ⟨_, rfl⟩
      rw [hxe] at hc hx
      unfold IsW at hx
      clear hcs
      cases hb : fitB 4 x
      · have H1 := hid (fits_not 4 l k hkl (by rw [hxe]; exact hb))
        have ht : (x / 4294967296 != 0) = true := by simp [fitB] at hb; simp [hb]
        clear hxe hb
        go_wp2
        go_ret
        exact ⟨ret_bool H1.out.symm, rfl⟩
      · have H1 := hid (show fitsB 4 (l.take (k + 1)) = true by rw [fits_snoc 4 l k hkl, hf.out, hxe, hb]; rfl)
        have ht : (x / 4294967296 != 0) = false := by simp [fitB] at hb; simp [hb]
        clear hxe hb
        go_wp2
        go_round
        case rel => exact ⟨k + 1, by omega, by go_num, H1.out⟩
        case measure => simp [intOf]; omega
    · go_wp2
      go_ret
      have e : l.take k = l := List.take_of_length_le (by rw [HL.out]; omega)
      rw [e] at hf
      exact ⟨ret_bool hf.out.symm, rfl⟩

set_option maxHeartbeats 400000 in
theorem allFit_8 (a : Option Addr) (cap : Nat) (l : List Int) (w : World) (hl : l.length ≤ 140737488355328) (h : Words w a l) :
    Calls Tryd.prog 29 #[.int .i64 8, .slice a l.length cap] w fun e w' => e = .returned (.bool (fitsB 8 l)) ∧ w' = w := by
  have HW := hid h
  clear h
  obtain ⟨len, hlen⟩ : ∃ len, l.length = len := ⟨_, rfl⟩
  have HL := hid hlen
  rw [hlen] at hl ⊢
  clear hlen
  go_enter Tryd.func29, Tryd.ntmps29
  go_wp2
  go_loop [9] (fun i => ∃ k : Nat, k ≤ len ∧ i = .int .i64 k ∧ Hid (fitsB 8 (l.take k) = true)) (fun i => len - (intOf i).toNat)
  case atStart => exact ⟨0, Nat.zero_le _, rfl, hid rfl⟩
  case round =>
    obtain ⟨k, hk, rfl, hf⟩ := hrel
    by_cases hlt : k < len
    · have hkl : k < l.length := by rw [HL.out]; exact hlt
      obtain ⟨b, off, rfl, hcs⟩ := HW.out.open_ (by omega)
      have hc := hcs k hkl
      have hx := mem_getD l IsW HW.out.isW k hkl
      obtain ⟨x, hxe⟩ : ∃ x, l.getD k 0 = x := ⟨_, rfl⟩
      rw [hxe] at hc hx
      unfold IsW at hx
      clear hcs
      have hb : fitB 8 x = true := by
        have h0 : x / 18446744073709551616 = 0 := by omega
        simp [fitB, h0]
      have H1 := hid (show fitsB 8 (l.take (k + 1)) = true by rw [fits_snoc 8 l k hkl, hf.out, hxe, hb]; rfl)
      clear hxe hb
      go_wp2
      go_round
      case rel => exact ⟨k + 1, by omega, by go_num, H1.out⟩
      case measure => simp [intOf]; omega
    · go_wp2
      go_ret
      have e : l.take k = l := List.take_of_length_le (by rw [HL.out]; omega)
      rw [e] at hf
      exact ⟨ret_bool hf.out.symm, rfl⟩

theorem allFit_any (a : Option Addr) (cap : Nat) (n : Int) (l : List Int) (w : World) (hl : l.length ≤ 140737488355328) (hn : widB n = true) (h : Words w a l) :
    Calls Tryd.prog 29 #[.int .i64 n, .slice a l.length cap] w fun e w' => e = .returned (.bool (fitsB n l)) ∧ w' = w := by
  rcases widB_cases hn with rfl | rfl | rfl | rfl
  · exact allFit_1 a cap l w hl h
  · exact allFit_2 a cap l w hl h
  · exact allFit_4 a cap l w hl h
  · exact allFit_8 a cap l w hl h

set_option maxHeartbeats 400000 in
theorem grown_any (a : Option Addr) (cap : Nat) (l : List Int) (more : Nat) (w : World) (hl : l.length ≤ 140737488355328) (hm : more ≤ 140737488355328) (h : Bytes w a l) :
    Calls Tryd.prog 30 #[.slice a l.length cap, .int .i64 more] w fun e w' => e = .returned (.slice (some ⟨w.heap.size, 0, none⟩) (l.length + more) (l.length + more)) ∧ Below w.heap.size w w' ∧ w'.heap.size = w.heap.size + 1 ∧
      w'.rowIs w.heap.size 5 (l.length + more) (fun i => .int .u8 (l.getD i 0)) := by
  have hmk := run_make_row' (P := Tryd.prog) 22 5 (.int .u8 0) 1 Tryd.underlying22 info5 rfl .i64 .i64 (l.length + more) (by omega) (by omega)
  have ec : ((l.length + more : Nat) : Int) = (l.length : Int) + more := by omega
  rw [ec] at hmk
  clear ec
  have hcs : ∀ i, i < l.length + more → ((l.map (fun x => Value.int .u8 x))[i]?).getD (.int .u8 0) = .int .u8 (l.getD i 0) := by
    intro i hi
    by_cases h2 : i < l.length
    · simp [h2, List.getD]
    · simp [h2]
  obtain ⟨cs, hcs0⟩ : ∃ cs, cs = l.map (fun x => Value.int .u8 x) := ⟨_, rfl⟩
  rw [← hcs0] at hcs
  have hcl : cs.length = l.length := by rw [hcs0]; simp
  have hco : ∀ v ∈ cs, v.oneCell' = true := by rw [hcs0]; intro v hv; simp at hv; obtain ⟨x, _, rfl⟩ := hv; rfl
  have hsrc : 0 < cs.length → ∃ b off, a = some ⟨b, off, none⟩ ∧ ∀ j v, cs[j]? = some v → w.cell? ⟨b, off + j, none⟩ = some v := by
    intro hp
    obtain ⟨b, off, ha, hc⟩ := h.open_ (by omega)
    refine ⟨b, off, ha, fun j v hj => ?_⟩
    rw [hcs0] at hj
    simp at hj
    obtain ⟨x, hx, rfl⟩ := hj
    have hj2 : j < l.length := (List.getElem?_eq_some_iff.1 hx).1
    rw [hc j hj2]
    simp [List.getD, hx]
  have HS := hid hcs
  have HC := hid hcl
  have HO := hid hco
  have HR := hid hsrc
  clear hcs hcs0 hcl hco hsrc
  go_enter Tryd.func30, Tryd.ntmps30
  go_wp2_with (show wpList _ _ _ ({ dst := _, op := .call { callee := .builtin .copy, args := #[.tmp 11, .tmp 12], argTypes := #[22, 22] }, type := _, pos := _, after := _, guard := none } :: _) _ _; refine wpList_copy_rowIs rfl (.tmp 11) (.tmp 12) 22 22 rfl 5 Tryd.underlying22 size5 _ _ _ _ _ _ rfl rfl w.heap.size (l.length + more) _ 5 (World.rowIs_made _ _ _ _) cs ?c1 ?c2 ?c3 HO.out w.heap.size w (Nat.le_refl _) ((Below.refl _ _).alloc (Nat.le_refl _) _) ?_; rotate_left 3; intro w1 hr1 hb1 hs1)
  case c1 => rw [HC.out]; exact (Nat.min_eq_left (by omega)).symm
  case c2 =>
    intro hp
    obtain ⟨b, off, ha, hc⟩ := HR.out hp
    exact ⟨b, off, ha, fun j v hj => cell_later ((Below.refl _ _).alloc (Nat.le_refl _) _) (hc j v hj)⟩
  case c3 => rw [HC.out]; omega
  go_ret
  exact ⟨rfl, hb1, hs1.out.trans (by simp), hr1.out.congr HS.out⟩

/-- A number's bytes, n of them, the lowest first, the highest first. -/
def bytesLe (n : Nat) (v : Int) : List Int := (List.range n).map fun i => v / 256 ^ i % 256
def bytesBe (n : Nat) (v : Int) : List Int := (List.range n).map fun i => v / 256 ^ (n - 1 - i) % 256
theorem len_le (n : Nat) (v : Int) : (bytesLe n v).length = n := by simp [bytesLe]
theorem len_be (n : Nat) (v : Int) : (bytesBe n v).length = n := by simp [bytesBe]
theorem below_set {g p : Nat} {a w : World} (h : Below g a w) (v : Value) : Below g a (w.setCell ⟨g, p, none⟩ v) := h.setCell (Nat.le_refl g) v
theorem getD_le (n : Nat) (v : Int) (j : Nat) (h : j < n) : (bytesLe n v).getD j 0 = v / 256 ^ j % 256 := by simp [bytesLe, List.getD, h]
theorem getD_be (n : Nat) (v : Int) (j : Nat) (h : j < n) : (bytesBe n v).getD j 0 = v / 256 ^ (n - 1 - j) % 256 := by simp [bytesBe, List.getD, h]
theorem getD_out (l : List Int) (j : Nat) (h : l.length ≤ j) : l.getD j 0 = 0 := by simp [List.getD, h]
theorem getD_app (L M : List Int) (i : Nat) : (L ++ M).getD i 0 = if i < L.length then L.getD i 0 else M.getD (i - L.length) 0 := by
  by_cases h : i < L.length
  · rw [if_pos h]; simp [List.getD, h, List.getElem?_append]
  · rw [if_neg h]; simp [List.getD, List.getElem?_append, h]

set_option maxHeartbeats 400000 in
theorem writeLow_1 (g N cap : Nat) (L : List Int) (v : Int) (hv : IsW v) (w : World) (hr : w.rowIs g 5 N (fun i => .int .u8 (L.getD i 0))) (hN : L.length + 1 ≤ N) :
    Calls Tryd.prog 31 #[.slice (some ⟨g, L.length, none⟩) 1 cap, .int .u64 v] w fun e w' => e = .returned (.tuple #[]) ∧ Below g w w' ∧ w'.heap.size = w.heap.size ∧
      w'.rowIs g 5 N (fun i => .int .u8 ((L ++ bytesLe 1 v).getD i 0)) := by
  unfold IsW at hv
  have HR := hid hr
  obtain ⟨p, hp⟩ : ∃ p, L.length = p := ⟨_, rfl⟩
  rw [hp] at hN ⊢
  obtain ⟨x0, c0⟩ : ∃ x, w.cell? ⟨g, p, none⟩ = some x := ⟨_, hr.cell (i := p) (by omega)⟩
  have f0 := hr.frozen (p)
  have HP := hid hp
  clear hp hr
  go_enter Tryd.func31, Tryd.ntmps31
  go_wp2
  go_end0
  refine ⟨rfl, (below_set (Below.refl _ _) _), by simp [World.setCell], (HR.out.set (p) _).congr fun i hi => ?_⟩
  rw [getD_app, HP.out]
  by_cases h1 : i < p
  · rw [if_pos h1]
    simp only [show ¬ i = p by omega, if_false]
  · rw [if_neg h1]
    obtain ⟨j, rfl⟩ : ∃ j, i = p + j := ⟨i - p, by omega⟩
    rw [Nat.add_sub_cancel_left]
    by_cases h2 : j < 1
    · rw [getD_le 1 v j h2]
      rcases (show j = 0 by omega) with rfl <;> first | (simp; done) | (simp; omega)
    · rw [getD_out (bytesLe 1 v) j (by rw [len_le]; omega), getD_out L (p + j) (by rw [HP.out]; omega)]
      simp only [show ¬ p + j = p by omega, if_false]

set_option maxHeartbeats 400000 in
theorem writeLow_2 (g N cap : Nat) (L : List Int) (v : Int) (hv : IsW v) (w : World) (hr : w.rowIs g 5 N (fun i => .int .u8 (L.getD i 0))) (hN : L.length + 2 ≤ N) :
    Calls Tryd.prog 31 #[.slice (some ⟨g, L.length, none⟩) 2 cap, .int .u64 v] w fun e w' => e = .returned (.tuple #[]) ∧ Below g w w' ∧ w'.heap.size = w.heap.size ∧
      w'.rowIs g 5 N (fun i => .int .u8 ((L ++ bytesLe 2 v).getD i 0)) := by
  unfold IsW at hv
  have HR := hid hr
  obtain ⟨p, hp⟩ : ∃ p, L.length = p := ⟨_, rfl⟩
  rw [hp] at hN ⊢
  obtain ⟨x0, c0⟩ : ∃ x, w.cell? ⟨g, p, none⟩ = some x := ⟨_, hr.cell (i := p) (by omega)⟩
  have f0 := hr.frozen (p)
  obtain ⟨x1, c1⟩ : ∃ x, w.cell? ⟨g, p + 1, none⟩ = some x := ⟨_, hr.cell (i := p + 1) (by omega)⟩
  have f1 := hr.frozen (p + 1)
  have HP := hid hp
  clear hp hr
  go_enter Tryd.func31, Tryd.ntmps31
  go_wp2
  go_end0
  refine ⟨rfl, (below_set (below_set (Below.refl _ _) _) _), by simp [World.setCell], ((HR.out.set (p + 1) _).set (p) _).congr fun i hi => ?_⟩
  rw [getD_app, HP.out]
  by_cases h1 : i < p
  · rw [if_pos h1]
    simp only [show ¬ i = p by omega, show ¬ i = p + 1 by omega, if_false]
  · rw [if_neg h1]
    obtain ⟨j, rfl⟩ : ∃ j, i = p + j := ⟨i - p, by omega⟩
    rw [Nat.add_sub_cancel_left]
    by_cases h2 : j < 2
    · rw [getD_le 2 v j h2]
      rcases (show j = 0 ∨ j = 1 by omega) with rfl | rfl <;> first | (simp; done) | (simp; omega)
    · rw [getD_out (bytesLe 2 v) j (by rw [len_le]; omega), getD_out L (p + j) (by rw [HP.out]; omega)]
      simp only [show ¬ p + j = p by omega, show ¬ p + j = p + 1 by omega, if_false]

set_option maxHeartbeats 400000 in
theorem writeLow_4 (g N cap : Nat) (L : List Int) (v : Int) (hv : IsW v) (w : World) (hr : w.rowIs g 5 N (fun i => .int .u8 (L.getD i 0))) (hN : L.length + 4 ≤ N) :
    Calls Tryd.prog 31 #[.slice (some ⟨g, L.length, none⟩) 4 cap, .int .u64 v] w fun e w' => e = .returned (.tuple #[]) ∧ Below g w w' ∧ w'.heap.size = w.heap.size ∧
      w'.rowIs g 5 N (fun i => .int .u8 ((L ++ bytesLe 4 v).getD i 0)) := by
  unfold IsW at hv
  have HR := hid hr
  obtain ⟨p, hp⟩ : ∃ p, L.length = p := ⟨_, rfl⟩
  rw [hp] at hN ⊢
  obtain ⟨x0, c0⟩ : ∃ x, w.cell? ⟨g, p, none⟩ = some x := ⟨_, hr.cell (i := p) (by omega)⟩
  have f0 := hr.frozen (p)
  obtain ⟨x1, c1⟩ : ∃ x, w.cell? ⟨g, p + 1, none⟩ = some x := ⟨_, hr.cell (i := p + 1) (by omega)⟩
  have f1 := hr.frozen (p + 1)
  obtain ⟨x2, c2⟩ : ∃ x, w.cell? ⟨g, p + 2, none⟩ = some x := ⟨_, hr.cell (i := p + 2) (by omega)⟩
  have f2 := hr.frozen (p + 2)
  obtain ⟨x3, c3⟩ : ∃ x, w.cell? ⟨g, p + 3, none⟩ = some x := ⟨_, hr.cell (i := p + 3) (by omega)⟩
  have f3 := hr.frozen (p + 3)
  have HP := hid hp
  clear hp hr
  go_enter Tryd.func31, Tryd.ntmps31
  go_wp2
  go_end0
  refine ⟨rfl, (below_set (below_set (below_set (below_set (Below.refl _ _) _) _) _) _), by simp [World.setCell], ((((HR.out.set (p + 3) _).set (p + 2) _).set (p + 1) _).set (p) _).congr fun i hi => ?_⟩
  rw [getD_app, HP.out]
  by_cases h1 : i < p
  · rw [if_pos h1]
    simp only [show ¬ i = p by omega, show ¬ i = p + 1 by omega, show ¬ i = p + 2 by omega, show ¬ i = p + 3 by omega, if_false]
  · rw [if_neg h1]
    obtain ⟨j, rfl⟩ : ∃ j, i = p + j := ⟨i - p, by omega⟩
    rw [Nat.add_sub_cancel_left]
    by_cases h2 : j < 4
    · rw [getD_le 4 v j h2]
      rcases (show j = 0 ∨ j = 1 ∨ j = 2 ∨ j = 3 by omega) with rfl | rfl | rfl | rfl <;> first | (simp; done) | (simp; omega)
    · rw [getD_out (bytesLe 4 v) j (by rw [len_le]; omega), getD_out L (p + j) (by rw [HP.out]; omega)]
      simp only [show ¬ p + j = p by omega, show ¬ p + j = p + 1 by omega, show ¬ p + j = p + 2 by omega, show ¬ p + j = p + 3 by omega, if_false]

set_option maxHeartbeats 400000 in
theorem writeLow_8 (g N cap : Nat) (L : List Int) (v : Int) (hv : IsW v) (w : World) (hr : w.rowIs g 5 N (fun i => .int .u8 (L.getD i 0))) (hN : L.length + 8 ≤ N) :
    Calls Tryd.prog 31 #[.slice (some ⟨g, L.length, none⟩) 8 cap, .int .u64 v] w fun e w' => e = .returned (.tuple #[]) ∧ Below g w w' ∧ w'.heap.size = w.heap.size ∧
      w'.rowIs g 5 N (fun i => .int .u8 ((L ++ bytesLe 8 v).getD i 0)) := by
  unfold IsW at hv
  have HR := hid hr
  obtain ⟨p, hp⟩ : ∃ p, L.length = p := ⟨_, rfl⟩
  rw [hp] at hN ⊢
  obtain ⟨x0, c0⟩ : ∃ x, w.cell? ⟨g, p, none⟩ = some x := ⟨_, hr.cell (i := p) (by omega)⟩
  have f0 := hr.frozen (p)
  obtain ⟨x1, c1⟩ : ∃ x, w.cell? ⟨g, p + 1, none⟩ = some x := ⟨_, hr.cell (i := p + 1) (by omega)⟩
  have f1 := hr.frozen (p + 1)
  obtain ⟨x2, c2⟩ : ∃ x, w.cell? ⟨g, p + 2, none⟩ = some x := ⟨_, hr.cell (i := p + 2) (by omega)⟩
  have f2 := hr.frozen (p + 2)
  obtain ⟨x3, c3⟩ : ∃ x, w.cell? ⟨g, p + 3, none⟩ = some x := ⟨_, hr.cell (i := p + 3) (by omega)⟩
  have f3 := hr.frozen (p + 3)
  obtain ⟨x4, c4⟩ : ∃ x, w.cell? ⟨g, p + 4, none⟩ = some x := ⟨_, hr.cell (i := p + 4) (by omega)⟩
  have f4 := hr.frozen (p + 4)
  obtain ⟨x5, c5⟩ : ∃ x, w.cell? ⟨g, p + 5, none⟩ = some x := ⟨_, hr.cell (i := p + 5) (by omega)⟩
  have f5 := hr.frozen (p + 5)
  obtain ⟨x6, c6⟩ : ∃ x, w.cell? ⟨g, p + 6, none⟩ = some x := ⟨_, hr.cell (i := p + 6) (by omega)⟩
  have f6 := hr.frozen (p + 6)
  obtain ⟨x7, c7⟩ : ∃ x, w.cell? ⟨g, p + 7, none⟩ = some x := ⟨_, hr.cell (i := p + 7) (by omega)⟩
  have f7 := hr.frozen (p + 7)
  have HP := hid hp
  clear hp hr
  go_enter Tryd.func31, Tryd.ntmps31
  go_wp2
  go_end0
  refine ⟨rfl, (below_set (below_set (below_set (below_set (below_set (below_set (below_set (below_set (Below.refl _ _) _) _) _) _) _) _) _) _), by simp [World.setCell], ((((((((HR.out.set (p + 7) _).set (p + 6) _).set (p + 5) _).set (p + 4) _).set (p + 3) _).set (p + 2) _).set (p + 1) _).set (p) _).congr fun i hi => ?_⟩
  rw [getD_app, HP.out]
  by_cases h1 : i < p
  · rw [if_pos h1]
    simp only [show ¬ i = p by omega, show ¬ i = p + 1 by omega, show ¬ i = p + 2 by omega, show ¬ i = p + 3 by omega, show ¬ i = p + 4 by omega, show ¬ i = p + 5 by omega, show ¬ i = p + 6 by omega, show ¬ i = p + 7 by omega, if_false]
  · rw [if_neg h1]
    obtain ⟨j, rfl⟩ : ∃ j, i = p + j := ⟨i - p, by omega⟩
    rw [Nat.add_sub_cancel_left]
    by_cases h2 : j < 8
    · rw [getD_le 8 v j h2]
      rcases (show j = 0 ∨ j = 1 ∨ j = 2 ∨ j = 3 ∨ j = 4 ∨ j = 5 ∨ j = 6 ∨ j = 7 by omega) with rfl | rfl | rfl | rfl | rfl | rfl | rfl | rfl <;> first | (simp; done) | (simp; omega)
    · rw [getD_out (bytesLe 8 v) j (by rw [len_le]; omega), getD_out L (p + j) (by rw [HP.out]; omega)]
      simp only [show ¬ p + j = p by omega, show ¬ p + j = p + 1 by omega, show ¬ p + j = p + 2 by omega, show ¬ p + j = p + 3 by omega, show ¬ p + j = p + 4 by omega, show ¬ p + j = p + 5 by omega, show ¬ p + j = p + 6 by omega, show ¬ p + j = p + 7 by omega, if_false]

set_option maxHeartbeats 400000 in
theorem writeHigh_1 (g N cap : Nat) (L : List Int) (v : Int) (hv : IsW v) (w : World) (hr : w.rowIs g 5 N (fun i => .int .u8 (L.getD i 0))) (hN : L.length + 1 ≤ N) :
    Calls Tryd.prog 32 #[.slice (some ⟨g, L.length, none⟩) 1 cap, .int .u64 v] w fun e w' => e = .returned (.tuple #[]) ∧ Below g w w' ∧ w'.heap.size = w.heap.size ∧
      w'.rowIs g 5 N (fun i => .int .u8 ((L ++ bytesBe 1 v).getD i 0)) := by
  unfold IsW at hv
  have HR := hid hr
  obtain ⟨p, hp⟩ : ∃ p, L.length = p := ⟨_, rfl⟩
  rw [hp] at hN ⊢
  obtain ⟨x0, c0⟩ : ∃ x, w.cell? ⟨g, p, none⟩ = some x := ⟨_, hr.cell (i := p) (by omega)⟩
  have f0 := hr.frozen (p)
  have HP := hid hp
  clear hp hr
  go_enter Tryd.func32, Tryd.ntmps32
  go_wp2
  go_end0
  refine ⟨rfl, (below_set (Below.refl _ _) _), by simp [World.setCell], (HR.out.set (p) _).congr fun i hi => ?_⟩
  rw [getD_app, HP.out]
  by_cases h1 : i < p
  · rw [if_pos h1]
    simp only [show ¬ i = p by omega, if_false]
  · rw [if_neg h1]
    obtain ⟨j, rfl⟩ : ∃ j, i = p + j := ⟨i - p, by omega⟩
    rw [Nat.add_sub_cancel_left]
    by_cases h2 : j < 1
    · rw [getD_be 1 v j h2]
      rcases (show j = 0 by omega) with rfl <;> first | (simp; done) | (simp; omega)
    · rw [getD_out (bytesBe 1 v) j (by rw [len_be]; omega), getD_out L (p + j) (by rw [HP.out]; omega)]
      simp only [show ¬ p + j = p by omega, if_false]

set_option maxHeartbeats 400000 in
theorem writeHigh_2 (g N cap : Nat) (L : List Int) (v : Int) (hv : IsW v) (w : World) (hr : w.rowIs g 5 N (fun i => .int .u8 (L.getD i 0))) (hN : L.length + 2 ≤ N) :
    Calls Tryd.prog 32 #[.slice (some ⟨g, L.length, none⟩) 2 cap, .int .u64 v] w fun e w' => e = .returned (.tuple #[]) ∧ Below g w w' ∧ w'.heap.size = w.heap.size ∧
      w'.rowIs g 5 N (fun i => .int .u8 ((L ++ bytesBe 2 v).getD i 0)) := by
  unfold IsW at hv
  have HR := hid hr
  obtain ⟨p, hp⟩ : ∃ p, L.length = p := ⟨_, rfl⟩
  rw [hp] at hN ⊢
  obtain ⟨x0, c0⟩ : ∃ x, w.cell? ⟨g, p, none⟩ = some x := ⟨_, hr.cell (i := p) (by omega)⟩
  have f0 := hr.frozen (p)
  obtain ⟨x1, c1⟩ : ∃ x, w.cell? ⟨g, p + 1, none⟩ = some x := ⟨_, hr.cell (i := p + 1) (by omega)⟩
  have f1 := hr.frozen (p + 1)
  have HP := hid hp
  clear hp hr
  go_enter Tryd.func32, Tryd.ntmps32
  go_wp2
  go_end0
  refine ⟨rfl, (below_set (below_set (Below.refl _ _) _) _), by simp [World.setCell], ((HR.out.set (p) _).set (p + 1) _).congr fun i hi => ?_⟩
  rw [getD_app, HP.out]
  by_cases h1 : i < p
  · rw [if_pos h1]
    simp only [show ¬ i = p by omega, show ¬ i = p + 1 by omega, if_false]
  · rw [if_neg h1]
    obtain ⟨j, rfl⟩ : ∃ j, i = p + j := ⟨i - p, by omega⟩
    rw [Nat.add_sub_cancel_left]
    by_cases h2 : j < 2
    · rw [getD_be 2 v j h2]
      rcases (show j = 0 ∨ j = 1 by omega) with rfl | rfl <;> first | (simp; done) | (simp; omega)
    · rw [getD_out (bytesBe 2 v) j (by rw [len_be]; omega), getD_out L (p + j) (by rw [HP.out]; omega)]
      simp only [show ¬ p + j = p by omega, show ¬ p + j = p + 1 by omega, if_false]

set_option maxHeartbeats 400000 in
theorem writeHigh_4 (g N cap : Nat) (L : List Int) (v : Int) (hv : IsW v) (w : World) (hr : w.rowIs g 5 N (fun i => .int .u8 (L.getD i 0))) (hN : L.length + 4 ≤ N) :
    Calls Tryd.prog 32 #[.slice (some ⟨g, L.length, none⟩) 4 cap, .int .u64 v] w fun e w' => e = .returned (.tuple #[]) ∧ Below g w w' ∧ w'.heap.size = w.heap.size ∧
      w'.rowIs g 5 N (fun i => .int .u8 ((L ++ bytesBe 4 v).getD i 0)) := by
  unfold IsW at hv
  have HR := hid hr
  obtain ⟨p, hp⟩ : ∃ p, L.length = p := ⟨_, rfl⟩
  rw [hp] at hN ⊢
  obtain ⟨x0, c0⟩ : ∃ x, w.cell? ⟨g, p, none⟩ = some x := ⟨_, hr.cell (i := p) (by omega)⟩
  have f0 := hr.frozen (p)
  obtain ⟨x1, c1⟩ : ∃ x, w.cell? ⟨g, p + 1, none⟩ = some x := ⟨_, hr.cell (i := p + 1) (by omega)⟩
  have f1 := hr.frozen (p + 1)
  obtain ⟨x2, c2⟩ : ∃ x, w.cell? ⟨g, p + 2, none⟩ = some x := ⟨_, hr.cell (i := p + 2) (by omega)⟩
  have f2 := hr.frozen (p + 2)
  obtain ⟨x3, c3⟩ : ∃ x, w.cell? ⟨g, p + 3, none⟩ = some x := ⟨_, hr.cell (i := p + 3) (by omega)⟩
  have f3 := hr.frozen (p + 3)
  have HP := hid hp
  clear hp hr
  go_enter Tryd.func32, Tryd.ntmps32
  go_wp2
  go_end0
  refine ⟨rfl, (below_set (below_set (below_set (below_set (Below.refl _ _) _) _) _) _), by simp [World.setCell], ((((HR.out.set (p) _).set (p + 1) _).set (p + 2) _).set (p + 3) _).congr fun i hi => ?_⟩
  rw [getD_app, HP.out]
  by_cases h1 : i < p
  · rw [if_pos h1]
    simp only [show ¬ i = p by omega, show ¬ i = p + 1 by omega, show ¬ i = p + 2 by omega, show ¬ i = p + 3 by omega, if_false]
  · rw [if_neg h1]
    obtain ⟨j, rfl⟩ : ∃ j, i = p + j := ⟨i - p, by omega⟩
    rw [Nat.add_sub_cancel_left]
    by_cases h2 : j < 4
    · rw [getD_be 4 v j h2]
      rcases (show j = 0 ∨ j = 1 ∨ j = 2 ∨ j = 3 by omega) with rfl | rfl | rfl | rfl <;> first | (simp; done) | (simp; omega)
    · rw [getD_out (bytesBe 4 v) j (by rw [len_be]; omega), getD_out L (p + j) (by rw [HP.out]; omega)]
      simp only [show ¬ p + j = p by omega, show ¬ p + j = p + 1 by omega, show ¬ p + j = p + 2 by omega, show ¬ p + j = p + 3 by omega, if_false]

set_option maxHeartbeats 400000 in
theorem writeHigh_8 (g N cap : Nat) (L : List Int) (v : Int) (hv : IsW v) (w : World) (hr : w.rowIs g 5 N (fun i => .int .u8 (L.getD i 0))) (hN : L.length + 8 ≤ N) :
    Calls Tryd.prog 32 #[.slice (some ⟨g, L.length, none⟩) 8 cap, .int .u64 v] w fun e w' => e = .returned (.tuple #[]) ∧ Below g w w' ∧ w'.heap.size = w.heap.size ∧
      w'.rowIs g 5 N (fun i => .int .u8 ((L ++ bytesBe 8 v).getD i 0)) := by
  unfold IsW at hv
  have HR := hid hr
  obtain ⟨p, hp⟩ : ∃ p, L.length = p := ⟨_, rfl⟩
  rw [hp] at hN ⊢
  obtain ⟨x0, c0⟩ : ∃ x, w.cell? ⟨g, p, none⟩ = some x := ⟨_, hr.cell (i := p) (by omega)⟩
  have f0 := hr.frozen (p)
  obtain ⟨x1, c1⟩ : ∃ x, w.cell? ⟨g, p + 1, none⟩ = some x := ⟨_, hr.cell (i := p + 1) (by omega)⟩
  have f1 := hr.frozen (p + 1)
  obtain ⟨x2, c2⟩ : ∃ x, w.cell? ⟨g, p + 2, none⟩ = some x := ⟨_, hr.cell (i := p + 2) (by omega)⟩
  have f2 := hr.frozen (p + 2)
  obtain ⟨x3, c3⟩ : ∃ x, w.cell? ⟨g, p + 3, none⟩ = some x := ⟨_, hr.cell (i := p + 3) (by omega)⟩
  have f3 := hr.frozen (p + 3)
  obtain ⟨x4, c4⟩ : ∃ x, w.cell? ⟨g, p + 4, none⟩ = some x := ⟨_, hr.cell (i := p + 4) (by omega)⟩
  have f4 := hr.frozen (p + 4)
  obtain ⟨x5, c5⟩ : ∃ x, w.cell? ⟨g, p + 5, none⟩ = some x := ⟨_, hr.cell (i := p + 5) (by omega)⟩
  have f5 := hr.frozen (p + 5)
  obtain ⟨x6, c6⟩ : ∃ x, w.cell? ⟨g, p + 6, none⟩ = some x := ⟨_, hr.cell (i := p + 6) (by omega)⟩
  have f6 := hr.frozen (p + 6)
  obtain ⟨x7, c7⟩ : ∃ x, w.cell? ⟨g, p + 7, none⟩ = some x := ⟨_, hr.cell (i := p + 7) (by omega)⟩
  have f7 := hr.frozen (p + 7)
  have HP := hid hp
  clear hp hr
  go_enter Tryd.func32, Tryd.ntmps32
  go_wp2
  go_end0
  refine ⟨rfl, (below_set (below_set (below_set (below_set (below_set (below_set (below_set (below_set (Below.refl _ _) _) _) _) _) _) _) _) _), by simp [World.setCell], ((((((((HR.out.set (p) _).set (p + 1) _).set (p + 2) _).set (p + 3) _).set (p + 4) _).set (p + 5) _).set (p + 6) _).set (p + 7) _).congr fun i hi => ?_⟩
  rw [getD_app, HP.out]
  by_cases h1 : i < p
  · rw [if_pos h1]
    simp only [show ¬ i = p by omega, show ¬ i = p + 1 by omega, show ¬ i = p + 2 by omega, show ¬ i = p + 3 by omega, show ¬ i = p + 4 by omega, show ¬ i = p + 5 by omega, show ¬ i = p + 6 by omega, show ¬ i = p + 7 by omega, if_false]
  · rw [if_neg h1]
    obtain ⟨j, rfl⟩ : ∃ j, i = p + j := ⟨i - p, by omega⟩
    rw [Nat.add_sub_cancel_left]
    by_cases h2 : j < 8
    · rw [getD_be 8 v j h2]
      rcases (show j = 0 ∨ j = 1 ∨ j = 2 ∨ j = 3 ∨ j = 4 ∨ j = 5 ∨ j = 6 ∨ j = 7 by omega) with rfl | rfl | rfl | rfl | rfl | rfl | rfl | rfl <;> first | (simp; done) | (simp; omega)
    · rw [getD_out (bytesBe 8 v) j (by rw [len_be]; omega), getD_out L (p + j) (by rw [HP.out]; omega)]
      simp only [show ¬ p + j = p by omega, show ¬ p + j = p + 1 by omega, show ¬ p + j = p + 2 by omega, show ¬ p + j = p + 3 by omega, show ¬ p + j = p + 4 by omega, show ¬ p + j = p + 5 by omega, show ¬ p + j = p + 6 by omega, show ¬ p + j = p + 7 by omega, if_false]
end Go.Proofs.YtkmljnjikkmdhaaDoor
