import Derived.Test.YtkmljnjikkmdhaaDoorRows
import Derived.Test.YtkmljnjikkmdhaaDoorWalkB
import Derived.Laws.CopyOwn
import Derived.Deep.OwnRows
import Derived.WalkKit
import Derived.WalkSpells
import Derived.WalkLawsBesides
import Derived.Deep.QuietTactic
import Derived.BigQuiet
/-
  The walks of the statements' own helpers lend and kept: lend lays the bytes in a new row with nine marks behind them; kept says true where the row still holds the bytes and the marks. Condition: the row has at most 2^47 bytes.
-/
namespace Go.Proofs.YtkmljnjikkmdhaaDoor
open Go.RowKit

theorem hid {p : Prop} (h : p) : Hid p := h
/-- What the lent row holds while the marks are laid: the bytes, marks up to k, noughts. -/
def lent (l : List Int) (k i : Nat) : Int := if i < l.length then l.getD i 0 else if i < k then 165 else 0
def marks (l : List Int) (i : Nat) : Int := if i < l.length then l.getD i 0 else 165
theorem lent_done (l : List Int) (i : Nat) (h : i < l.length + 9) : lent l (l.length + 9) i = marks l i := by
  unfold lent marks; simp [h]
theorem lent_step (l : List Int) (k i : Nat) (hk : l.length ≤ k) : lent l (k + 1) i = if i = k then 165 else lent l k i := by
  unfold lent
  by_cases h : i = k
  · subst h; rw [if_neg (by omega), if_pos (by omega), if_pos rfl]
  · rw [if_neg h]
    by_cases h2 : i < l.length
    · rw [if_pos h2, if_pos h2]
    · rw [if_neg h2, if_neg h2]
      by_cases h3 : i < k
      · rw [if_pos h3, if_pos (by omega)]
      · rw [if_neg h3, if_neg (by omega)]

theorem info5 : (Tryd.prog.info? 5).map (fun i => (i.zero, i.size, i.bytes)) = some (some (.int .u8 0), 1, 1) := by kernel_rfl
theorem size5 : (Tryd.prog.info? 5).map (·.size) = some 1 := by kernel_rfl

/-- 'copy' into a row of the call's own, from its head on. -/
theorem wpList_copy_rowIs {P : Program} {w : World} {ops : Array Oper} {rest : List Oper} {o : Oper} {a : Act} {Q : Exit → Act → World → Prop} (hgd : o.guard = none) (d s : Operand) (dT sT : TypeId)
    (ho : o.op = .call { callee := .builtin .copy, args := #[d, s], argTypes := #[dT, sT] }) (elem : TypeId) (hu : P.underlying dT = some (.slice elem)) (hsz : (P.info? elem).map (·.size) = some 1)
    (dp sp : Option Addr) (dLen dCap sLen sCap : Nat) (hd : a.eval d = .slice dp dLen dCap) (hs : a.eval s = .slice sp sLen sCap)
    (g n : Nat) (f : Nat → Value) (t : TypeId) (hr : w.rowIs g t n f) (cs : List Value) (hn : cs.length = Nat.min sLen dLen)
    (hpos : 0 < cs.length → dp = some ⟨g, 0, none⟩ ∧ ∃ b off, sp = some ⟨b, off, none⟩ ∧ ∀ j v, cs[j]? = some v → w.cell? ⟨b, off + j, none⟩ = some v)
    (hfit : cs.length ≤ n) (h1 : ∀ v ∈ cs, v.oneCell' = true)
    (B : Nat) (w0 : World) (hB : B ≤ g) (hbel : Below B w0 w)
    (h : ∀ w', Hid (w'.rowIs g t n (fun i => (cs[i]?).getD (f i))) → Below B w0 w' → Hid (w'.heap.size = w.heap.size) → wpList P ops Q rest (a.put o.dst (goInt cs.length)) w') :
    wpList P ops Q (o :: rest) a w := by
  by_cases h0 : cs.length = 0
  · obtain rfl : cs = [] := List.eq_nil_of_length_eq_zero h0
    refine wpList_copy_nothing hgd d s dT sT ho elem hu hsz dp sp dLen dCap sLen sCap hd hs (by simpa using hn.symm) ?_
    exact h w (show World.rowIs _ _ _ _ _ by simpa using hr) hbel (show _ = _ from rfl)
  · obtain ⟨rfl, b, off, rfl, hsrc⟩ := hpos (by omega)
    obtain ⟨cur, hg, hcn, hcur⟩ := hr
    refine wpList_copy_own hgd d s dT sT ho elem hu hsz g 0 dLen dCap ⟨b, off, none⟩ sLen sCap hd hs cur t hg cs hn (fun j v hj => by
      have := hsrc j v hj
      have e : (⟨b, off, none⟩ : Addr).add j = ⟨b, off + j, none⟩ := by unfold Addr.add; split <;> simp_all
      rw [e]; exact this) (by omega) h1 ?_
    refine h _ (show World.rowIs _ _ _ _ _ from ⟨_, setRow_heap w g _ _ t _ hg, by simp; omega, fun i hi => ?_⟩) (below_setRow hbel hB _) (show _ = _ by simp [World.setRow])
    by_cases hi2 : i < cs.length
    · simp [hi2, List.getElem?_append]
    · have h3 := hcur i hi
      have e : cs[i]? = none := List.getElem?_eq_none (by omega)
      simp only [e, Option.getD_none]
      rw [← h3]
      have e2 : cs.length + (i - cs.length) = i := by omega
      simp [List.getElem?_append, hi2, e2]

set_option maxHeartbeats 400000 in
theorem lend_any (a : Option Addr) (cap : Nat) (l : List Int) (w : World) (hl : l.length ≤ 140737488355328) (h : Bytes w a l) :
    Calls Tryd.prog 9 #[.slice a l.length cap] w fun e w' => e = .returned (.slice (some ⟨w.heap.size, 0, none⟩) l.length (l.length + 9)) ∧ Below w.heap.size w w' ∧ w'.heap.size = w.heap.size + 1 ∧
      w'.rowIs w.heap.size 5 (l.length + 9) (fun i => .int .u8 (marks l i)) := by
  have hmk := run_make_row' (P := Tryd.prog) 22 5 (.int .u8 0) 1 Tryd.underlying22 info5 rfl .i64 .i64 (l.length + 9) (by omega) (by omega)
  have ec : ((l.length + 9 : Nat) : Int) = (l.length : Int) + 9 := by omega
  rw [ec] at hmk
  clear ec
  have hcs : ∀ i, i < l.length + 9 → ((l.map (fun x => Value.int .u8 x))[i]?).getD (.int .u8 0) = .int .u8 (lent l l.length i) := by
    intro i hi
    unfold lent
    by_cases h2 : i < l.length
    · simp [h2, List.getD]
    · simp [h2]
  obtain ⟨cs, hcs0⟩ : ∃ cs, cs = l.map (fun x => Value.int .u8 x) := ⟨_, rfl⟩
  rw [← hcs0] at hcs
  have hcl : cs.length = l.length := by rw [hcs0]; simp
  have hco : ∀ v ∈ cs, v.oneCell' = true := by rw [hcs0]; intro v hv; simp at hv; obtain ⟨x, _, rfl⟩ := hv; rfl
  have hsrc : 0 < cs.length → ∃ b off, a = some ⟨b, off, none⟩ ∧ ∀ j v, cs[j]? = some v → w.cell? ⟨b, off + j, none⟩ = some v := by
    intro hp
    obtain ⟨b, off, ha, hc⟩ := h.open_ (by omega)
    refine ⟨b, off, ha, fun j v hj => ?_⟩
    rw [hcs0] at hj
    simp at hj
    obtain ⟨x, hx, rfl⟩ := hj
    have hj2 : j < l.length := (List.getElem?_eq_some_iff.1 hx).1
    rw [hc j hj2]
    simp [List.getD, hx]
  have HS := hid hcs
  have HC := hid hcl
  have HO := hid hco
  have HR := hid hsrc
  clear hcs hcs0 hcl hco hsrc
  go_enter Tryd.func9, Tryd.ntmps9
  go_wp2_with (show wpList _ _ _ ({ dst := _, op := .call { callee := .builtin .copy, args := #[.tmp 9, .tmp 10], argTypes := #[22, 22] }, type := _, pos := _, after := _, guard := none } :: _) _ _; refine wpList_copy_rowIs rfl (.tmp 9) (.tmp 10) 22 22 rfl 5 Tryd.underlying22 size5 _ _ _ _ _ _ rfl rfl w.heap.size (l.length + 9) _ 5 (World.rowIs_made _ _ _ _) cs ?c1 ?c2 ?c3 HO.out w.heap.size w (Nat.le_refl _) ((Below.refl _ _).alloc (Nat.le_refl _) _) ?_; rotate_left 3; intro w1 hr1 hb1 hs1)
  case c1 => rw [HC.out]; exact (Nat.min_eq_left (by omega)).symm
  case c2 =>
    intro hp
    obtain ⟨b, off, ha, hc⟩ := HR.out hp
    exact ⟨b, off, ha, fun j v hj => cell_later ((Below.refl _ _).alloc (Nat.le_refl _) _) (hc j v hj)⟩
  case c3 => rw [HC.out]; omega
  go_loopw [4] (fun i wr => ∃ k : Nat, l.length ≤ k ∧ k ≤ l.length + 9 ∧ i = .int .i64 k ∧ Below w.heap.size w wr ∧ wr.heap.size = w.heap.size + 1 ∧ wr.rowIs w.heap.size 5 (l.length + 9) (fun i => .int .u8 (lent l k i))) (fun i _ => l.length + 9 - (intOf i).toNat)
  case atStart => exact ⟨l.length, Nat.le_refl _, by omega, rfl, hb1, hs1.out.trans (by simp), hr1.out.congr HS.out⟩
  case round =>
    obtain ⟨k, hk1, hk2, rfl, hb2, hs2, hr2⟩ := hrel
    have HB := hid hb2
    have HZ := hid hs2
    have HR2 := hid hr2
    clear hb1 hs1 hr1 HS HC HO HR h hmk hb2 hs2
    by_cases hlt : k < l.length + 9
    · obtain ⟨v, hc⟩ : ∃ v, wr.cell? ⟨w.heap.size, k, none⟩ = some v := ⟨_, hr2.cell hlt⟩
      have hf := hr2.frozen k
      have hki : (k : Int) < (l.length : Int) + 9 := by omega
      clear hr2
      go_wp2
      go_roundw
      case rel =>
        refine ⟨k + 1, by omega, by omega, by go_num, HB.out.setCell (Nat.le_refl _) _, by simp [World.setCell, HZ.out], ?_⟩
        refine (HR2.out.set k (.int .u8 165)).congr fun i hi => ?_
        rw [lent_step l k i hk1]
        split <;> rfl
      case measure => simp [intOf]; omega
    · have hki : ¬ ((k : Int) < (l.length : Int) + 9) := by omega
      clear hr2
      go_wp2
      go_ret
      have : k = l.length + 9 := by omega
      subst this
      exact ⟨rfl, HB.out, HZ.out, HR2.out.congr fun i hi => by rw [lent_done l i hi]⟩

set_option maxHeartbeats 400000 in
theorem kept_any (g : Nat) (a : Option Addr) (cap : Nat) (l : List Int) (w : World) (hl : l.length ≤ 140737488355328) (hr : w.rowIs g 5 (l.length + 9) (fun i => .int .u8 (marks l i))) (h : Bytes w a l) :
    Calls Tryd.prog 15 #[.slice (some ⟨g, 0, none⟩) l.length (l.length + 9), .slice a l.length cap] w fun e w' => e = .returned (.bool true) ∧ ∃ q, w' = w.drewN q := by
  have HR := hid hr
  have HBy := hid h
  clear hr h
  obtain ⟨len, hlen⟩ : ∃ len, l.length = len := ⟨_, rfl⟩
  have HL := hid hlen
  rw [hlen] at hl HR ⊢
  clear hlen
  have g0 : (0 : Int) ≤ (len : Int) + 9 := by omega
  have ec : ((len : Int) + 9).toNat = len + 9 := by omega
  go_enter Tryd.func15, Tryd.ntmps15
  go_wp2
  go_loopw [6] (fun i wr => ∃ k q : Nat, k ≤ len + 9 ∧ i = .int .i64 k ∧ wr = w.drewN q) (fun i _ => len + 9 - (intOf i).toNat)
  case atStart => exact ⟨0, 0, Nat.zero_le _, rfl, rfl⟩
  case round =>
    obtain ⟨k, q, hk, rfl, rfl⟩ := hrel
    by_cases hlt : k < len + 9
    · have hc : w.cell? ⟨g, k, none⟩ = some (.int .u8 (marks l k)) := HR.out.cell hlt
      have hki : (k : Int) < (len : Int) + 9 := by omega
      by_cases hkl : k < len
      · obtain ⟨b, off, rfl, hcs⟩ := HBy.out.open_ (by rw [HL.out]; omega)
        have hc2 := hcs k (by rw [HL.out]; exact hkl)
        have e : marks l k = l.getD k 0 := by unfold marks; rw [if_pos (by rw [HL.out]; exact hkl)]
        rw [e] at hc
        generalize l.getD k 0 = x at *
        have hkl2 : (k : Int) < (len : Int) := by omega
        have d1 : decide ((k : Int) < (len : Int)) = true := by simpa using hkl
        have d2 : decide (len ≤ k) = false := by simp; omega
        clear hcs e
        go_wp2
        go_quiet (fail)
        go_wp2
        go_roundw
        case rel => exact ⟨k + 1, _, by omega, by go_num, rfl⟩
        case measure => simp [intOf]; omega
      · have e : marks l k = 165 := by unfold marks; rw [if_neg (by rw [HL.out]; exact hkl)]
        rw [e] at hc
        have hkl2 : ¬ ((k : Int) < (len : Int)) := by omega
        have d1 : decide ((k : Int) < (len : Int)) = false := by simp; omega
        have d2 : decide ((len : Int) ≤ (k : Int)) = true := by simp; omega
        clear e
        go_wp2
        go_quiet (fail)
        go_wp2
        go_roundw
        case rel => exact ⟨k + 1, _, by omega, by go_num, rfl⟩
        case measure => simp [intOf]; omega
    · have hki : ¬ ((k : Int) < (len : Int) + 9) := by omega
      go_wp2
      go_ret
      exact ⟨rfl, q, rfl⟩
end Go.Proofs.YtkmljnjikkmdhaaDoor
