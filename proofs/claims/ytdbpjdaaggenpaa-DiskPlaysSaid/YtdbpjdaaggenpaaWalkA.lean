/- The small functions: block, within, oneOf, hasAll, New, forgetVersions. -/
import Derived.Test.YtdbpjdaaggenpaaBase
import Derived.Laws.CopyOwn
import Derived.Deep.OwnRows
import Derived.WalkKit
import Derived.WalkSpells
import Derived.WalkLawsBesides
import Derived.Deep.QuietTactic
import Derived.BigQuiet
namespace Go.Proofs.Ytdbpjdaaggenpaa
open Go.RowKit

theorem info5 : (Try.prog.info? 5).map (fun i => (i.zero, i.size, i.bytes)) = some (some (.int .u8 0), 1, 1) := by kernel_rfl

def blkAt (b : Int) (i : Nat) : Int := (b + i) % 256
def blk (b : Int) : List Int := (List.range 512).map (blkAt b)
theorem blk_len (b : Int) : (blk b).length = 512 := by simp [blk]
theorem blk_isB (b : Int) : ∀ x ∈ blk b, IsB x := by
  intro x hx
  simp only [blk, List.mem_map] at hx
  obtain ⟨i, _, rfl⟩ := hx
  unfold IsB blkAt
  omega
theorem blk_get (b : Int) (i : Nat) (h : i < 512) : (blk b).getD i 0 = blkAt b i := by simp [blk, List.getD, h]

/-- A whole row of bytes. -/
theorem rowIs_owns {w : World} {g : Nat} {l : List Int} (h : w.rowIs g 5 l.length (fun i => .int .u8 (l.getD i 0))) (hl : l.length ≤ maxLen) :
    w.ownsRow 0 5 1 (.slice (some ⟨g, 0, none⟩) l.length l.length) l.length (l.map fun x => Value.int .u8 x) := by
  obtain ⟨c, hb, hs, hc⟩ := h
  refine ⟨by simp, .inr ⟨g, l.length, c, rfl, Nat.zero_le _, hb, Nat.le_refl _, hl, by omega, ?_⟩⟩
  apply List.ext_getElem?
  intro i
  by_cases hi : i < l.length
  · have := hc i hi
    rw [List.getElem?_take]
    simp [hi]
    rw [← Array.getElem?_toList] at this
    simp [List.getD, hi] at this
    simpa using this
  · simp [hi]; omega

def blkTo (b : Int) (k i : Nat) : Int := if i < k then blkAt b i else 0

set_option maxHeartbeats 400000 in
theorem block_any (b : Int) (w : World) :
    Calls Try.prog 20 #[.int .u8 b] w fun e w' => e = .returned (.slice (some ⟨w.heap.size, 0, none⟩) 512 512) ∧ Below w.heap.size w w' ∧ w'.ownsRow 0 5 1 (.slice (some ⟨w.heap.size, 0, none⟩) 512 512) 512 ((blk b).map fun x => Value.int .u8 x) := by
  have hmk := run_make_row' (P := Try.prog) 42 5 (.int .u8 0) 1 Try.underlying42 info5 rfl .i64 .i64 512 (by omega) (by omega)
  have ec : ((512 : Nat) : Int) = 512 := by omega
  rw [ec] at hmk
  clear ec
  go_enter Try.func20, Try.ntmps20
  go_wp2
  go_loopw [4] (fun i wr => ∃ k : Nat, k ≤ 512 ∧ i = .int .i64 k ∧ Below w.heap.size w wr ∧ wr.rowIs w.heap.size 5 512 (fun i => .int .u8 (blkTo b k i))) (fun i _ => 512 - (RowKit.intOf i).toNat)
  case atStart => exact ⟨0, by omega, rfl, (Below.refl _ _).alloc (Nat.le_refl _) _, (World.rowIs_made _ _ _ _).congr fun i hi => by simp [blkTo]⟩
  case round =>
    obtain ⟨k, hk, rfl, hb2, hr2⟩ := hrel
    have HB := hid hb2
    have HR2 := hid hr2
    clear hmk hb2
    by_cases hlt : k < 512
    · obtain ⟨v, hc⟩ : ∃ v, wr.cell? ⟨w.heap.size, k, none⟩ = some v := ⟨_, hr2.cell hlt⟩
      have hf := hr2.frozen k
      have hki : (k : Int) < 512 := by omega
      clear hr2
      go_wp2
      go_roundw
      case rel =>
        refine ⟨k + 1, by omega, by go_num, HB.out.setCell (Nat.le_refl _) _, ?_⟩
        refine (HR2.out.set k _).congr fun i hi => ?_
        unfold blkTo blkAt at *
        by_cases e : i = k
        · subst e; simp
        · have e2 : (i < k + 1) = (i < k) := by simp; omega
          simp [e, e2]
      case measure => simp [RowKit.intOf]; omega
    · have hki : ¬ ((k : Int) < 512) := by omega
      clear hr2
      go_wp2
      go_ret
      obtain rfl : k = 512 := by omega
      have := rowIs_owns (w := wr) (g := w.heap.size) (l := blk b) (by rw [blk_len]; exact HR2.out.congr fun i hi => by rw [blk_get b i hi]; simp [blkTo, hi]) (by rw [blk_len]; decide)
      rw [blk_len] at this
      exact ⟨rfl, HB.out, this⟩

/-- A number modulo n, from 0 on. -/
def wi (at_ n : Int) : Int := if at_.tmod n < 0 then at_.tmod n + n else at_.tmod n
theorem wi_bd (at_ n : Int) (h : 0 < n) : 0 ≤ wi at_ n ∧ wi at_ n < n := by
  unfold wi
  have h1 := Int.tmod_lt_of_pos at_ h
  have h2 : -n < at_.tmod n := by
    rcases Int.lt_or_le at_ 0 with h3 | h3
    · have h4 := Int.neg_tmod (-at_) n
      rw [Int.neg_neg] at h4
      rw [h4]
      have := Int.tmod_lt_of_pos (-at_) h
      omega
    · have := Int.tmod_nonneg n h3
      omega
  split <;> omega
theorem wrap_wi {x n : Int} (h0 : 0 < n) (hn : n < 1099511627776) (h : x.tmod n < 0) : IntKind.i64.wrap (x.tmod n + n) = x.tmod n + n := by
  have h1 := wi_bd x n h0
  unfold wi at h1
  rw [if_pos h] at h1
  exact IntWalk.i64_in _ (by omega)
set_option maxHeartbeats 400000 in
theorem within_any (x n : Int) (h0 : 0 < n) (hn : n < 1099511627776) (w : World) : Calls Try.prog 13 #[.int .i64 x, .int .i64 n] w fun e w' => e = .returned (.int .i64 (wi x n)) ∧ w' = w := by
  have hne : ¬ (n = 0) := by omega
  have hne' : n ≠ 0 := by omega
  by_cases h : x.tmod n < 0
  · have hw := wrap_wi h0 hn h
    have e : wi x n = x.tmod n + n := by unfold wi; rw [if_pos h]
    rw [e]
    go_enter Try.func13, Try.ntmps13
    go_wp2
    go_ret
    exact ⟨rfl, rfl⟩
  · have e : wi x n = x.tmod n := by unfold wi; rw [if_neg h]
    rw [e]
    go_enter Try.func13, Try.ntmps13
    go_wp2
    go_ret
    exact ⟨rfl, rfl⟩
set_option maxHeartbeats 400000 in
theorem oneOf_any (x n : Int) (h0 : 0 < n) (hn : n < 1099511627776) (w : World) : Calls Try.prog 39 #[.int .i64 n, .int .i64 x] w fun e w' => e = .returned (.int .i64 (wi x n)) ∧ w' = w := by
  have hne : ¬ (n = 0) := by omega
  have hne' : n ≠ 0 := by omega
  by_cases h : x.tmod n < 0
  · have hw := wrap_wi h0 hn h
    have e : wi x n = x.tmod n + n := by unfold wi; rw [if_pos h]
    rw [e]
    go_enter Try.func39, Try.ntmps39
    go_wp2
    go_ret
    exact ⟨rfl, rfl⟩
  · have e : wi x n = x.tmod n := by unfold wi; rw [if_neg h]
    rw [e]
    go_enter Try.func39, Try.ntmps39
    go_wp2
    go_ret
    exact ⟨rfl, rfl⟩

/-! ### the pointer's cells -/
theorem DiskAt.cells {w : World} {pd bp bv : Nat} {MP MV : Int → Option Value} {A : Abs} {n : Nat} {al : Nat → Prop} (h : DiskAt w pd bp bv MP MV A n al) :
    w.cell? ⟨pd, 0, none⟩ = some (.int .i64 A.N) ∧ w.cell? ⟨pd, 1, none⟩ = some (.map (some bp)) ∧ w.cell? ⟨pd, 2, none⟩ = some (.map (some bv)) ∧ w.frozen? ⟨pd, 2, none⟩ = false := by
  have := h.box
  refine ⟨?_, ?_, ?_, ?_⟩ <;> simp [World.cell?, World.frozen?, this]
theorem Disk.cell0 {w : World} {pd : Nat} {A : Abs} {n : Nat} {al : Nat → Prop} (h : Disk w pd A n al) : w.cell? ⟨pd, 0, none⟩ = some (.int .i64 A.N) := let ⟨_, _, _, _, d⟩ := h; d.cells.1

def hasB (N at_ n : Int) : Bool := decide (1 ≤ n ∧ 0 ≤ at_ ∧ at_ ≤ N - n)
theorem ret_bool {a b : Bool} (h : a = b) : Ending.returned (.bool a) = .returned (.bool b) := by rw [h]

set_option maxHeartbeats 400000 in
theorem hasAll_any (w : World) (pd : Nat) (N x n : Int) (hc : w.cell? ⟨pd, 0, none⟩ = some (.int .i64 N)) (hN : 1 ≤ N ∧ N ≤ 65536) (hn : n ≤ 9223372036854775807) :
    Calls Try.prog 32 #[.pointer (some ⟨pd, 0, none⟩), .int .i64 x, .int .i64 n] w fun e w' => e = .returned (.bool (hasB N x n)) ∧ w' = w := by
  by_cases h1 : 1 ≤ n
  · have hw : IntKind.i64.wrap (N - n) = N - n := IntWalk.i64_in _ (by omega)
    by_cases h2 : 0 ≤ x
    · go_enter Try.func32, Try.ntmps32
      go_wp2
      go_ret
      exact ⟨ret_bool (by simp [hasB, h1, h2]), rfl⟩
    · go_enter Try.func32, Try.ntmps32
      go_wp2
      go_ret
      exact ⟨ret_bool (by simp [hasB]; omega), rfl⟩
  · go_enter Try.func32, Try.ntmps32
    go_wp2
    go_ret
    exact ⟨ret_bool (by simp [hasB]; omega), rfl⟩

/-! ### New -/
def noDisk (N : Int) : Abs := ⟨N, fun _ => none, fun _ => []⟩
set_option maxHeartbeats 400000 in
theorem New_any (N : Int) (hN : 1 ≤ N ∧ N ≤ 65536) (w : World) :
    Calls Try.prog 9 #[.int .i64 N] w fun e w' => ∃ pd al, e = .returned (.tuple #[.pointer (some ⟨pd, 0, none⟩), .int .i64 0]) ∧ Below w.heap.size w w' ∧ Disk w' pd (noDisk N) 0 al ∧ ∀ b, al b → w.heap.size ≤ b := by
  have hmm := @run_makeMap Try.prog
  go_enter Try.func9, Try.ntmps9
  go_wp2
  go_ret2
  refine ⟨w.heap.size + 1 + 1, fun b => b = w.heap.size ∨ b = w.heap.size + 1 ∨ b = w.heap.size + 1 + 1, rfl, (((Below.refl _ w).alloc (Nat.le_refl _) _).alloc (by simp) _).alloc (by simp; omega) _, ⟨w.heap.size, w.heap.size + 1, fun _ => none, fun _ => none, ?_⟩, by rintro b (rfl | rfl | rfl) <;> omega⟩
  have hs1 : (w.alloc (Obj.map #[] 0)).heap.size = w.heap.size + 1 := by simp
  have hs2 : ((w.alloc (Obj.map #[] 0)).alloc (Obj.map #[] 0)).heap.size = w.heap.size + 1 + 1 := by simp
  refine { lt := ?_, box := ?_, apd := .inr (.inr rfl), abp := .inl rfl, abv := .inr (.inl rfl), ne := by omega, mp := ?_, mv := ?_, rp := fun _ _ => .inl ⟨rfl, rfl⟩, rv := fun _ _ => .inl ⟨rfl, rfl⟩, ap := fun _ _ _ _ _ _ _ h => by simp at h, hN := hN, vN := fun _ h => absurd rfl h, vL := fun _ => Nat.le_refl _ }
  · rintro b (rfl | rfl | rfl) <;> simp <;> omega
  · have := (MapKept.heap_alloc ((w.alloc (Obj.map #[] 0)).alloc (Obj.map #[] 0)) (Obj.cells #[Value.int IntKind.i64 N, Value.map (some w.heap.size), Value.map (some (w.heap.size + 1))] 60)).1
    rw [hs2] at this
    exact this
  · exact ((MapIs.made w).keep (Below.heap_alloc _ _ _ (by simp))).keep (Below.heap_alloc _ _ _ (by simp; omega))
  · have := MapIs.made (w.alloc (Obj.map #[] 0))
    rw [hs1] at this
    exact this.keep (Below.heap_alloc _ _ _ (by simp))

/-! ### forgetVersions -/
theorem heap_setCell2 {w : World} {pd : Nat} {x y z : Value} {t : TypeId} (h : w.heap[pd]? = some (.cells #[x, y, z] t (0, 0))) (u : Value) : (w.setCell ⟨pd, 2, none⟩ u).heap[pd]? = some (.cells #[x, y, u] t (0, 0)) := by
  have hl : pd < w.heap.size := (Array.getElem?_eq_some_iff.1 h).1
  have h' : w.heap[pd] = .cells #[x, y, z] t (0, 0) := (Array.getElem?_eq_some_iff.1 h).2
  simp [World.setCell, hl, Array.getElem_modify, h']
set_option maxHeartbeats 400000 in
theorem forget_any (w : World) (pd : Nat) (A : Abs) (n : Nat) (al : Nat → Prop) (h : Disk w pd A n al) :
    Calls Try.prog 36 #[.pointer (some ⟨pd, 0, none⟩)] w fun e w' => e = .returned undef ∧ Step w w' pd { A with V := fun _ => [] } n al := by
  obtain ⟨bp, bv, MP, MV, d⟩ := h
  have hmm := @run_makeMap Try.prog
  obtain ⟨_, _, hc2, hf2⟩ := d.cells
  have hpd := d.lt pd d.apd
  have hb0 := Below.heap_alloc w (.map #[] 0) pd hpd
  have hc2' : (w.alloc (.map #[] 0)).cell? ⟨pd, 2, none⟩ = some (.map (some bv)) := (World.cell?_of_block (w := w) hb0).trans hc2
  have hf2' : (w.alloc (.map #[] 0)).frozen? ⟨pd, 2, none⟩ = false := (World.frozen?_of_block (w := w) hb0).trans hf2
  have D := hid d
  have HB := hid hb0
  have HP := hid hpd
  clear hc2 hf2 d hb0 hpd
  go_enter Try.func36, Try.ntmps36
  go_wp2
  go_end0
  have d := D.out
  refine ⟨rfl, fun b => al b ∨ b = w.heap.size, ⟨bp, w.heap.size, MP, fun _ => none, ?_⟩, fun b hb => hb.imp id (fun e => by omega), ?_⟩
  · have hk : ∀ b, al b → b ≠ pd → ((w.alloc (.map #[] 0)).setCell ⟨pd, 2, none⟩ (.map (some w.heap.size))).heap[b]? = w.heap[b]? := fun b hb hne =>
      (Below.heap_setCell _ _ _ _ hne).trans (Below.heap_alloc _ _ _ (d.lt b hb))
    have hpm : bp ≠ pd := by
      intro e
      obtain ⟨es, c, hm⟩ := d.mp.block
      rw [e, d.box] at hm
      cases hm
    refine { lt := ?_, box := heap_setCell2 (HB.out.trans d.box) _, apd := .inl d.apd, abp := .inl d.abp, abv := .inr rfl, ne := ?_, mp := d.mp.keep (hk _ d.abp hpm), mv := ?_, rp := ?_, rv := fun _ _ => .inl ⟨rfl, rfl⟩, ap := fun _ _ _ _ _ _ _ h => by simp at h, hN := d.hN, vN := fun _ h => absurd rfl h, vL := fun _ => Nat.zero_le _ }
    · rintro b (hb | rfl)
      · have := d.lt b hb; simp [World.setCell]; omega
      · simp [World.setCell]
    · intro e
      have := d.lt bp d.abp
      omega
    · have h1 := HP.out
      exact (MapIs.mono (MapIs.made w) (Nat.zero_le _)).keep (Below.heap_setCell _ _ _ _ (by simp; omega))
    · intro k hI
      refine (d.rp k hI).imp id (fun ⟨v, l, h1, h2, h3⟩ => ⟨v, l, h1, h2, h3.keep (fun g cur hg hcur => hk g hg (fun e => ?_)) (fun _ hg => .inl hg)⟩)
      rw [e, d.box] at hcur
      cases hcur
  · refine ⟨rfl, rfl, rfl, by simp [World.setCell], fun b hb hn => ?_⟩
    rw [Below.heap_setCell _ _ _ _ (fun e => hn (by rw [e]; exact d.apd))]
    exact Below.heap_alloc _ _ _ hb
end Go.Proofs.Ytdbpjdaaggenpaa
