/- The document's own disk: New, Flush, Platter. -/
import Derived.Test.YtdbpjdaaggenpaaRefB
namespace Go.Proofs.Ytdbpjdaaggenpaa
open Go.RowKit

def RDisk (w : World) (px : Nat) (A : Abs) (n : Nat) (al : Nat → Prop) : Prop := ∃ vL es, RDiskAt w px vL es A al ∧ es.length ≤ n ∧ ∀ k, (A.V k).length ≤ n
theorem RDisk.keep {w w' : World} {px : Nat} {A : Abs} {n : Nat} {al : Nat → Prop} (h : RDisk w px A n al) (hs : w.heap.size ≤ w'.heap.size) (hk : ∀ b, al b → w'.heap[b]? = w.heap[b]?) : RDisk w' px A n al :=
  let ⟨vL, es, d, h1, h2⟩ := h; ⟨vL, es, d.keep hs hk, h1, h2⟩
theorem RDisk.lt {w : World} {px : Nat} {A : Abs} {n : Nat} {al : Nat → Prop} (h : RDisk w px A n al) : ∀ b, al b → b < w.heap.size := let ⟨_, _, d, _⟩ := h; d.lt
theorem RDisk.below {w w' : World} {px : Nat} {A : Abs} {n : Nat} {al : Nat → Prop} (h : RDisk w px A n al) (hb : Below w.heap.size w w') : RDisk w' px A n al :=
  h.keep hb.size (fun b ha => hb.block b (h.lt b ha))
theorem RDisk.apart {w w' : World} {px : Nat} {A : Abs} {n : Nat} {al al' : Nat → Prop} (h : RDisk w px A n al) (hb : Mods al' w w') (ha : ∀ b, al b → ¬ al' b) : RDisk w' px A n al :=
  h.keep hb.size (fun b hb' => hb.block b (h.lt b hb') (ha b hb'))
def RStep (w w' : World) (px : Nat) (A : Abs) (n : Nat) (al : Nat → Prop) : Prop := ∃ al', RDisk w' px A n al' ∧ (∀ b, al' b → al b ∨ w.heap.size ≤ b) ∧ Mods al w w'

set_option maxHeartbeats 400000 in
theorem RNew_any (N : Int) (hN : 1 ≤ N ∧ N ≤ 65536) (w : World) :
    Calls Try.prog 10 #[.int .i64 N] w fun e w' => ∃ px al, e = .returned (.tuple #[.pointer (some ⟨px, 0, none⟩), .int .i64 0]) ∧ Below w.heap.size w w' ∧ RDisk w' px (noDisk N) 0 al ∧ ∀ b, al b → w.heap.size ≤ b := by
  go_enter Try.func10, Try.ntmps10
  go_wp2
  go_ret2
  refine ⟨w.heap.size, fun b => b = w.heap.size, rfl, (Below.refl _ w).alloc (Nat.le_refl _) _, ⟨.slice none 0 0, [], ?_, Nat.le_refl _, fun _ => Nat.le_refl _⟩, by rintro b rfl; exact Nat.le_refl _⟩
  exact { lt := by rintro b rfl; simp, box := (MapKept.heap_alloc w _).1, apx := rfl, row := World.ownsRow_nil _ _ _ _, aL := fun g h => by simp [Value.ownBlock] at h, ent := fun e h => by simp at h, apart := List.Pairwise.nil, none_ := fun _ _ => ⟨rfl, rfl⟩, hN := hN, vN := fun _ h => absurd rfl h }

set_option maxHeartbeats 400000 in
theorem RNew_err (N : Int) (hN : ¬ (1 ≤ N ∧ N ≤ 65536)) (w : World) : Calls Try.prog 10 #[.int .i64 N] w fun e w' => e = .returned (.tuple #[.pointer none, .int .i64 1]) ∧ w' = w := by
  by_cases h1 : N < 1
  · go_enter Try.func10, Try.ntmps10
    go_wp2
    go_ret2
    exact ⟨rfl, rfl⟩
  · have h2 : 65536 < N := by omega
    go_enter Try.func10, Try.ntmps10
    go_wp2
    go_ret2
    exact ⟨rfl, rfl⟩
set_option maxHeartbeats 400000 in
theorem New_err (N : Int) (hN : ¬ (1 ≤ N ∧ N ≤ 65536)) (w : World) : Calls Try.prog 9 #[.int .i64 N] w fun e w' => e = .returned (.tuple #[.pointer none, .int .i64 1]) ∧ w' = w := by
  by_cases h1 : N < 1
  · go_enter Try.func9, Try.ntmps9
    go_wp2
    go_ret2
    exact ⟨rfl, rfl⟩
  · have h2 : 65536 < N := by omega
    go_enter Try.func9, Try.ntmps9
    go_wp2
    go_ret2
    exact ⟨rfl, rfl⟩
theorem Blocks_any (w : World) (pd : Nat) (A : Abs) (n : Nat) (al : Nat → Prop) (d : Disk w pd A n al) : Calls Try.prog 28 #[.pointer (some ⟨pd, 0, none⟩)] w fun e w' => e = .returned (.int .i64 A.N) ∧ w' = w := by
  have hc := d.cell0
  go_enter Try.func28, Try.ntmps28
  go_wp2
  go_ret
  exact ⟨rfl, rfl⟩
set_option maxHeartbeats 400000 in
theorem Versions_err (w : World) (pd : Nat) (A : Abs) (n : Nat) (al : Nat → Prop) (d : Disk w pd A n al) (k : Int) (hh : hasB A.N k 1 = false) :
    Calls Try.prog 21 #[.pointer (some ⟨pd, 0, none⟩), .int .i64 k] w fun e w' => e = .returned (.tuple #[.int .i64 0, .int .i64 1]) ∧ w' = w := by
  have hc0 := d.cell0
  have hN : 1 ≤ A.N ∧ A.N ≤ 65536 := let ⟨_, _, _, _, d⟩ := d; d.hN
  clear d
  go_enter Try.func21, Try.ntmps21
  go_wp2_with (go_at_call 32; refine (hasAll_any _ _ _ _ _ hc0 hN (by omega)).mono ?_; rw [hh]; rintro e w' ⟨rfl, rfl⟩)
  go_ret2
  exact ⟨rfl, rfl⟩
set_option maxHeartbeats 400000 in
theorem Read_err (w : World) (pd : Nat) (A : Abs) (n : Nat) (al : Nat → Prop) (d : Disk w pd A n al) (x m : Int) (hm : m ≤ 9223372036854775807) (hh : hasB A.N x m = false) :
    Calls Try.prog 19 #[.pointer (some ⟨pd, 0, none⟩), .int .i64 x, .int .i64 m] w fun e w' => e = .returned (.tuple #[.slice none 0 0, .int .i64 1]) ∧ w' = w := by
  have hc0 := d.cell0
  have hN : 1 ≤ A.N ∧ A.N ≤ 65536 := let ⟨_, _, _, _, d⟩ := d; d.hN
  clear d
  go_enter Try.func19, Try.ntmps19
  go_wp2_with (go_at_call 32; refine (hasAll_any _ _ _ _ _ hc0 hN hm).mono ?_; rw [hh]; rintro e w' ⟨rfl, rfl⟩)
  go_ret2
  exact ⟨rfl, rfl⟩
set_option maxHeartbeats 400000 in
theorem Platter_err (w : World) (pd : Nat) (A : Abs) (n : Nat) (al : Nat → Prop) (d : Disk w pd A n al) (k : Int) (hh : hasB A.N k 1 = false) :
    Calls Try.prog 29 #[.pointer (some ⟨pd, 0, none⟩), .int .i64 k] w fun e w' => e = .returned (.tuple #[.slice none 0 0, .int .i64 1]) ∧ w' = w := by
  have hc0 := d.cell0
  have hN : 1 ≤ A.N ∧ A.N ≤ 65536 := let ⟨_, _, _, _, d⟩ := d; d.hN
  clear d
  go_enter Try.func29, Try.ntmps29
  go_wp2_with (go_at_call 32; refine (hasAll_any _ _ _ _ _ hc0 hN (by omega)).mono ?_; rw [hh]; rintro e w' ⟨rfl, rfl⟩)
  go_ret2
  exact ⟨rfl, rfl⟩
end Go.Proofs.Ytdbpjdaaggenpaa
