/- The chapter's example: known. -/
import Derived.Test.YtacmdhlemolngaaScQ
namespace Go.Proofs.Ytacmdhlemolngaa
open Go.RowKit Go.Maps

def kA (t : Option (TypeId × Nat)) : Ab := ((Ab.zero.spawn t).spawn t).spawn t
theorem k_len (t : Option (TypeId × Nat)) : (Ab.zero.spawn t).ws.length = 1 ∧ ((Ab.zero.spawn t).spawn t).ws.length = 2 ∧ (kA t).ws.length = 3 := ⟨rfl, rfl, rfl⟩
def kB (t : Option (TypeId × Nat)) : Ab := lockS (kA t) 0 7
def kC (t : Option (TypeId × Nat)) : Ab := lockS (kB t) 1 7
def kD (t : Option (TypeId × Nat)) : Ab := lockS (kC t) 2 7
def kE (t : Option (TypeId × Nat)) : Ab := unlockS (kD t) 0 7
theorem kR1 (t : Option (TypeId × Nat)) : lockR (kA t) 0 7 = .tuple #[.bool true, .int .i64 0] ∧ (kB t).ws.length = 3 := ⟨rfl, rfl⟩
theorem kR2 (t : Option (TypeId × Nat)) : lockR (kB t) 1 7 = .tuple #[.bool false, .int .i64 0] ∧ (kC t).ws.length = 3 := ⟨rfl, rfl⟩
theorem kR3 (t : Option (TypeId × Nat)) : lockR (kC t) 2 7 = .tuple #[.bool false, .int .i64 0] ∧ (kD t).ws.length = 3 := ⟨by kernel_rfl, by kernel_rfl⟩
theorem kR4 (t : Option (TypeId × Nat)) : unlockR (kD t) 0 7 = 0 ∧ fstI ((kE t).lk 7) = .tuple #[.int .i64 1, .bool true] ∧ stateR (kE t) 2 = .tuple #[.int .i64 3, .int .i64 0] := ⟨by kernel_rfl, by kernel_rfl, by kernel_rfl⟩
theorem i7 : IsI 7 := isI_of (by omega) (by omega)
set_option maxRecDepth 100000 in
set_option maxHeartbeats 4000000 in
theorem known_any (w : World) : Calls Try.prog 9 #[] w fun e w' => e = .returned (.bool true) ∧ Below w.heap.size w w' := by
  have HN := hid (New_any w)
  go_enter Try.func9, Try.ntmps9
  go_wp2_with fail
  refine HN.out.mono ?_
  rintro e w1 ⟨p, lab1, rfl, hS1, hb1, hl1⟩
  obtain ⟨W2, hW2⟩ : ∃ W2, W2 = w1.alloc (.cells #[.slice none 0 0, .int .i64 0, .slice none 0 0] 35) := ⟨_, rfl⟩
  have hb2 : Below w1.heap.size w1 W2 := by rw [hW2]; exact (Below.refl _ _).alloc (Nat.le_refl _) _
  obtain ⟨t, ht⟩ : ∃ t, t = some ((32 : TypeId), w1.heap.size) := ⟨_, rfl⟩
  have I0 := inv_zero none
  have I1 := I0.spawn t
  have I2 := I1.spawn t
  have I3 : Inv (kA t) none := I2.spawn t
  have I4 : Inv (kB t) none := I3.lockS 0 7 i7
  have I5 : Inv (kC t) none := I4.lockS 1 7 i7
  have I6 : Inv (kD t) none := I5.lockS 2 7 i7
  have HS := hid (Spawn_any (hS1.below hb2) (I0.fit (by show 0 ≤ _; omega)) 32 w1.heap.size)
  rw [← ht, show ((Ab.zero.ws.length : Nat) : Int) = 0 from rfl] at HS
  have HI := hid (And.intro I1 (And.intro I2 (And.intro I3 (And.intro I4 (And.intro I5 I6)))))
  have HB := hid (hb1.trans (hb2.mono hb1.size))
  have HL1 := hid hl1
  have HT := hid ht
  clear ht hS1 hb1 hb2 hl1 I0 I1 I2 I3 I4 I5 I6
  go_wp2_with fail
  rw [← hW2]
  clear hW2
  refine HS.out.mono ?_
  rintro e w3 ⟨rfl, lab3, h3, hK3⟩
  have HS3 := hid (Spawn_any h3 (HI.out.1.fit (by rw [(k_len t).1]; omega)) 32 w1.heap.size)
  rw [← HT.out, show (((Ab.zero.spawn t).ws.length : Nat) : Int) = 1 by rw [(k_len t).1]; rfl] at HS3
  have HK3 := hid hK3
  clear h3 hK3
  go_wp2_with fail
  refine HS3.out.mono ?_
  rintro e w4 ⟨rfl, lab4, h4, hK4⟩
  have HS4 := hid (Spawn_any h4 (HI.out.2.1.fit (by rw [(k_len t).2.1]; omega)) 32 w1.heap.size)
  rw [← HT.out, show ((((Ab.zero.spawn t).spawn t).ws.length : Nat) : Int) = 2 by rw [(k_len t).2.1]; rfl] at HS4
  have HK4 := hid (HK3.out.trans hK4)
  clear h4 hK4
  go_wp2_with fail
  refine HS4.out.mono ?_
  rintro e w5 ⟨rfl, lab5, h5, hK5⟩
  have HS5 := hid (Lock_any (A := kA t) h5 (HI.out.2.2.1.fit (by rw [(k_len t).2.2]; omega)) (by omega) 0 7 i7)
  rw [(kR1 t).1] at HS5
  have HK5 := hid (HK4.out.trans hK5)
  clear h5 hK5
  go_wp2_with fail
  refine HS5.out.mono ?_
  rintro e w6 ⟨rfl, lab6, h6, hK6⟩
  have HS6 := hid (Lock_any (A := kB t) h6 (HI.out.2.2.2.1.fit (by rw [(kR1 t).2]; omega)) (by omega) 1 7 i7)
  rw [(kR2 t).1] at HS6
  have HK6 := hid (HK5.out.trans hK6)
  clear h6 hK6
  go_wp2_with fail
  refine HS6.out.mono ?_
  rintro e w7 ⟨rfl, lab7, h7, hK7⟩
  have HS7 := hid (Lock_any (A := kC t) h7 (HI.out.2.2.2.2.1.fit (by rw [(kR2 t).2]; omega)) (by omega) 2 7 i7)
  rw [(kR3 t).1] at HS7
  have HK7 := hid (HK6.out.trans hK7)
  clear h7 hK7
  go_wp2_with fail
  refine HS7.out.mono ?_
  rintro e w8 ⟨rfl, lab8, h8, hK8⟩
  have HS8 := hid (Unlock_any (A := kD t) h8 (HI.out.2.2.2.2.2.fit (by rw [(kR3 t).2]; omega)) (by omega) 0 7 i7)
  rw [(kR4 t).1] at HS8
  have HK8 := hid (HK7.out.trans hK8)
  clear h8 hK8
  go_wp2_with fail
  refine HS8.out.mono ?_
  rintro e w9 ⟨rfl, lab9, h9, hK9⟩
  have HS9 := hid (Holder_any (A := kE t) h9 7 i7)
  rw [(kR4 t).2.1] at HS9
  have HST := hid (State_any (A := kE t) h9 2)
  rw [(kR4 t).2.2] at HST
  have HK9 := hid (HK8.out.trans hK9)
  clear h9 hK9
  go_wp2_with (first | (go_at_call 30; refine HS9.out.mono ?_; rintro e w1 ⟨rfl, hw1⟩; rw [hw1]; clear hw1) | (go_at_call 22; refine HST.out.mono ?_; rintro e w1 ⟨rfl, hw1⟩; rw [hw1]; clear hw1))
  go_ret
  exact ⟨rfl, HK9.out.2.to_below HB.out HB.out.size (fun b hb => by
    by_cases e : b < w.heap.size
    · exact absurd (HL1.out b e) hb
    · omega)⟩
end Go.Proofs.Ytacmdhlemolngaa
