/- Hosts: hostOf. -/
import Derived.Test.YthgmghfegaemkaaEcA
namespace Go.Proofs.Ythgmghfegaemkaa
open Go.RowKit Go.Maps
set_option linter.unusedVariables false

abbrev hostC (m : Mac) (ip : Int) : Array Value := #[.int .u8 m.a, .int .u8 m.b, .int .u8 m.c, .int .u8 m.d, .int .u8 m.e, .int .u8 m.f, .int .u32 ip]
theorem hostC_one (m : Mac) (ip : Int) : (hostC m ip).all (·.oneCell') = true := by simp [Value.oneCell']
/-- The number of four bytes at a place. -/
def ipAt (l : List Int) (k : Nat) : Int := beOf ((l.drop k).take 4)
theorem isB_cut {l : List Int} (h : ∀ x ∈ l, IsB x) (k n : Nat) : ∀ x ∈ (l.drop k).take n, IsB x := fun x hx => h x (List.mem_of_mem_drop (List.mem_of_mem_take hx))
theorem be_cut_bd (l : List Int) (k n : Nat) (h : ∀ x ∈ l, IsB x) (hk : k + n ≤ l.length) : 0 ≤ beOf ((l.drop k).take n) ∧ beOf ((l.drop k).take n) < 256 ^ n := by
  have := beOf_bd _ (isB_cut h k n)
  rwa [show ((l.drop k).take n).length = n by simp; omega] at this
theorem ipAt_bd (l : List Int) (k : Nat) (h : ∀ x ∈ l, IsB x) (hk : k + 4 ≤ l.length) : IsU (ipAt l k) := by
  have := be_cut_bd l k 4 h hk
  unfold IsU ipAt; omega
end Go.Proofs.Ythgmghfegaemkaa
