/- Hosts: hostOf. -/
import Derived.Test.YthgmghfegaemkaaDoorEcA
namespace Go.Proofs.YthgmghfegaemkaaDoor
open Go.RowKit Go.Maps
set_option linter.unusedVariables false

abbrev hostC (m : Mac) (ip : Int) : Array Value := #[.int .u8 m.a, .int .u8 m.b, .int .u8 m.c, .int .u8 m.d, .int .u8 m.e, .int .u8 m.f, .int .u32 ip]
theorem hostC_one (m : Mac) (ip : Int) : (hostC m ip).all (·.oneCell') = true := by simp [Value.oneCell']
/-- The number of four bytes at a place. -/
def ipAt (l : List Int) (k : Nat) : Int := beOf ((l.drop k).take 4)
theorem isB_cut {l : List Int} (h : ∀ x ∈ l, IsB x) (k n : Nat) : ∀ x ∈ (l.drop k).take n, IsB x := fun x hx => h x (List.mem_of_mem_drop (List.mem_of_mem_take hx))
theorem be_cut_bd (l : List Int) (k n : Nat) (h : ∀ x ∈ l, IsB x) (hk : k + n ≤ l.length) : 0 ≤ beOf ((l.drop k).take n) ∧ beOf ((l.drop k).take n) < 256 ^ n := by
  have := beOf_bd _ (isB_cut h k n)
  rwa [show ((l.drop k).take n).length = n by simp; omega] at this
theorem ipAt_bd (l : List Int) (k : Nat) (h : ∀ x ∈ l, IsB x) (hk : k + 4 ≤ l.length) : IsU (ipAt l k) := by
  have := be_cut_bd l k 4 h hk
  unfold IsU ipAt; omega
/-- num.Be where the bytes are. -/
theorem be_in (w : World) (a : Option Addr) (n c : Nat) (l : List Int) (k m : Nat) (hn : l.length = n) (hc : n ≤ c) (hm : n ≤ maxLen) (hw : widB m = true) (hk : k + m ≤ n) (hb : Bytes w a l) :
    Calls Tryd.prog 11 #[.slice a n c, .int .i64 k, .int .i64 m] w fun e w' => e = .returned (.tuple #[.int .u64 (beOf ((l.drop k).take m)), .int .i64 0]) ∧ Below w.heap.size w w' := by
  refine (numBe_at a n c l k m w hn (by omega) hc hb).mono ?_
  rintro e w' ⟨rfl, q, rfl⟩
  have hi : insB l.length k m = true := by simp [insB]; omega
  obtain ⟨e1, _, e2⟩ := rd_yes l k m hw hi
  rw [← hn, e1, e2]
  exact ⟨rfl, below_drewN (Below.refl _ _) q⟩
end Go.Proofs.YthgmghfegaemkaaDoor
