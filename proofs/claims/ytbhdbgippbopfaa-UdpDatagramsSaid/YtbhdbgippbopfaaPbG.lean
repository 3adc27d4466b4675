/- Package ip's header. -/
import Derived.Test.YtbhdbgippbopfaaPbE
import Derived.Test.YtbhdbgippbopfaaPbF
namespace Go.Proofs.Ytbhdbgippbopfaa
open Go.RowKit Go.Maps
set_option linter.unusedVariables false
/-- The word of the flags. -/
def flW (o : Int) (m : Bool) : Int := o / 8 + (if m then 8192 else 0)
def hdA (n : Nat) (pr i o : Int) (m : Bool) (t : Int) : List Int := outBe (outBe [] 2 [17664, 20 + (n : Int), i, flW o m]) 1 [t, pr]
def hdE (s d : Int) : List Int := outBe [] 4 [s, d]
def hdS (n : Nat) (s d pr i o : Int) (m : Bool) (t : Int) : Int := inetL (hdA n pr i o m t ++ hdE s d)
def hdL (n : Nat) (s d pr i o : Int) (m : Bool) (t : Int) : List Int := outBe (hdA n pr i o m t) 2 [hdS n s d pr i o m t] ++ hdE s d
theorem outBe_isB (b : List Int) (k : Nat) (vs : List Int) (hb : ∀ x ∈ b, IsB x) : ∀ x ∈ outBe b k vs, IsB x := by
  intro x hx
  unfold outBe at hx
  rcases List.mem_append.1 hx with h | h
  · exact hb x h
  · obtain ⟨v, _, hv⟩ := List.mem_flatMap.1 h
    exact be_isB k v x hv
theorem hdA_len (n : Nat) (pr i o : Int) (m : Bool) (t : Int) : (hdA n pr i o m t).length = 10 := by unfold hdA; rw [outBe_len, outBe_len]; rfl
theorem hdE_len (s d : Int) : (hdE s d).length = 8 := by unfold hdE; rw [outBe_len]; rfl
theorem hdL_len (n : Nat) (s d pr i o : Int) (m : Bool) (t : Int) : (hdL n s d pr i o m t).length = 20 := by unfold hdL; rw [List.length_append, outBe_len, hdA_len, hdE_len]; rfl
theorem hdA_isB (n : Nat) (pr i o : Int) (m : Bool) (t : Int) : ∀ x ∈ hdA n pr i o m t, IsB x := outBe_isB _ _ _ (outBe_isB _ _ _ (fun x hx => by simp at hx))
theorem hdE_isB (s d : Int) : ∀ x ∈ hdE s d, IsB x := outBe_isB _ _ _ (fun x hx => by simp at hx)
theorem hdAE_isB (n : Nat) (s d pr i o : Int) (m : Bool) (t : Int) : ∀ x ∈ hdA n pr i o m t ++ hdE s d, IsB x := by
  intro x hx
  rcases List.mem_append.1 hx with h | h
  · exact hdA_isB _ _ _ _ _ _ x h
  · exact hdE_isB _ _ x h
theorem hdL_isB (n : Nat) (s d pr i o : Int) (m : Bool) (t : Int) : ∀ x ∈ hdL n s d pr i o m t, IsB x := by
  intro x hx
  rcases List.mem_append.1 hx with h | h
  · exact outBe_isB _ _ _ (hdA_isB _ _ _ _ _ _) x h
  · exact hdE_isB _ _ x h
theorem or8192 (x : Int) (h0 : 0 ≤ x) (h1 : x < 8192) : bits .or .i64 x 8192 = x + 8192 := by
  have hc : bits .or .i64 x 8192 = bits .or .i64 8192 x := by simp only [bits, BitVec.or_comm]
  rw [hc, bits_join .i64 63 (by decide) (fun n h0 h1 => by rw [IntKind.wrap_i64]; omega) 13 8192 x (by decide) (by decide) (by decide) h0 h1 (by omega)]
  omega
end Go.Proofs.Ytbhdbgippbopfaa
