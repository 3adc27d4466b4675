/- Hosts as bytes. -/
import Derived.Test.YteeakkpbpffohaaEcE
namespace Go.Proofs.Yteeakkpbpffohaa
open Go.RowKit Go.Maps
set_option linter.unusedVariables false

theorem fits_one (k v : Int) (h : v / 256 ^ k.toNat = 0) : fitsB k [v] = true := by simp [fitsB, fitB, h]
/-- num.PutBe of one number that fits. -/
theorem putBe1 (w : World) (a : Option Addr) (n c k g cap : Nat) (b : List Int) (v : Int) (hn : b.length = n) (hl : n ≤ 900000) (hk : k = 2 ∨ k = 4) (hv : 0 ≤ v ∧ v < 256 ^ k) (hb : Bytes w a b) (hg : w.cell? ⟨g, 0, none⟩ = some (.int .u64 v)) :
    Calls Try.prog 59 #[.slice a n c, .int .i64 k, .slice (some ⟨g, 0, none⟩) 1 cap] w fun e w' => ∃ a2 c2, e = .returned (.tuple #[.slice a2 (n + k) c2, .int .i64 0]) ∧ By w' (New w) a2 (b ++ bytesBe k v) ∧ n + k ≤ c2 ∧ Below w.heap.size w w' := by
  subst hn
  have hv64 : v < 18446744073709551616 := by rcases hk with rfl | rfl <;> omega
  have hW : Words w (some ⟨g, 0, none⟩) [v] := fun i hi => by
    obtain rfl : i = 0 := by simp at hi; omega
    exact ⟨g, 0, rfl, hg, hv.1, hv64⟩
  have hI : ∀ x ∈ outBe b k [v], IsB x := by
    rw [outBe_uno]; intro x hx
    rcases List.mem_append.1 hx with h | h
    · exact hb.isB x h
    · exact be_isB k v x h
  rcases hk with rfl | rfl
  · refine (putBe_2 a (some ⟨g, 0, none⟩) c cap b [v] w (by omega) (by simp) hb hW (fits_one 2 v (by simp; omega))).mono ?_
    rintro e w' ⟨rfl, h1, h2, h3⟩
    have h4 := By.of_row (S := New w) h3 (Nat.le_refl _) hI (by rw [outBe_len]; exact Nat.le_refl _)
    rw [outBe_uno] at h4
    exact ⟨_, _, rfl, h4, Nat.le_refl _, h1⟩
  · refine (putBe_4 a (some ⟨g, 0, none⟩) c cap b [v] w (by omega) (by simp) hb hW (fits_one 4 v (by simp; omega))).mono ?_
    rintro e w' ⟨rfl, h1, h2, h3⟩
    have h4 := By.of_row (S := New w) h3 (Nat.le_refl _) hI (by rw [outBe_len]; exact Nat.le_refl _)
    rw [outBe_uno] at h4
    exact ⟨_, _, rfl, h4, Nat.le_refl _, h1⟩
theorem mac_bytes {w : World} {b o : Nat} {m : Mac} (hm : m.ok) (h : ∀ i, i < 6 → w.cell? ⟨b, o + i, none⟩ = some (.int .u8 (m.l.getD i 0))) : Bytes w (some ⟨b, o, none⟩) m.l := Bytes.mk_ hm (fun i hi => h i hi)
end Go.Proofs.Yteeakkpbpffohaa
