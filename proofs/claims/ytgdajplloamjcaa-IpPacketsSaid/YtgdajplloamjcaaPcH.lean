/- The document's Write. -/
import Derived.Test.YtgdajplloamjcaaPcE
import Derived.Test.YtgdajplloamjcaaPdD
namespace Go.Proofs.Ytgdajplloamjcaa
open Go.RowKit Go.Maps
set_option linter.unusedVariables false
/-- High, at a row of one's own. -/
theorem High_go (w : World) (B : Nat) (a : Option Addr) (k c : Nat) (l : List Int) (h : GO w B (.slice a k c) l) (hk : l.length = k) (hB : B ≤ w.heap.size) (n : Nat) (hn : 0 < n ∧ n ≤ 8) (x : Int) (h0 : 0 ≤ x) (h1 : x < 18446744073709551616) (hl : k ≤ 800000) (N : Int) (hN : N = n) (r : Nat) (hr : k + n = r) :
    Calls Try.prog 30 #[.slice a k c, .int .i64 N, .int .u64 x] w fun e w' => ∃ a2 c2, e = .returned (.slice a2 r c2) ∧ GO w' B (.slice a2 r c2) (l ++ bytesBe n x) ∧ Below B w w' ∧ Mods (fun b => (Value.slice a k c).ownBlock = some b) w w' := by
  subst hk hr
  exact High_any w B _ l h.gr hB n N x hN hn h0 h1 (by omega)
theorem two69 (w : World) (B : Nat) (hB : B ≤ w.heap.size) : GO (w.alloc (.cells #[.int .u8 69, .int .u8 0] 5)) B (.slice (some ⟨w.heap.size, 0, none⟩) 2 2) [69, 0] :=
  ⟨fun x hx => by simp at hx; rcases hx with rfl | rfl <;> (unfold IsB; omega), rfl, .inr ⟨w.heap.size, 2, _, rfl, hB, alloc_new w _, Nat.le_refl _, by unfold maxLen; omega, by simp, by simp [u8s]⟩⟩
/-- The header with noughts for its sum. -/
def hdZ (n : Nat) (s d pr i o : Int) (m : Bool) (t : Int) : List Int := [69, 0] ++ bytesBe 2 (20 + (n : Int)) ++ bytesBe 2 i ++ bytesBe 2 (flW o m) ++ [t, pr, 0, 0] ++ bytesBe 4 s ++ bytesBe 4 d
theorem hdZ_len (n : Nat) (s d pr i o : Int) (m : Bool) (t : Int) : (hdZ n s d pr i o m t).length = 20 := by simp [hdZ, len_be]
theorem hdZ_set (n : Nat) (s d pr i o : Int) (m : Bool) (t : Int) (h1 : 0 ≤ pr ∧ pr ≤ 255) (h2 : 0 ≤ t ∧ t ≤ 255) : inetL (hdZ n s d pr i o m t) = hdS n s d pr i o m t ∧ ((hdZ n s d pr i o m t).set 10 (hdS n s d pr i o m t / 256)).set 11 (hdS n s d pr i o m t % 256) = hdL n s d pr i o m t := by
  have hSb := inetL_bd _ (hdAE_isB n s d pr i o m t)
  have hz : hdZ n s d pr i o m t = hdA n pr i o m t ++ ([0, 0] ++ hdE s d) := by
    rw [hdA_list]; unfold hdZ hdE
    have e1 : t % 256 = t := by omega
    have e2 : pr % 256 = pr := by omega
    rw [e1, e2]
    simp [outBe, bytesBe, List.range, List.range.loop]
  constructor
  · show inetL _ = inetL (hdA n pr i o m t ++ hdE s d)
    rw [hz]
    unfold inetL
    have a1 := wsum_append 0 (hdA n pr i o m t) ([0, 0] ++ hdE s d)
    have a2 := wsum_append (0 + 10) [0, 0] (hdE s d)
    have a3 := wsum_append 0 (hdA n pr i o m t) (hdE s d)
    rw [hdA_len] at a1 a3
    have a4 : wsum (0 + 10) [0, 0] = 0 := by simp [wsum]
    have a5 : wsum (0 + 10 + [(0 : Int), 0].length) (hdE s d) = wsum (0 + 10) (hdE s d) := wsum_par 10 _
    rw [a1, a2, a3, a4, a5, Int.zero_add]
  · have hS : hdS n s d pr i o m t / 256 % 256 = hdS n s d pr i o m t / 256 := by
      have h3 : hdS n s d pr i o m t = inetL (hdA n pr i o m t ++ hdE s d) := rfl
      rw [← h3] at hSb; omega
    rw [hz, hdL_list, hS, hdA_list]
    have e : hdE s d = [s / 16777216 % 256, s / 65536 % 256, s / 256 % 256, s % 256, d / 16777216 % 256, d / 65536 % 256, d / 256 % 256, d % 256] := by
      unfold hdE; simp [outBe, bytesBe, List.range, List.range.loop]
    rw [e]
    rfl
end Go.Proofs.Ytgdajplloamjcaa
