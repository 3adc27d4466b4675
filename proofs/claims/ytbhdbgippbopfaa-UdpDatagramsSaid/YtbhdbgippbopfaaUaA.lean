/- Package udp: the sum's words, number, isPort, extent. -/
import Derived.Test.YtbhdbgippbopfaaPcD
import Derived.Test.YtbhdbgippbopfaaPbG
namespace Go.Proofs.Ytbhdbgippbopfaa
open Go.RowKit Go.Maps
set_option linter.unusedVariables false
/-- What the sum holds ahead of the datagram. -/
def phL (s d n : Int) : List Int := outBe (outBe [] 4 [s, d]) 2 [17, n]
theorem phL_len (s d n : Int) : (phL s d n).length = 12 := by unfold phL; rw [outBe_len, outBe_len]; rfl
theorem phL_isB (s d n : Int) : ∀ x ∈ phL s d n, IsB x := outBe_isB _ _ _ (outBe_isB _ _ _ (fun x hx => by simp at hx))
/-- The sum of a datagram whose bytes but the sum's are l; and as it is told. -/
def udI (s d : Int) (l : List Int) : Int := inetL (phL s d (2 + (l.length : Int)) ++ l)
def udS (s d : Int) (l : List Int) : Int := if udI s d l = 0 then 65535 else udI s d l
theorem udI_bd (s d : Int) (l : List Int) (h : ∀ x ∈ l, IsB x) : 0 ≤ udI s d l ∧ udI s d l ≤ 65535 := inetL_bd _ (fun x hx => by
  rcases List.mem_append.1 hx with h1 | h1
  · exact phL_isB _ _ _ x h1
  · exact h x h1)
theorem udS_bd (s d : Int) (l : List Int) (h : ∀ x ∈ l, IsB x) : 1 ≤ udS s d l ∧ udS s d l ≤ 65535 := by
  have := udI_bd s d l h
  unfold udS; split <;> omega
set_option maxRecDepth 100000 in
theorem number_in (w : World) (a : Option Addr) (n c : Nat) (l : List Int) (k : Nat) (hn : l.length = n) (hc : n ≤ c) (hl : n ≤ 900000) (hk : k + 2 ≤ n) (hb : Bytes w a l) (K : Int) (hK : (k : Int) = K) :
    Calls Try.prog 14 #[.slice a n c, .int .i64 K] w fun e w' => e = .returned (.int .i64 (beOf ((l.drop k).take 2))) ∧ Below w.heap.size w w' := by
  subst hK
  have HBE := hid (be_in w a n c l k 2 hn hc (by unfold maxLen; omega) rfl hk hb)
  have hbd := be_cut_bd l k 2 hb.isB (by omega)
  generalize beOf ((l.drop k).take 2) = x at *
  have hx : 0 ≤ x ∧ x < 4294967296 := by omega
  have hwk : IntKind.i64.wrap x = x := IntWalk.i64_in _ (by omega)
  clear hb hbd hn
  go_enter Try.func14, Try.ntmps14
  go_wp2_with (go_at_call 22; refine HBE.out.mono ?_; rintro e w2 ⟨rfl, hb2⟩; have HB2 := hid hb2; clear hb2)
  go_ret
  exact ⟨rfl, HB2.out⟩
theorem isPort_any (n : Int) (w : World) : Calls Try.prog 19 #[.int .i64 n] w fun e w' => e = .returned (.bool (decide (0 ≤ n ∧ n ≤ 65535))) ∧ w' = w := by
  by_cases h : 0 ≤ n
  · have e : decide (0 ≤ n ∧ n ≤ 65535) = decide (n ≤ 65535) := by simp [h]
    rw [e]
    clear e
    go_enter Try.func19, Try.ntmps19
    go_wp2
    go_ret
    exact ⟨rfl, rfl⟩
  · have e : decide (0 ≤ n ∧ n ≤ 65535) = false := by simp [h]
    rw [e]
    clear e
    go_enter Try.func19, Try.ntmps19
    go_wp2
    go_ret
    exact ⟨rfl, rfl⟩
/-- The length that a datagram says. -/
def leN (l : List Int) : Int := beOf ((l.drop 4).take 2)
def exE (l : List Int) : Int := if l.length < 8 then 11 else if leN l < 8 then 15 else if (l.length : Int) < leN l then 11 else 0
theorem exE_ok {l : List Int} (h : exE l = 0) : 8 ≤ l.length ∧ 8 ≤ leN l ∧ leN l ≤ (l.length : Int) := by
  unfold exE at h
  split at h
  · omega
  · split at h
    · omega
    · split at h
      · omega
      · omega
set_option maxRecDepth 100000 in
set_option maxHeartbeats 2000000 in
theorem extent_any (w : World) (a : Option Addr) (n c : Nat) (l : List Int) (hn : l.length = n) (hl : n ≤ 800000) (hc : n ≤ c) (hb : Bytes w a l) :
    Calls Try.prog 13 #[.slice a n c] w fun e w' => ∃ x, (e = .returned (.tuple #[.int .i64 x, .int .i64 (exE l)]) ∧ (exE l = 0 → x = leN l)) ∧ Below w.heap.size w w' := by
  by_cases h8 : n < 8
  · have e0 : exE l = 11 := by unfold exE; rw [if_pos (by omega)]
    rw [e0]
    have h8i : (n : Int) < 8 := by omega
    clear hn hb e0
    go_enter Try.func13, Try.ntmps13
    go_wp2
    go_ret2
    exact ⟨0, ⟨rfl, fun h => by omega⟩, Below.refl _ _⟩
  · have h8i : ¬ ((n : Int) < 8) := by omega
    have HNU := hid (number_in w a n c l 4 hn hc (by omega) (by omega) hb 4 rfl)
    have hA := be_cut_bd l 4 2 hb.isB (by omega)
    have hE : exE l = if leN l < 8 then 15 else if (n : Int) < leN l then 11 else 0 := by unfold exE; rw [if_neg (by omega), hn]
    have hL : beOf ((l.drop 4).take 2) = leN l := rfl
    rw [hL] at HNU hA
    generalize exE l = E at *
    generalize leN l = A at *
    clear hn hb hL
    by_cases k1 : A < 8
    · rw [if_pos k1] at hE
      subst hE
      go_enter Try.func13, Try.ntmps13
      go_wp2_with (go_at_call 14; refine HNU.out.mono ?_; rintro e w2 ⟨rfl, hb2⟩; have HB2 := hid hb2; clear hb2)
      go_ret2
      exact ⟨0, ⟨rfl, fun h => by omega⟩, HB2.out⟩
    · rw [if_neg k1] at hE
      by_cases k2 : (n : Int) < A
      · rw [if_pos k2] at hE
        subst hE
        go_enter Try.func13, Try.ntmps13
        go_wp2_with (go_at_call 14; refine HNU.out.mono ?_; rintro e w2 ⟨rfl, hb2⟩; have HB2 := hid hb2; clear hb2)
        go_ret2
        exact ⟨0, ⟨rfl, fun h => by omega⟩, HB2.out⟩
      · rw [if_neg k2] at hE
        subst hE
        go_enter Try.func13, Try.ntmps13
        go_wp2_with (go_at_call 14; refine HNU.out.mono ?_; rintro e w2 ⟨rfl, hb2⟩; have HB2 := hid hb2; clear hb2)
        go_ret2
        exact ⟨A, ⟨rfl, fun _ => rfl⟩, HB2.out⟩
end Go.Proofs.Ytbhdbgippbopfaa
