/- Parse and Write, both sides alike. -/
import Derived.Test.YtlflbpemjlgdiaaEhC
namespace Go.Proofs.Ytlflbpemjlgdiaa
open Go.RowKit Go.Maps
set_option linter.unusedVariables false

def wrE (k : Int) (body : List Int) : Int := if k < 0 ∨ 65535 < k then 1 else if 1500 < body.length then 14 else 0
def wrL (m1 m2 : Mac) (k : Int) (body : List Int) : List Int := if wrE k body = 0 then frL m1 m2 k body else []
def prA (l : List Int) : Mac := if 14 ≤ l.length ∧ l.length ≤ 1514 then macOf l else mac0
def prB (l : List Int) : Mac := if 14 ≤ l.length ∧ l.length ≤ 1514 then macOf (l.drop 6) else mac0
def prK (l : List Int) : Int := if 14 ≤ l.length ∧ l.length ≤ 1514 then kindOf l else 0
def prL (l : List Int) : List Int := if 14 ≤ l.length ∧ l.length ≤ 1514 then l.drop 14 else []
def prE (l : List Int) : Int := if 14 ≤ l.length ∧ l.length ≤ 1514 then 0 else 14
theorem Write_any (w : World) (m1 m2 : Mac) (k : Int) (ab : Option Addr) (nb cb : Nat) (body : List Int) (hm1 : m1.ok) (hm2 : m2.ok) (hk : -9223372036854775808 ≤ k ∧ k ≤ 9223372036854775807) (hbl : body.length = nb) (hbb : Bytes w ab body) :
    Calls Try.prog 10 #[.agg (frC m1 m2 k (.slice ab nb cb))] w fun e w' => ∃ a2 c2, e = .returned (.tuple #[.slice a2 (wrL m1 m2 k body).length c2, .int .i64 (wrE k body)]) ∧ By w' (New w) a2 (wrL m1 m2 k body) ∧ Below w.heap.size w w' := by
  subst hbl
  by_cases h1 : k < 0 ∨ 65535 < k
  · have e1 : wrE k body = 1 := by unfold wrE; rw [if_pos h1]
    have e2 : wrL m1 m2 k body = [] := by unfold wrL; rw [if_neg (by rw [e1]; decide)]
    rw [e1, e2]
    refine (Write_arg w m1 m2 k ab body.length cb hk h1).mono ?_
    rintro e w' ⟨rfl, hb⟩
    exact ⟨none, 0, rfl, By.nil _ _ _, hb⟩
  · by_cases h2 : 1500 < body.length
    · have e1 : wrE k body = 14 := by unfold wrE; rw [if_neg h1, if_pos h2]
      have e2 : wrL m1 m2 k body = [] := by unfold wrL; rw [if_neg (by rw [e1]; decide)]
      rw [e1, e2]
      refine (Write_size w m1 m2 k ab body.length cb (by omega) h2).mono ?_
      rintro e w' ⟨rfl, hb⟩
      exact ⟨none, 0, rfl, By.nil _ _ _, hb⟩
    · have e1 : wrE k body = 0 := by unfold wrE; rw [if_neg h1, if_neg h2]
      have e2 : wrL m1 m2 k body = frL m1 m2 k body := by unfold wrL; rw [if_pos e1]
      rw [e1, e2, frL_len]
      refine (Write_ok w m1 m2 k ab body.length cb body hm1 hm2 (by omega) rfl (by omega) hbb).mono ?_
      rintro e w' ⟨a2, c2, rfl, hy, _, hb⟩
      exact ⟨a2, c2, rfl, hy, hb⟩
theorem rWrite_any (w : World) (m1 m2 : Mac) (k : Int) (ab : Option Addr) (nb cb : Nat) (body : List Int) (hm1 : m1.ok) (hm2 : m2.ok) (hk : -9223372036854775808 ≤ k ∧ k ≤ 9223372036854775807) (hbl : body.length = nb) (hbb : Bytes w ab body) :
    Calls Try.prog 11 #[.agg (frC m1 m2 k (.slice ab nb cb))] w fun e w' => ∃ a2 c2, e = .returned (.tuple #[.slice a2 (wrL m1 m2 k body).length c2, .int .i64 (wrE k body)]) ∧ By w' (New w) a2 (wrL m1 m2 k body) ∧ Below w.heap.size w w' := by
  subst hbl
  by_cases h1 : k < 0 ∨ 65535 < k
  · have e1 : wrE k body = 1 := by unfold wrE; rw [if_pos h1]
    have e2 : wrL m1 m2 k body = [] := by unfold wrL; rw [if_neg (by rw [e1]; decide)]
    rw [e1, e2]
    refine (rWrite_arg w m1 m2 k ab body.length cb h1).mono ?_
    rintro e w' ⟨rfl, hb⟩
    exact ⟨none, 0, rfl, By.nil _ _ _, hb⟩
  · by_cases h2 : 1500 < body.length
    · have e1 : wrE k body = 14 := by unfold wrE; rw [if_neg h1, if_pos h2]
      have e2 : wrL m1 m2 k body = [] := by unfold wrL; rw [if_neg (by rw [e1]; decide)]
      rw [e1, e2]
      refine (rWrite_size w m1 m2 k ab body.length cb (by omega) h2).mono ?_
      rintro e w' ⟨rfl, hb⟩
      exact ⟨none, 0, rfl, By.nil _ _ _, hb⟩
    · have e1 : wrE k body = 0 := by unfold wrE; rw [if_neg h1, if_neg h2]
      have e2 : wrL m1 m2 k body = frL m1 m2 k body := by unfold wrL; rw [if_pos e1]
      rw [e1, e2, frL_len]
      refine (rWrite_ok w m1 m2 k ab body.length cb body hm1 hm2 (by omega) rfl (by omega) hbb).mono ?_
      rintro e w' ⟨a2, c2, rfl, hy, _, hb⟩
      exact ⟨a2, c2, rfl, hy, hb⟩
theorem Parse_any (w : World) (a : Option Addr) (n c : Nat) (l : List Int) (hn : l.length = n) (hnc : n ≤ c) (hb : Bytes w a l) :
    Calls Try.prog 8 #[.slice a n c] w fun e w' => ∃ a2 c2, e = .returned (.tuple #[.agg (frC (prA l) (prB l) (prK l) (.slice a2 (prL l).length c2)), .int .i64 (prE l)]) ∧ By w' (New w) a2 (prL l) ∧ Below w.heap.size w w' := by
  subst hn
  by_cases h : 14 ≤ l.length ∧ l.length ≤ 1514
  · unfold prA prB prK prL prE
    rw [if_pos h, if_pos h, if_pos h, if_pos h, if_pos h, List.length_drop]
    refine (Parse_ok w a l.length c l rfl h.1 h.2 hnc hb).mono ?_
    rintro e w' ⟨a2, c2, rfl, hy, _, hb⟩
    exact ⟨a2, c2, rfl, hy, hb⟩
  · unfold prA prB prK prL prE
    rw [if_neg h, if_neg h, if_neg h, if_neg h, if_neg h]
    refine (Parse_size w a l.length c (by omega)).mono ?_
    rintro e w' ⟨rfl, hb⟩
    exact ⟨none, 0, rfl, By.nil _ _ _, hb⟩
theorem rParse_any (w : World) (a : Option Addr) (n c : Nat) (l : List Int) (hn : l.length = n) (hnc : n ≤ c) (hb : Bytes w a l) :
    Calls Try.prog 9 #[.slice a n c] w fun e w' => ∃ a2 c2, e = .returned (.tuple #[.agg (frC (prA l) (prB l) (prK l) (.slice a2 (prL l).length c2)), .int .i64 (prE l)]) ∧ By w' (New w) a2 (prL l) ∧ Below w.heap.size w w' := by
  subst hn
  by_cases h : 14 ≤ l.length ∧ l.length ≤ 1514
  · unfold prA prB prK prL prE
    rw [if_pos h, if_pos h, if_pos h, if_pos h, if_pos h, List.length_drop]
    refine (rParse_ok w a l.length c l rfl h.1 h.2 hnc hb).mono ?_
    rintro e w' ⟨a2, c2, rfl, hy, _, hb⟩
    exact ⟨a2, c2, rfl, hy, hb⟩
  · unfold prA prB prK prL prE
    rw [if_neg h, if_neg h, if_neg h, if_neg h, if_neg h]
    refine (rParse_size w a l.length c (by omega)).mono ?_
    rintro e w' ⟨rfl, hb⟩
    exact ⟨none, 0, rfl, By.nil _ _ _, hb⟩
theorem box14d (w : World) (M : Array Value) (hs : M.size = 14) (h1 : M.all (·.oneCell') = true) : ∃ W5, W5 = w.alloc (.cells #[.int .u8 0, .int .u8 0, .int .u8 0, .int .u8 0, .int .u8 0, .int .u8 0, .int .u8 0, .int .u8 0, .int .u8 0, .int .u8 0, .int .u8 0, .int .u8 0, .int .i64 0, .slice none 0 0] 30) ∧ W5.heap[w.heap.size]? = some (.cells (frC mac0 mac0 0 (.slice none 0 0)) 30 (0, 0)) ∧ ∃ W6, W6 = W5.setRow w.heap.size M ∧ W6.heap[w.heap.size]? = some (.cells M 30 (0, 0)) ∧ Below w.heap.size w W6 := by
  have k3 : (w.alloc (.cells (frC mac0 mac0 0 (.slice none 0 0)) 30)).heap[w.heap.size]? = some (.cells (frC mac0 mac0 0 (.slice none 0 0)) 30 (0, 0)) := alloc_new w _
  have b3 : Below w.heap.size w (w.alloc (.cells (frC mac0 mac0 0 (.slice none 0 0)) 30)) := below_alloc (Below.refl _ _) (Nat.le_refl _) _
  exact ⟨_, rfl, k3, _, rfl, setRow_heap _ _ _ _ _ _ k3, (setRow_mods _ _ _).to_below b3 b3.size (fun x hx => by rw [hx]; exact Nat.le_refl _)⟩
end Go.Proofs.Ytlflbpemjlgdiaa
