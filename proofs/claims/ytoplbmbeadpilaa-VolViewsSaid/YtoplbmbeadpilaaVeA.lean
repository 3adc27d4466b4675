/- Bits of a row: asked, turned, the lowest that is free. -/
import Derived.Test.YtoplbmbeadpilaaVbA
import Derived.Test.YtoplbmbeadpilaaVbS
import Derived.LaidEql
import Derived.Stop.Asserts
namespace Go.Proofs.Ytoplbmbeadpilaa
open Go.RowKit Go.Maps Go.Stop Go.Extern
set_option linter.unusedVariables false

theorem By.at_ {w : World} {S : Nat → Prop} {a : Option Addr} {l : List Int} (h : By w S a l) (h0 : 0 < l.length) : ∃ gb go, a = some ⟨gb, go, none⟩ ∧ gb < w.heap.size ∧ ∀ i, i < l.length → w.cell? ⟨gb, go + i, none⟩ = some (.int .u8 (l.getD i 0)) := by
  obtain ⟨b, off, cur, fr, rfl, _, hh, hcur⟩ := h.2 h0
  exact ⟨b, off, rfl, (Array.getElem?_eq_some_iff.1 hh).1, fun i hi => by simp [World.cell?, hh, hcur i hi]⟩
theorem and1_by (x : Int) (h0 : 0 ≤ x) (h1 : x < 256) : bits .and .u8 x 1 = x % 2 := by
  have := and1_u8 ⟨x.toNat, by omega⟩
  simpa [Int.toNat_of_nonneg h0] using this
theorem by8_shift_bd (f : Nat → Bool) (k j : Nat) : 0 ≤ by8 f k / 2 ^ j ∧ by8 f k / 2 ^ j < 256 := by
  have h := by8_bd f k
  have hp : (0 : Int) < 2 ^ j := Int.pow_pos (by decide)
  refine ⟨Int.ediv_nonneg h.1 (Int.le_of_lt hp), ?_⟩
  have : by8 f k / 2 ^ j ≤ by8 f k := Int.ediv_le_self _ h.1
  omega
set_option maxRecDepth 100000 in
set_option maxHeartbeats 1000000 in
theorem isTaken_any (w : World) (S : Nat → Prop) (a : Option Addr) (c : Nat) (f : Nat → Bool) (h : By w S a (bitB f)) (i : Nat) (hi : i < 4096) :
    Calls Try.prog 45 #[.slice a 512 c, n64 i] w fun e w' => e = .returned (.bool (f i)) ∧ w' = w := by
  obtain ⟨gb, go, rfl, _, hcell⟩ := h.at_ (by rw [bitB_len]; decide)
  have hk : i / 8 < 512 := by omega
  have hc := hcell (i / 8) (by rw [bitB_len]; exact hk)
  rw [bitB_get f hk] at hc
  have hb := by8_shift_bd f (i / 8) (i % 8)
  have ha := and1_by _ hb.1 hb.2
  rw [bitB_at f i] at ha
  obtain ⟨x, hx⟩ : ∃ x, x = by8 f (i / 8) := ⟨_, rfl⟩
  rw [← hx] at hc ha
  clear hcell h hb hx
  cases hf : f i
  · rw [hf] at ha
    have ha' : bits .and .u8 (x / 2 ^ (i % 8)) 1 = 0 := ha
    clear ha
    go_enter Try.func45, Try.ntmps45
    go_wp2
    go_ret
    exact ⟨rfl, rfl⟩
  · rw [hf] at ha
    have ha' : bits .and .u8 (x / 2 ^ (i % 8)) 1 = 1 := ha
    clear ha
    go_enter Try.func45, Try.ntmps45
    go_wp2
    go_ret
    exact ⟨rfl, rfl⟩
set_option maxRecDepth 100000 in
set_option maxHeartbeats 1000000 in
theorem turned_any (w : World) (S : Nat → Prop) (a : Option Addr) (c : Nat) (f : Nat → Bool) (h : By w S a (bitB f)) (i : Nat) (hi : i < 4096) :
    Calls Try.prog 43 #[.slice a 512 c, n64 i] w fun e w' => ∃ a' c', e = .returned (.slice a' 512 c') ∧ w'.ownsRow w.heap.size 5 1 (.slice a' 512 c') 512 (u8s (bitB (flip1 f i))) ∧ Below w.heap.size w w' := by
  have HC := hid (Clone_any w S a 512 c (bitB f) (bitB_len f) (by decide) (by decide) h)
  have hk : i / 8 < 512 := by omega
  have HEP : Hid ((2 : Int) ^ (i % 8) % 256 = 2 ^ (i % 8)) := hid (by
    rcases fin8 (Nat.mod_lt i (show 0 < 8 by decide)) with e | e | e | e | e | e | e | e <;> rw [e] <;> decide)
  have HFL := hid (bitB_flip f i hi)
  clear h
  go_enter Try.func43, Try.ntmps43
  go_wp2_with fail
  refine HC.out.mono ?_
  rintro e w1 ⟨a1, c1, rfl, _, hy1, hb1, ho1⟩
  obtain ⟨g, cap, e1, hcc, _, hg0, _, hcell, hfr⟩ := owns_cells ho1 (by decide)
  simp only [Value.slice.injEq, true_and] at e1
  obtain ⟨rfl, rfl⟩ := e1
  have hc : w1.cell? ⟨g, i / 8, none⟩ = some (.int .u8 (by8 f (i / 8))) := hcell _ _ (by rw [u8s_get (by rw [bitB_len]; exact hk), bitB_get f hk])
  have hf := hfr (i / 8)
  have HO1 := hid ho1
  have HB1 := hid hb1
  have HG0 := hid hg0
  have hcap : (512 : Int) ≤ (c1 : Int) := by omega
  clear hy1 hb1 ho1 hcell hfr hg0
  go_wp2
  go_region
  all_goals
    go_wp2
    go_ret
    have h2 := owns_set HO1.out (g := g) rfl (i / 8) (.int .u8 (bits .xor .u8 (by8 f (i / 8)) (2 ^ (i % 8) % 256)))
    refine ⟨_, _, rfl, ?_, (HB1.out.setCell HG0.out _).drew⟩
    rw [HEP.out] at h2 ⊢
    have e : (u8s (bitB f)).set (i / 8) (.int .u8 (bits .xor .u8 (by8 f (i / 8)) (2 ^ (i % 8)))) = u8s (bitB (flip1 f i)) := by rw [← HFL.out]; simp
    rw [e] at h2
    exact h2
theorem or7' : ∀ a b : Fin 64, bits .or .i64 ((64 * a.val + b.val : Nat) : Int) 7 = (((64 * a.val + b.val) / 8 * 8 + 7 : Nat) : Int) := by decide +kernel
theorem or7 (k : Fin 4096) : bits .or .i64 (k.val : Int) 7 = ((k.val / 8 * 8 + 7 : Nat) : Int) := by
  have h := or7' ⟨k.val / 64, by have := k.isLt; omega⟩ ⟨k.val % 64, by omega⟩
  simp only [Nat.div_add_mod] at h
  exact h
set_option maxRecDepth 100000 in
set_option maxHeartbeats 1000000 in
theorem lowestFree_any (w : World) (S : Nat → Prop) (a : Option Addr) (c : Nat) (f : Nat → Bool) (h : By w S a (bitB f)) (lo hi : Nat) (hh : hi ≤ 4096) :
    Calls Try.prog 42 #[.slice a 512 c, n64 lo, n64 hi] w fun e w' => ((∃ x : Nat, lo ≤ x ∧ x < hi ∧ f x = false ∧ (∀ j, lo ≤ j → j < x → f j = true) ∧ e = .returned (.tuple #[n64 x, .nilIface])) ∨ ((∀ j, lo ≤ j → j < hi → f j = true) ∧ e = .returned (.tuple #[n64 0, .iface 49 (n64 7)]))) ∧ w' = w := by
  obtain ⟨gb, go, rfl, _, hcell⟩ := h.at_ (by rw [bitB_len]; decide)
  have HCL : Hid (∀ k, k < 4096 → w.cell? ⟨gb, go + k / 8, none⟩ = some (.int .u8 (by8 f (k / 8)))) := hid (fun k hk => by
    rw [hcell (k / 8) (by rw [bitB_len]; omega), bitB_get f (by omega)])
  have HIT := hid (fun (k : Nat) (hk : k < 4096) => isTaken_any w S (some ⟨gb, go, none⟩) c f h k hk)
  clear hcell h
  go_enter Try.func42, Try.ntmps42
  go_wp2
  go_loopw [8] (fun z wr => wr = w ∧ ∃ k : Nat, lo ≤ k ∧ k ≤ 4096 + lo ∧ z = n64 k ∧ ∀ j, lo ≤ j → j < k → j < hi → f j = true) (fun z _ => 4096 + lo - (RowKit.intOf z).toNat)
  case atStart => exact ⟨rfl, lo, Nat.le_refl _, by omega, rfl, fun j h1 h2 => by omega⟩
  case round =>
    obtain ⟨rfl, k, hk0, hk1, rfl, hall⟩ := hrel
    have HALL := hid hall
    clear hall
    by_cases hlt : k < hi
    · have hlt' : (k : Int) < hi := by omega
      have hc := HCL.out k (by omega)
      have ed : ((k : Int) / 8).toNat = k / 8 := by omega
      by_cases hfull : by8 f (k / 8) = 255
      · have ho : bits .or .i64 (k : Int) 7 = ((k / 8 * 8 + 7 : Nat) : Int) := or7 ⟨k, by omega⟩
        have HF := hid ((by8_full f (k / 8)).1 hfull)
        rw [hfull] at hc
        clear hfull
        have hw : IntKind.i64.wrap (((k / 8 * 8 + 7 : Nat) : Int) + 1) = ((k / 8 * 8 + 8 : Nat) : Int) := by rw [IntWalk.i64_in _ (by omega)]; omega
        go_wp2
        go_roundw
        case rel => exact ⟨trivial, k / 8 * 8 + 8, by omega, by omega, by first | rfl | go_num, fun j h1 h2 h3 => by
          by_cases h4 : j < k
          · exact HALL.out j h1 h4 h3
          · have := HF.out (j - 8 * (k / 8)) (by omega)
            rwa [show 8 * (k / 8) + (j - 8 * (k / 8)) = j by omega] at this⟩
        case measure => simp [RowKit.intOf]; omega
      · have HC := hid (HIT.out k (by omega))
        have hne : (by8 f (k / 8) == 255) = false := by simpa using hfull
        obtain ⟨x, hx⟩ : ∃ x, x = by8 f (k / 8) := ⟨_, rfl⟩
        rw [← hx] at hc hne hfull
        clear hx
        cases hfk : f k
        · rw [hfk] at HC
          go_wp2_with fail
          refine HC.out.mono ?_
          rintro e w2 ⟨rfl, rfl⟩
          go_wp2
          go_ret2
          exact ⟨.inl ⟨k, hk0, hlt, hfk, fun j h1 h2 => HALL.out j h1 h2 (by omega), rfl⟩, rfl⟩
        · rw [hfk] at HC
          have hw : IntKind.i64.wrap ((k : Int) + 1) = ((k + 1 : Nat) : Int) := by rw [IntWalk.i64_in _ (by omega)]; omega
          go_wp2_with fail
          refine HC.out.mono ?_
          rintro e w2 ⟨rfl, rfl⟩
          go_wp2
          go_roundw
          case rel => exact ⟨trivial, k + 1, by omega, by omega, by first | rfl | go_num, fun j h1 h2 h3 => by
            by_cases h4 : j < k
            · exact HALL.out j h1 h4 h3
            · obtain rfl : j = k := by omega
              exact hfk⟩
          case measure => simp [RowKit.intOf]; omega
    · have hlt' : ¬ (k : Int) < hi := by omega
      go_wp2
      go_ret2
      exact ⟨.inr ⟨fun j h1 h2 => HALL.out j h1 (by omega) h2, rfl⟩, rfl⟩
end Go.Proofs.Ytoplbmbeadpilaa
