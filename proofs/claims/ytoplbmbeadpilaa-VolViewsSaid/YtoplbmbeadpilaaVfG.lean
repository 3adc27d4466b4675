/- give; the view's calls by it. -/
import Derived.Test.YtoplbmbeadpilaaVfB
namespace Go.Proofs.Ytoplbmbeadpilaa
open Go.RowKit Go.Maps
set_option linter.unusedVariables false

variable {w w' : World} {pv n q N : Nat} {S S' T : Nat → Prop} {b i : Int} {P : Int → Option (List Int)} {bc : Nat → List Int} {lk : Nat → Bool}
set_option maxRecDepth 100000 in
set_option maxHeartbeats 1000000 in
theorem give_arg (base : Value) (h : Vw w pv S b i base n P) (f lo hi x : Int) (hx : x < lo ∨ hi ≤ x) :
    Calls Try.prog 29 #[.pointer (some ⟨pv, 0, none⟩), .agg #[n64 f, n64 lo, n64 hi], n64 x] w fun e w' => e = .returned (.iface 49 (n64 1)) ∧ Below w.heap.size w w' := by
  clear h
  by_cases h1 : x < lo
  · clear hx
    go_enter Try.func29, Try.ntmps29
    go_wp2
    go_ret
    exact ⟨rfl, (Below.refl _ _).alloc (Nat.le_refl _) _⟩
  · have h2 : hi ≤ x := by omega
    clear hx
    go_enter Try.func29, Try.ntmps29
    go_wp2
    go_ret
    exact ⟨rfl, (Below.refl _ _).alloc (Nat.le_refl _) _⟩
set_option maxRecDepth 100000 in
set_option maxHeartbeats 1000000 in
theorem give_any (h : Vw w pv S b i (baseV q) n P) (hB : Bs w q T N bc lk) (hSb : ∀ g, S g → g < w.heap.size) (hn : n < 900000) (hN : N ≤ 100000) (f lo hi x : Nat) (hx0 : lo ≤ x) (hx1 : x < hi) (hfN : f + x / 4096 < N) (hlk : lk (f + x / 4096) = false) (hhi : hi < 100000)
    (F : Nat → Bool) (hF : ct P bc (f + x / 4096) = bitB (rowF F (x / 4096))) :
    Calls Try.prog 29 #[.pointer (some ⟨pv, 0, none⟩), .agg #[n64 f, n64 lo, n64 hi], n64 x] w fun e w' =>
      (F x = true ∧ e = .returned .nilIface ∧ ∃ S', Vw w' pv S' b i (baseV q) (n + 1) (upd P ((f + x / 4096 : Nat) : Int) (some (bitB (flip1 (rowF F (x / 4096)) (x % 4096))))) ∧ Kp S w S' w' ∧ ∀ g, S' g → g < w'.heap.size) ∨
      (F x = false ∧ e = .returned (.iface 49 (n64 2)) ∧ Below w.heap.size w w') := by
  obtain ⟨W0, hW0⟩ : ∃ W, W = w.alloc (.cells #[n64 f, n64 lo, n64 hi] 70) := ⟨_, rfl⟩
  have hb0 : Below w.heap.size w W0 := by rw [hW0]; exact (Below.refl _ _).alloc (Nat.le_refl _) _
  have hh0 : W0.heap[w.heap.size]? = some (.cells #[n64 f, n64 lo, n64 hi] 70 (0, 0)) := by rw [hW0]; exact alloc_new w _
  have c0 : W0.cell? ⟨w.heap.size, 0, none⟩ = some (n64 f) := cell_of hh0 rfl
  have c1 : W0.cell? ⟨w.heap.size, 1, none⟩ = some (n64 lo) := cell_of hh0 rfl
  have c2 : W0.cell? ⟨w.heap.size, 2, none⟩ = some (n64 hi) := cell_of hh0 rfl
  have hx0' : ¬ (x : Int) < lo := by omega
  have hx1' : ¬ (hi : Int) ≤ x := by omega
  have HPl := place_any W0 (f : Int) (lo : Int) (hi : Int) x (by omega) (by omega) (by omega)
  obtain ⟨y, hy⟩ : ∃ y : Nat, y = f + x / 4096 := ⟨_, rfl⟩
  obtain ⟨z, hz⟩ : ∃ z : Nat, z = x % 4096 := ⟨_, rfl⟩
  rw [show (f : Int) + ((x / 4096 : Nat) : Int) = (y : Int) by omega, ← hz] at HPl
  replace HPl := hid HPl
  have HL := hid (fun (W : World) (hb : Below W0.heap.size W0 W) => look_any ((h.later hb0).later hb) ((hB.later hb0).later hb) y (by rw [hy]; exact hfN) hN (by rw [hy]; exact hlk))
  have hFx : F x = rowF F (x / 4096) z := by unfold rowF; rw [hz]; congr 1; omega
  rw [← hy] at hF ⊢
  rw [← hz, hFx]
  obtain ⟨G, hG⟩ : ∃ G, G = rowF F (x / 4096) := ⟨_, rfl⟩
  rw [← hG] at hF ⊢
  have hz4 : z < 4096 := by omega
  have HV := hid (h.later hb0)
  have HB0 := hid hb0
  have HSB := hid hSb
  have HF := hid hF
  have HY1000 : Hid (y < 1000000) := hid (by omega)
  clear h hB hb0 hh0 hSb hF hFx hG hy hz hlk hfN
  go_enter Try.func29, Try.ntmps29
  go_wp2_with (rw [← hW0]; clear hW0)
  refine HPl.out.mono ?_
  rintro e w1 ⟨rfl, hb1⟩
  have HB1 := hid hb1
  have HL1 := hid (HL.out w1 hb1)
  clear hb1 HPl HL c0 c1 c2
  go_wp2_with fail
  refine HL1.out.mono ?_
  rintro e w2 ⟨a2, c2, rfl, hy2, hc2, hb2⟩
  rw [HF.out] at hy2
  have HB2 : Hid (Below W0.heap.size W0 w2) := hid (HB1.out.trans (hb2.mono HB1.out.size))
  have HY2 := hid hy2
  have HIT := isTaken_any w2 _ (some a2) c2 G hy2 z hz4
  clear hy2 hb2 HL1 HB1
  cases hGz : G z
  · rw [hGz] at HIT
    replace HIT := hid HIT
    go_wp2_with fail
    refine HIT.out.mono ?_
    rintro e w3 ⟨rfl, rfl⟩
    go_wp2
    go_ret
    exact .inr ⟨hGz, rfl, HB0.out.trans (HB2.out.mono HB0.out.size)⟩
  · rw [hGz] at HIT
    replace HIT := hid HIT
    go_wp2_with fail
    refine HIT.out.mono ?_
    rintro e w6 ⟨rfl, rfl⟩
    have HTU := hid (turned_any w6.drew (fun _ => True) (some a2) c2 G HY2.out z hz4)
    have HCo := hid (fun (W : World) (hbW : Below w6.drew.heap.size w6.drew W) (a' : Option Addr) (c' : Nat) (ho : W.ownsRow w6.drew.heap.size 5 1 (.slice a' 512 c') 512 (u8s (bitB (flip1 G z)))) => show Calls Try.prog 21 #[.pointer (some ⟨pv, 0, none⟩), n64 (y : Int), .slice a' 512 c'] W (fun e w' => e = .returned (.tuple #[]) ∧ Vw w' pv (fun g => S g ∨ w6.drew.heap.size ≤ g) b i (baseV q) (n + 1) (upd P (y : Int) (some (bitB (flip1 G z)))) ∧ Mods S W w') by
      obtain ⟨a5, c5, e5, h5, _, hy5⟩ := By.of_owns (S := fun g => w6.drew.heap.size ≤ g) ho (bitB_isB _) (fun g hg => (owns_lt ho hg).2)
      simp only [Value.slice.injEq, true_and] at e5
      obtain ⟨rfl, rfl⟩ := e5
      have hVW : Vw W pv S b i (baseV q) n P := HV.out.later (HB2.out.drew.trans (hbW.mono HB2.out.size))
      exact lay_any hVW (by omega) (y : Int) (isI_nat (by omega) (by have := HY1000.out; omega)) _ _ (bitB_len _) _ _ h5 hy5)
    clear HIT
    go_wp2_with fail
    go_region_held3 (fun _ => True) (trivial)
      ((first
        | (go_at_call 43; refine HTU.out.mono ?_; rintro e w7 ⟨a7, c7, rfl, ho7, hb7⟩; have HB7 := hid hb7; have HO7 := hid ho7; clear ho7 hb7 HTU)
        | (go_at_call 21; refine (HCo.out w7 HB7.out a7 c7 HO7.out).mono ?_; rintro e w8 ⟨rfl, hv8, hm8⟩; have HV8 := hid hv8; have HM8 := hid hm8; clear hv8 hm8)))
    go_wp2
    go_ret
    left
    refine ⟨hGz, rfl, fun g => (S g ∨ w6.drew.heap.size ≤ g) ∧ g < w8.heap.size, HV8.out.cap, ⟨fun g hg => ?_, ?_⟩, fun g hg => hg.2⟩
    · have e9 : w6.drew.heap.size = w6.heap.size := rfl
      have := HB2.out.size
      have := HB0.out.size
      rcases hg.1 with h3 | h3
      · exact .inl h3
      · exact .inr (by omega)
    · have hbw : Below w.heap.size w w7 := HB0.out.trans ((HB2.out.drew.trans (HB7.out.mono HB2.out.size)).mono HB0.out.size)
      exact (Mods.of_below hbw).tr HM8.out
theorem vcells {base : Value} (h : Vw w pv S b i base n P) : w.cell? ⟨pv, 10, none⟩ = some (n64 69) ∧ w.cell? ⟨pv, 11, none⟩ = some (n64 (planD b i)) ∧ w.cell? ⟨pv, 12, none⟩ = some (n64 b) ∧ w.cell? ⟨pv, 13, none⟩ = some (n64 68) ∧ w.cell? ⟨pv, 14, none⟩ = some (n64 2) ∧ w.cell? ⟨pv, 15, none⟩ = some (n64 i) := by
  obtain ⟨m, MV, h1, _⟩ := h
  exact ⟨cell_of h1 rfl, cell_of h1 rfl, cell_of h1 rfl, cell_of h1 rfl, cell_of h1 rfl, cell_of h1 rfl⟩
set_option maxHeartbeats 1000000 in
theorem TakeBlock_via {base : Value} (h : Vw w pv S b i base n P) (R : Ending → World → Prop) (hc : Calls Try.prog 28 #[.pointer (some ⟨pv, 0, none⟩), .agg #[n64 69, n64 (planD b i), n64 b]] w R) (hR : ∀ e w', R e w' → ∃ x : Int, e = .returned (.tuple #[n64 x, .nilIface]) ∨ ∃ t v, e = .returned (.tuple #[n64 x, .iface t v])) :
    Calls Try.prog 15 #[.pointer (some ⟨pv, 0, none⟩)] w R := by
  obtain ⟨c0, c1, c2, _, _, _⟩ := vcells h
  have HC := hid hc
  have HR := hid hR
  clear h hc hR
  go_enter Try.func15, Try.ntmps15
  go_wp2_with fail
  refine HC.out.mono ?_
  intro e w2 hr
  have HRR := hid hr
  obtain ⟨x, rfl | ⟨t, v, rfl⟩⟩ := HR.out e w2 hr
  all_goals
    clear hr
    go_wp2
    exact HRR.out
set_option maxHeartbeats 1000000 in
theorem GiveBlock_via {base : Value} (h : Vw w pv S b i base n P) (k : Int) (R : Ending → World → Prop) (hc : Calls Try.prog 29 #[.pointer (some ⟨pv, 0, none⟩), .agg #[n64 69, n64 (planD b i), n64 b], n64 k] w R) (hR : ∀ e w', R e w' → e = .returned .nilIface ∨ ∃ t v, e = .returned (.iface t v)) :
    Calls Try.prog 16 #[.pointer (some ⟨pv, 0, none⟩), n64 k] w R := by
  obtain ⟨c0, c1, c2, _, _, _⟩ := vcells h
  have HC := hid hc
  have HR := hid hR
  clear h hc hR
  go_enter Try.func16, Try.ntmps16
  go_wp2_with fail
  refine HC.out.mono ?_
  intro e w2 hr
  have HRR := hid hr
  obtain rfl | ⟨t, v, rfl⟩ := HR.out e w2 hr
  all_goals
    clear hr
    go_wp2
    exact HRR.out
end Go.Proofs.Ytoplbmbeadpilaa
