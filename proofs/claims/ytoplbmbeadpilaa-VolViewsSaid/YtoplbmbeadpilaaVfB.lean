/- take, give. -/
import Derived.Test.YtoplbmbeadpilaaVfA
namespace Go.Proofs.Ytoplbmbeadpilaa
open Go.RowKit Go.Maps
set_option linter.unusedVariables false

variable {w w' : World} {pv n q N : Nat} {S S' T : Nat → Prop} {b i : Int} {P : Int → Option (List Int)} {bc : Nat → List Int} {lk : Nat → Bool}
def ct (P : Int → Option (List Int)) (bc : Nat → List Int) (k : Nat) : List Int := (P (k : Int)).getD (bc k)
theorem look_any (h : Vw w pv S b i (baseV q) n P) (hB : Bs w q T N bc lk) (k : Nat) (hk : k < N) (hN : N ≤ 100000) (hlk : lk k = false) :
    Calls Try.prog 25 #[.pointer (some ⟨pv, 0, none⟩), n64 k] w fun e w' => ∃ a c, e = .returned (.tuple #[.slice (some a) 512 c, .nilIface]) ∧ By w' (fun _ => True) (some a) (ct P bc k) ∧ 512 ≤ c ∧ Below w.heap.size w w' := by
  cases e : P (k : Int) with
  | none =>
    refine (look_base q h N T bc lk hB k hk hN hlk e).mono ?_
    rintro r w2 ⟨a, c, h1, h2, h3, h4⟩
    exact ⟨a, c, h1, by unfold ct; rw [e]; exact h2.weak (fun _ _ _ => trivial), h3, h4⟩
  | some l =>
    refine (look_put h k (isI_nat (by omega) (by omega)) l e).mono ?_
    rintro r w2 ⟨a, c, h1, h2, h3, rfl⟩
    exact ⟨a, c, h1, by unfold ct; rw [e]; exact h2.weak (fun _ _ _ => trivial), h3, Below.refl _ _⟩
theorem Vw.cap {base : Value} (h : Vw w pv S b i base n P) : Vw w pv (fun g => S g ∧ g < w.heap.size) b i base n P := by
  obtain ⟨m, MV, h1, s1, s2, h2, h3⟩ := h
  refine ⟨m, MV, h1, ⟨s1, (Array.getElem?_eq_some_iff.1 h1).1⟩, ⟨s2, h2.lt⟩, h2, fun k hk => ?_⟩
  rcases h3 k hk with h4 | ⟨l, a, c, h4, h5, h6, h7, h8⟩
  · exact .inl h4
  · exact .inr ⟨l, a, c, h4, h5, h6, h7.weak (fun g hg hl => ⟨hg, hl⟩), h8⟩
def rowF (F : Nat → Bool) (r : Nat) : Nat → Bool := fun k => F (r * 4096 + k)
set_option maxRecDepth 100000 in
set_option maxHeartbeats 2000000 in
theorem take_any (h : Vw w pv S b i (baseV q) n P) (hB : Bs w q T N bc lk) (hSb : ∀ g, S g → g < w.heap.size) (hn : n < 900000) (hN : N ≤ 100000) (f lo hi R : Nat) (hR : R = (hi + 4095) / 4096) (hfN : f + R ≤ N) (hlk : ∀ r, r < R → lk (f + r) = false) (hhi : hi < 100000) (hlo : lo < 100000)
    (F : Nat → Bool) (hF : ∀ r, r < R → ct P bc (f + r) = bitB (rowF F r)) :
    Calls Try.prog 28 #[.pointer (some ⟨pv, 0, none⟩), .agg #[n64 f, n64 lo, n64 hi]] w fun e w' =>
      (∃ x : Nat, lo ≤ x ∧ x < hi ∧ F x = false ∧ (∀ j, lo ≤ j → j < x → F j = true) ∧ e = .returned (.tuple #[n64 x, .nilIface]) ∧ ∃ S', Vw w' pv S' b i (baseV q) (n + 1) (upd P ((f + x / 4096 : Nat) : Int) (some (bitB (flip1 (rowF F (x / 4096)) (x % 4096))))) ∧ Kp S w S' w' ∧ ∀ g, S' g → g < w'.heap.size) ∨
      ((∀ j, lo ≤ j → j < hi → F j = true) ∧ e = .returned (.tuple #[n64 0, .iface 49 (n64 7)]) ∧ Below w.heap.size w w') := by
  obtain ⟨W0, hW0⟩ : ∃ W, W = w.alloc (.cells #[n64 f, n64 lo, n64 hi] 70) := ⟨_, rfl⟩
  have hb0 : Below w.heap.size w W0 := by rw [hW0]; exact (Below.refl _ _).alloc (Nat.le_refl _) _
  have hh0 : W0.heap[w.heap.size]? = some (.cells #[n64 f, n64 lo, n64 hi] 70 (0, 0)) := by rw [hW0]; exact alloc_new w _
  have hlt0 : w.heap.size < W0.heap.size := (Array.getElem?_eq_some_iff.1 hh0).1
  have HCC : Hid (∀ W, Below W0.heap.size W0 W → W.cell? ⟨w.heap.size, 0, none⟩ = some (n64 f) ∧ W.cell? ⟨w.heap.size, 1, none⟩ = some (n64 lo) ∧ W.cell? ⟨w.heap.size, 2, none⟩ = some (n64 hi)) := hid (fun W hb => by
    have hh := (hb.block _ hlt0).trans hh0
    exact ⟨cell_of hh rfl, cell_of hh rfl, cell_of hh rfl⟩)
  have HRF := rowsFor_any (hi : Int) (by omega) (by omega) W0
  rw [show ((hi : Int) + 4095) / 4096 = (R : Int) by omega] at HRF
  replace HRF := hid HRF
  have HV := hid (h.later hb0)
  have HBs := hid (hB.later hb0)
  have HB0 := hid hb0
  have HLK := hid hlk
  have HF := hid hF
  have HR := hid hR
  have HFN := hid hfN
  have HSB := hid hSb
  obtain ⟨_, _, x2⟩ := HCC.out W0 (Below.refl _ _)
  have HLT0 := hid hlt0
  clear h hB hb0 hh0 hlt0 hlk hF hR hfN hSb
  go_enter Try.func28, Try.ntmps28
  go_wp2_with (rw [← hW0]; clear hW0)
  refine HRF.out.mono ?_
  rintro e w1 ⟨rfl, rfl⟩
  clear HRF x2
  go_wp2
  go_loopw [15] (fun z wr => ∃ r : Nat, r ≤ R ∧ z = n64 r ∧ Below w1.heap.size w1 wr ∧ ∀ j, lo ≤ j → j < hi → j < r * 4096 → F j = true) (fun z _ => R - (RowKit.intOf z).toNat)
  case atStart => exact ⟨0, Nat.zero_le _, rfl, Below.refl _ _, fun j _ _ h3 => by omega⟩
  case round =>
    obtain ⟨r, hr, rfl, hb, hall⟩ := hrel
    rename World => V
    have HBV := hid hb
    have HALL := hid hall
    clear hb hall
    by_cases hlt : r < R
    · have hlt' : (r : Int) < R := by omega
      have hr4 : r * 4096 < hi := by have := HR.out; omega
      have hw1 : IntKind.i64.wrap ((f : Int) + (r : Int)) = ((f + r : Nat) : Int) := by rw [IntWalk.i64_in _ (by have := HFN.out; omega)]; omega
      have HL := hid (look_any (HV.out.later HBV.out.drew) (HBs.out.later HBV.out.drew) (f + r) (by have := HFN.out; omega) hN (HLK.out r hlt))
      have y0 : V.drew.cell? ⟨w.heap.size, 0, none⟩ = some (n64 f) := (HCC.out V.drew HBV.out.drew).1
      clear hr
      go_wp2_with fail
      go_region_held3 (fun w' => w'.cell? ⟨w.heap.size, 0, none⟩ = some (n64 f)) ((first | exact y0 | exact HS3.out))
        ((first | (go_at_call 25; refine HL.out.mono ?_; rintro e w3 ⟨a3, c3, rfl, hy3, hc3, hb3⟩; have HB3 := hid (HBV.out.drew.trans (hb3.mono HBV.out.size)); have HS3 := hid (HCC.out w3 HB3.out).1; have HY3 := hid hy3; clear hy3 hb3 HL)))
      clear HS3 y0
      have hy3 := HY3.out
      rw [HF.out r hlt] at hy3
      have HPt := part_any w3 (f : Int) (lo : Int) (hi : Int) r (by omega) (by omega) (by omega) (by omega) (by have := HFN.out; omega)
      obtain ⟨lo', hlo'⟩ : ∃ lo' : Nat, lo' = lo - r * 4096 := ⟨_, rfl⟩
      obtain ⟨hi', hhi'⟩ : ∃ hi' : Nat, hi' = min (hi - r * 4096) 4096 := ⟨_, rfl⟩
      rw [show max ((lo : Int) - (r : Int) * 4096) 0 = (lo' : Int) by omega, show min ((hi : Int) - (r : Int) * 4096) 4096 = (hi' : Int) by omega] at HPt
      replace HPt := hid HPt
      replace HY3 := hid hy3
      obtain ⟨z0, z1, z2⟩ := HCC.out w3 HB3.out
      have HLO := hid hlo'
      have HHI := hid hhi'
      clear hy3 hlo' hhi'
      go_wp2_with fail
      refine HPt.out.mono ?_
      rintro e w4 ⟨rfl, hb4⟩
      have HY4 := hid (HY3.out.later hb4)
      have HB4 : Hid (Below w1.heap.size w1 w4) := hid (HB3.out.trans (hb4.mono HB3.out.size))
      have HLF := hid (lowestFree_any w4 (fun _ => True) (some a3) c3 (rowF F r) HY4.out lo' hi' (by have := HHI.out; omega))
      clear hb4 HPt HY3 HB3 z0 z1 z2
      go_wp2_with fail
      refine HLF.out.mono ?_
      rintro e w5 ⟨hres, rfl⟩
      rcases hres with ⟨x, hx0, hx1, hx2, hx3, rfl⟩ | ⟨hfull, rfl⟩
      · have HIS := hid (is_nil 7 w5)
        have HX2 := hid hx2
        have HX3 := hid hx3
        have hxb : x < 4096 := by have := HHI.out; omega
        clear hx2 hx3 HLF
        go_wp2_with fail
        refine HIS.out.mono ?_
        rintro e w6 ⟨rfl, rfl⟩
        have HTU := hid (turned_any w6.drew (fun _ => True) (some a3) c3 (rowF F r) HY4.out x hxb)
        have y0 : w6.drew.cell? ⟨w.heap.size, 0, none⟩ = some (n64 f) := (HCC.out w6.drew HB4.out.drew).1
        have hw2 : IntKind.i64.wrap ((r : Int) * 4096) = (r : Int) * 4096 := IntWalk.i64_in _ (by omega)
        have hw3 : IntKind.i64.wrap ((r : Int) * 4096 + (x : Int)) = ((r * 4096 + x : Nat) : Int) := by rw [IntWalk.i64_in _ (by omega)]; omega
        have HCo := hid (fun (W : World) (hbW : Below w6.drew.heap.size w6.drew W) (a' : Option Addr) (c' : Nat) (ho : W.ownsRow w6.drew.heap.size 5 1 (.slice a' 512 c') 512 (u8s (bitB (flip1 (rowF F r) x)))) => show Calls Try.prog 21 #[.pointer (some ⟨pv, 0, none⟩), n64 ((f + r : Nat) : Int), .slice a' 512 c'] W (fun e w' => e = .returned (.tuple #[]) ∧ Vw w' pv (fun g => S g ∨ w6.drew.heap.size ≤ g) b i (baseV q) (n + 1) (upd P ((f + r : Nat) : Int) (some (bitB (flip1 (rowF F r) x)))) ∧ Mods S W w') by
          obtain ⟨a5, c5, e5, h5, _, hy5⟩ := By.of_owns (S := fun g => w6.drew.heap.size ≤ g) ho (bitB_isB _) (fun g hg => (owns_lt ho hg).2)
          simp only [Value.slice.injEq, true_and] at e5
          obtain ⟨rfl, rfl⟩ := e5
          have hVW : Vw W pv S b i (baseV q) n P := HV.out.later (HB4.out.drew.trans (hbW.mono HB4.out.size))
          exact lay_any hVW (by omega) ((f + r : Nat) : Int) (isI_nat (by omega) (by have := HFN.out; omega)) _ _ (bitB_len _) _ _ h5 hy5)
        go_wp2_with fail
        go_region_held3 (fun w' => w'.cell? ⟨w.heap.size, 0, none⟩ = some (n64 f)) ((first | exact y0 | exact HS7.out | exact HS8.out))
          ((first
            | (go_at_call 43; refine HTU.out.mono ?_; rintro e w7 ⟨a7, c7, rfl, ho7, hb7⟩; have HB7 := hid hb7; have HO7 := hid ho7; have HS7 := hid (HCC.out w7 (HB4.out.drew.trans (hb7.mono HB4.out.size))).1; clear ho7 hb7 HTU)
            | (go_at_call 21; refine (HCo.out w7 HB7.out a7 c7 HO7.out).mono ?_; rintro e w8 ⟨rfl, hv8, hm8⟩; have HV8 := hid hv8; have HM8 := hid hm8; have HS8 := hid (World.cell?_of_block (hm8.block w.heap.size (by have := HB7.out.size; have := HB4.out.size; have := HLT0.out; have e9 : w6.drew.heap.size = w6.heap.size := rfl; omega) (fun e => by have := HSB.out _ e; omega)) |>.trans HS7.out); clear hv8 hm8)))
        clear HS7 HS8 y0
        go_wp2
        go_ret2
        left
        have e1 : (r * 4096 + x) / 4096 = r := by omega
        have e2 : (r * 4096 + x) % 4096 = x := by omega
        have hrx : x < hi - r * 4096 := by have := HHI.out; omega
        refine ⟨r * 4096 + x, by have := HLO.out; omega, by omega, HX2.out, fun j h1 h2 => ?_, rfl, fun g => (S g ∨ w6.drew.heap.size ≤ g) ∧ g < w8.heap.size, ?_, ⟨fun g hg => ?_, ?_⟩, fun g hg => hg.2⟩
        · by_cases h3 : j < r * 4096
          · exact HALL.out j h1 (by omega) h3
          · have := HX3.out (j - r * 4096) (by have := HLO.out; omega) (by omega)
            unfold rowF at this
            rwa [show r * 4096 + (j - r * 4096) = j by omega] at this
        · rw [e1, e2]
          exact HV8.out.cap
        · have e9 : w6.drew.heap.size = w6.heap.size := rfl
          have := HB4.out.size
          have := HB0.out.size
          rcases hg.1 with h3 | h3
          · exact .inl h3
          · exact .inr (by omega)
        · have hbw : Below w.heap.size w w7 := HB0.out.trans ((HB4.out.drew.trans (HB7.out.mono HB4.out.size)).mono HB0.out.size)
          exact (Mods.of_below hbw).tr HM8.out
      · have HIS := hid (is_num 7 7 w5)
        have HFU := hid hfull
        clear hfull HLF
        go_wp2_with fail
        refine HIS.out.mono ?_
        rintro e w6 ⟨rfl, rfl⟩
        have hw2 : IntKind.i64.wrap ((r : Int) + 1) = ((r + 1 : Nat) : Int) := by rw [IntWalk.i64_in _ (by omega)]; omega
        have h77 : ((7 : Int) == 7) = true := rfl
        rw [h77]
        clear h77
        go_wp2
        go_roundw
        case rel => exact ⟨r + 1, by omega, by first | rfl | go_num, HB4.out, fun j h1 h2 h3 => by
          by_cases h4 : j < r * 4096
          · exact HALL.out j h1 h2 h4
          · have := HFU.out (j - r * 4096) (by have := HLO.out; omega) (by have := HHI.out; omega)
            unfold rowF at this
            rwa [show r * 4096 + (j - r * 4096) = j by omega] at this⟩
        case measure => simp [RowKit.intOf]; omega
    · have hlt' : ¬ (r : Int) < R := by omega
      go_wp2
      go_ret2
      right
      refine ⟨fun j h1 h2 => HALL.out j h1 h2 (by have := HR.out; omega), rfl, HB0.out.trans (HBV.out.mono HB0.out.size)⟩
end Go.Proofs.Ytoplbmbeadpilaa
