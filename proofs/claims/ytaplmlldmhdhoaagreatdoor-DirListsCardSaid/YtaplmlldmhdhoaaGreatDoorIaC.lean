/- IaB, IaC in one text. -/
import Derived.Test.YtaplmlldmhdhoaaGreatDoorVfI
import Derived.Test.YtaplmlldmhdhoaaGreatDoorVkS
import Derived.Test.YtaplmlldmhdhoaaGreatDoorVkR
import Derived.Test.YtaplmlldmhdhoaaGreatDoorVgA
/- A view over any base that tells its blocks. -/
namespace Go.Proofs.YtaplmlldmhdhoaaGreatDoor
open Go.RowKit Go.Maps
set_option linter.unusedVariables false

variable {w w' : World} {pv n q N : Nat} {S S' T : Nat → Prop} {b i : Int} {base : Value} {P : Int → Option (List Int)} {bc : Nat → List Int} {lk : Nat → Bool}
/-- A base that tells its blocks. -/
def Tl (w : World) (base : Value) (T : Nat → Prop) (N : Nat) (bc : Nat → List Int) : Prop :=
  ∃ t x f, base = .iface t x ∧ (∀ W : World, (method 377 t x "Block").run Tryz.prog W = .ok (f, x) W) ∧ (∀ (args : Array Value) (W : World), (callFunc f args).run Tryz.prog W = .ok (.enter f args) W) ∧ (∀ g, T g → g < w.heap.size) ∧ (∀ k, k < N → (bc k).length = 512 ∧ ∀ y ∈ bc k, IsB y) ∧
    ∀ W : World, w.heap.size ≤ W.heap.size → (∀ g, T g → W.heap[g]? = w.heap[g]?) → ∀ k : Nat, k < N → Calls Tryz.prog f #[x, n64 k] W fun e w' => ∃ a c, e = .returned (.tuple #[.slice (some a) 512 c, .nilIface]) ∧ By w' (New W) (some a) (bc k) ∧ 512 ≤ c ∧ Below W.heap.size W w'
theorem Tl.keep (h : Tl w base T N bc) (hs : w.heap.size ≤ w'.heap.size) (hk : ∀ g, T g → g < w.heap.size → w'.heap[g]? = w.heap[g]?) : Tl w' base T N bc := by
  obtain ⟨t, x, f, h1, h2, h3, h4, h5, h6⟩ := h
  exact ⟨t, x, f, h1, h2, h3, fun g hg => Nat.lt_of_lt_of_le (h4 g hg) hs, h5, fun W hW hWk k hkN => h6 W (Nat.le_trans hs hW) (fun g hg => (hWk g hg).trans (hk g hg (h4 g hg))) k hkN⟩
theorem Tl.later (h : Tl w base T N bc) (hb : Below w.heap.size w w') : Tl w' base T N bc := h.keep hb.size fun g _ hl => hb.block g hl
theorem Tl.len (h : Tl w base T N bc) {k : Nat} (hk : k < N) : (bc k).length = 512 := let ⟨_, _, _, _, _, _, _, h5, _⟩ := h; (h5 k hk).1
theorem Tl.lt (h : Tl w base T N bc) {g : Nat} (hg : T g) : g < w.heap.size := let ⟨_, _, _, _, _, _, h4, _⟩ := h; h4 g hg
theorem Tl.isB (h : Tl w base T N bc) {k : Nat} (hk : k < N) : ∀ y ∈ bc k, IsB y := let ⟨_, _, _, _, _, _, _, h5, _⟩ := h; (h5 k hk).2
theorem Bs.isB {w : World} {q N : Nat} {T : Nat → Prop} {bc : Nat → List Int} {lk : Nat → Bool} (h : Bs w q T N bc lk) {k : Nat} (hk : k < N) : ∀ x ∈ bc k, IsB x := by
  obtain ⟨gB, gL, cB, cL, h1, h2, h3, t1, t2, t3, h4, h5⟩ := h
  rcases h5 k hk with ⟨_, h6⟩ | ⟨a, c, _, _, _, h9⟩
  · rw [h6]; exact zeros_isB
  · exact h9.isB
theorem Tl.ofBs (hB : Bs w q T N bc (fun _ => false)) (hN : N ≤ 100000) (hT : ∀ g, T g → g < w.heap.size) : Tl w (baseV q) T N bc :=
  ⟨_, _, _, rfl, methB q, callB, hT, fun k hk => ⟨hB.len hk, hB.isB hk⟩, fun W hW hk k hkN => Block_any W q N T bc _ (hB.keep (fun g hg _ => hk g hg)) k hkN hN rfl⟩
set_option maxRecDepth 100000 in
set_option maxHeartbeats 1000000 in
theorem look_tell (h : Vw w pv S b i base n P) (hB : Tl w base T N bc) (k : Nat) (hk : k < N) (hN : N ≤ 100000) (hl : P k = none) :
    Calls Tryz.prog 57 #[.pointer (some ⟨pv, 0, none⟩), n64 k] w fun e w' => ∃ a c, e = .returned (.tuple #[.slice (some a) 512 c, .nilIface]) ∧ By w' (New w) (some a) (bc k) ∧ 512 ≤ c ∧ Below w.heap.size w w' := by
  obtain ⟨m, MV, h1, s1, s2, h2, h3⟩ := h
  obtain ⟨t, x, f, rfl, hmb, hcb, _, _, hB⟩ := hB
  have hkI : IsI (k : Int) := isI_nat (by omega) (by omega)
  have p0 : w.cell? ⟨pv, 0, none⟩ = some (.iface t x) := cell_of h1 rfl
  have p1 : w.cell? ⟨pv, 1, none⟩ = some (.map (some m)) := cell_of h1 rfl
  have hlo := h2.look_ok (t := 123) (e := 59) Tryz.underlying123 (zeroBs w) hkI
  have HC := hid (hB w (Nat.le_refl _) (fun _ _ => rfl) k hk)
  rcases h3 k hkI with ⟨_, e⟩ | ⟨l', a, c, e1, _⟩
  · rw [e] at hlo
    simp only [Option.getD_none, Option.isSome_none] at hlo
    clear h1 h2 h3 hB
    go_enter Tryz.func57, Tryz.ntmps57
    go_wp2_with fail
    refine HC.out.mono ?_
    rintro e w2 ⟨a2, c2, rfl, hy2, hc2, hb2⟩
    have HY := hid hy2
    have HB := hid hb2
    clear hy2 hb2
    go_wp2
    go_ret2
    exact ⟨_, _, rfl, HY.out, hc2, HB.out⟩
  · rw [hl] at e1; cases e1
theorem look_gen (h : Vw w pv S b i base n P) (hB : Tl w base T N bc) (k : Nat) (hk : k < N) (hN : N ≤ 100000) :
    Calls Tryz.prog 57 #[.pointer (some ⟨pv, 0, none⟩), n64 k] w fun e w' => ∃ a c, e = .returned (.tuple #[.slice (some a) 512 c, .nilIface]) ∧ By w' (fun _ => True) (some a) (ct P bc k) ∧ 512 ≤ c ∧ Below w.heap.size w w' := by
  cases e : P (k : Int) with
  | none =>
    refine (look_tell h hB k hk hN e).mono ?_
    rintro r w2 ⟨a, c, h1, h2, h3, h4⟩
    exact ⟨a, c, h1, by unfold ct; rw [e]; exact h2.weak (fun _ _ _ => trivial), h3, h4⟩
  | some l =>
    refine (look_put h k (isI_nat (by omega) (by omega)) l e).mono ?_
    rintro r w2 ⟨a, c, h1, h2, h3, rfl⟩
    exact ⟨a, c, h1, by unfold ct; rw [e]; exact h2.weak (fun _ _ _ => trivial), h3, Below.refl _ _⟩
set_option maxRecDepth 100000 in
set_option maxHeartbeats 2000000 in
theorem take_gen (h : Vw w pv S b i base n P) (hB : Tl w base T N bc) (hSb : ∀ g, S g → g < w.heap.size) (hn : n < 900000) (hN : N ≤ 100000) (f lo hi R : Nat) (hR : R = (hi + 4095) / 4096) (hfN : f + R ≤ N) (hhi : hi < 100000) (hlo : lo < 100000)
    (F : Nat → Bool) (hF : ∀ r, r < R → ct P bc (f + r) = bitB (rowF F r)) :
    Calls Tryz.prog 105 #[.pointer (some ⟨pv, 0, none⟩), .agg #[n64 f, n64 lo, n64 hi]] w fun e w' =>
      (∃ x : Nat, lo ≤ x ∧ x < hi ∧ F x = false ∧ (∀ j, lo ≤ j → j < x → F j = true) ∧ e = .returned (.tuple #[n64 x, .nilIface]) ∧ ∃ S', Vw w' pv S' b i base (n + 1) (upd P ((f + x / 4096 : Nat) : Int) (some (bitB (flip1 (rowF F (x / 4096)) (x % 4096))))) ∧ Kp S w S' w' ∧ ∀ g, S' g → g < w'.heap.size) ∨
      ((∀ j, lo ≤ j → j < hi → F j = true) ∧ e = .returned (.tuple #[n64 0, .iface 57 (n64 7)]) ∧ Below w.heap.size w w') := by
  obtain ⟨W0, hW0⟩ : ∃ W, W = w.alloc (.cells #[n64 f, n64 lo, n64 hi] 127) := ⟨_, rfl⟩
  have hb0 : Below w.heap.size w W0 := by rw [hW0]; exact (Below.refl _ _).alloc (Nat.le_refl _) _
  have hh0 : W0.heap[w.heap.size]? = some (.cells #[n64 f, n64 lo, n64 hi] 127 (0, 0)) := by rw [hW0]; exact alloc_new w _
  have hlt0 : w.heap.size < W0.heap.size := (Array.getElem?_eq_some_iff.1 hh0).1
  have HCC : Hid (∀ W, Below W0.heap.size W0 W → W.cell? ⟨w.heap.size, 0, none⟩ = some (n64 f) ∧ W.cell? ⟨w.heap.size, 1, none⟩ = some (n64 lo) ∧ W.cell? ⟨w.heap.size, 2, none⟩ = some (n64 hi)) := hid (fun W hb => by
    have hh := (hb.block _ hlt0).trans hh0
    exact ⟨cell_of hh rfl, cell_of hh rfl, cell_of hh rfl⟩)
  have HRF := rowsFor_any (hi : Int) (by omega) (by omega) W0
  rw [show ((hi : Int) + 4095) / 4096 = (R : Int) by omega] at HRF
  replace HRF := hid HRF
  have HV := hid (h.later hb0)
  have HBs := hid (hB.later hb0)
  have HB0 := hid hb0
  have HF := hid hF
  have HR := hid hR
  have HFN := hid hfN
  have HSB := hid hSb
  obtain ⟨_, _, x2⟩ := HCC.out W0 (Below.refl _ _)
  have HLT0 := hid hlt0
  clear h hB hb0 hh0 hlt0 hF hR hfN hSb
  go_enter Tryz.func105, Tryz.ntmps105
  go_wp2_with (rw [← hW0]; clear hW0)
  refine HRF.out.mono ?_
  rintro e w1 ⟨rfl, rfl⟩
  clear HRF x2
  go_wp2
  go_loopw [15] (fun z wr => ∃ r : Nat, r ≤ R ∧ z = n64 r ∧ Below w1.heap.size w1 wr ∧ ∀ j, lo ≤ j → j < hi → j < r * 4096 → F j = true) (fun z _ => R - (RowKit.intOf z).toNat)
  case atStart => exact ⟨0, Nat.zero_le _, rfl, Below.refl _ _, fun j _ _ h3 => by omega⟩
  case round =>
    obtain ⟨r, hr, rfl, hb, hall⟩ := hrel
    rename World => V
    have HBV := hid hb
    have HALL := hid hall
    clear hb hall
    by_cases hlt : r < R
    · have hlt' : (r : Int) < R := by omega
      have hr4 : r * 4096 < hi := by have := HR.out; omega
      have hw1 : IntKind.i64.wrap ((f : Int) + (r : Int)) = ((f + r : Nat) : Int) := by rw [IntWalk.i64_in _ (by have := HFN.out; omega)]; omega
      have HL := hid (look_gen (HV.out.later HBV.out.drew) (HBs.out.later HBV.out.drew) (f + r) (by have := HFN.out; omega) hN)
      have y0 : V.drew.cell? ⟨w.heap.size, 0, none⟩ = some (n64 f) := (HCC.out V.drew HBV.out.drew).1
      clear hr
      go_wp2_with fail
      go_region_held3 (fun w' => w'.cell? ⟨w.heap.size, 0, none⟩ = some (n64 f)) ((first | exact y0 | exact HS3.out))
        ((first | (go_at_call 57; refine HL.out.mono ?_; rintro e w3 ⟨a3, c3, rfl, hy3, hc3, hb3⟩; have HB3 := hid (HBV.out.drew.trans (hb3.mono HBV.out.size)); have HS3 := hid (HCC.out w3 HB3.out).1; have HY3 := hid hy3; clear hy3 hb3 HL)))
      clear HS3 y0
      have hy3 := HY3.out
      rw [HF.out r hlt] at hy3
      have HPt := part_any w3 (f : Int) (lo : Int) (hi : Int) r (by omega) (by omega) (by omega) (by omega) (by have := HFN.out; omega)
      obtain ⟨lo', hlo'⟩ : ∃ lo' : Nat, lo' = lo - r * 4096 := ⟨_, rfl⟩
      obtain ⟨hi', hhi'⟩ : ∃ hi' : Nat, hi' = min (hi - r * 4096) 4096 := ⟨_, rfl⟩
      rw [show max ((lo : Int) - (r : Int) * 4096) 0 = (lo' : Int) by omega, show min ((hi : Int) - (r : Int) * 4096) 4096 = (hi' : Int) by omega] at HPt
      replace HPt := hid HPt
      replace HY3 := hid hy3
      obtain ⟨z0, z1, z2⟩ := HCC.out w3 HB3.out
      have HLO := hid hlo'
      have HHI := hid hhi'
      clear hy3 hlo' hhi'
      go_wp2_with fail
      refine HPt.out.mono ?_
      rintro e w4 ⟨rfl, hb4⟩
      have HY4 := hid (HY3.out.later hb4)
      have HB4 : Hid (Below w1.heap.size w1 w4) := hid (HB3.out.trans (hb4.mono HB3.out.size))
      have HLF := hid (lowestFree_any w4 (fun _ => True) (some a3) c3 (rowF F r) HY4.out lo' hi' (by have := HHI.out; omega))
      clear hb4 HPt HY3 HB3 z0 z1 z2
      go_wp2_with fail
      refine HLF.out.mono ?_
      rintro e w5 ⟨hres, rfl⟩
      rcases hres with ⟨x, hx0, hx1, hx2, hx3, rfl⟩ | ⟨hfull, rfl⟩
      · have HIS := hid (is_nil 7 w5)
        have HX2 := hid hx2
        have HX3 := hid hx3
        have hxb : x < 4096 := by have := HHI.out; omega
        clear hx2 hx3 HLF
        go_wp2_with fail
        refine HIS.out.mono ?_
        rintro e w6 ⟨rfl, rfl⟩
        have HTU := hid (turned_any w6.drew (fun _ => True) (some a3) c3 (rowF F r) HY4.out x hxb)
        have y0 : w6.drew.cell? ⟨w.heap.size, 0, none⟩ = some (n64 f) := (HCC.out w6.drew HB4.out.drew).1
        have hw2 : IntKind.i64.wrap ((r : Int) * 4096) = (r : Int) * 4096 := IntWalk.i64_in _ (by omega)
        have hw3 : IntKind.i64.wrap ((r : Int) * 4096 + (x : Int)) = ((r * 4096 + x : Nat) : Int) := by rw [IntWalk.i64_in _ (by omega)]; omega
        have HCo := hid (fun (W : World) (hbW : Below w6.drew.heap.size w6.drew W) (a' : Option Addr) (c' : Nat) (ho : W.ownsRow w6.drew.heap.size 5 1 (.slice a' 512 c') 512 (u8s (bitB (flip1 (rowF F r) x)))) => show Calls Tryz.prog 99 #[.pointer (some ⟨pv, 0, none⟩), n64 ((f + r : Nat) : Int), .slice a' 512 c'] W (fun e w' => e = .returned (.tuple #[]) ∧ Vw w' pv (fun g => S g ∨ w6.drew.heap.size ≤ g) b i base (n + 1) (upd P ((f + r : Nat) : Int) (some (bitB (flip1 (rowF F r) x)))) ∧ Mods S W w') by
          obtain ⟨a5, c5, e5, h5, _, hy5⟩ := By.of_owns (S := fun g => w6.drew.heap.size ≤ g) ho (bitB_isB _) (fun g hg => (owns_lt ho hg).2)
          simp only [Value.slice.injEq, true_and] at e5
          obtain ⟨rfl, rfl⟩ := e5
          have hVW : Vw W pv S b i base n P := HV.out.later (HB4.out.drew.trans (hbW.mono HB4.out.size))
          exact lay_any hVW (by omega) ((f + r : Nat) : Int) (isI_nat (by omega) (by have := HFN.out; omega)) _ _ (bitB_len _) _ _ h5 hy5)
        go_wp2_with fail
        go_region_held3 (fun w' => w'.cell? ⟨w.heap.size, 0, none⟩ = some (n64 f)) ((first | exact y0 | exact HS7.out | exact HS8.out))
          ((first
            | (go_at_call 113; refine HTU.out.mono ?_; rintro e w7 ⟨a7, c7, rfl, ho7, hb7⟩; have HB7 := hid hb7; have HO7 := hid ho7; have HS7 := hid (HCC.out w7 (HB4.out.drew.trans (hb7.mono HB4.out.size))).1; clear ho7 hb7 HTU)
            | (go_at_call 99; refine (HCo.out w7 HB7.out a7 c7 HO7.out).mono ?_; rintro e w8 ⟨rfl, hv8, hm8⟩; have HV8 := hid hv8; have HM8 := hid hm8; have HS8 := hid (World.cell?_of_block (hm8.block w.heap.size (by have := HB7.out.size; have := HB4.out.size; have := HLT0.out; have e9 : w6.drew.heap.size = w6.heap.size := rfl; omega) (fun e => by have := HSB.out _ e; omega)) |>.trans HS7.out); clear hv8 hm8)))
        clear HS7 HS8 y0
        go_wp2
        go_ret2
        left
        have e1 : (r * 4096 + x) / 4096 = r := by omega
        have e2 : (r * 4096 + x) % 4096 = x := by omega
        have hrx : x < hi - r * 4096 := by have := HHI.out; omega
        refine ⟨r * 4096 + x, by have := HLO.out; omega, by omega, HX2.out, fun j h1 h2 => ?_, rfl, fun g => (S g ∨ w6.drew.heap.size ≤ g) ∧ g < w8.heap.size, ?_, ⟨fun g hg => ?_, ?_⟩, fun g hg => hg.2⟩
        · by_cases h3 : j < r * 4096
          · exact HALL.out j h1 (by omega) h3
          · have := HX3.out (j - r * 4096) (by have := HLO.out; omega) (by omega)
            unfold rowF at this
            rwa [show r * 4096 + (j - r * 4096) = j by omega] at this
        · rw [e1, e2]
          exact HV8.out.cap
        · have e9 : w6.drew.heap.size = w6.heap.size := rfl
          have := HB4.out.size
          have := HB0.out.size
          rcases hg.1 with h3 | h3
          · exact .inl h3
          · exact .inr (by omega)
        · have hbw : Below w.heap.size w w7 := HB0.out.trans ((HB4.out.drew.trans (HB7.out.mono HB4.out.size)).mono HB0.out.size)
          exact (Mods.of_below hbw).tr HM8.out
      · have HIS := hid (is_num 7 7 w5)
        have HFU := hid hfull
        clear hfull HLF
        go_wp2_with fail
        refine HIS.out.mono ?_
        rintro e w6 ⟨rfl, rfl⟩
        have hw2 : IntKind.i64.wrap ((r : Int) + 1) = ((r + 1 : Nat) : Int) := by rw [IntWalk.i64_in _ (by omega)]; omega
        have h77 : ((7 : Int) == 7) = true := rfl
        rw [h77]
        clear h77
        go_wp2
        go_roundw
        case rel => exact ⟨r + 1, by omega, by first | rfl | go_num, HB4.out, fun j h1 h2 h3 => by
          by_cases h4 : j < r * 4096
          · exact HALL.out j h1 h2 h4
          · have := HFU.out (j - r * 4096) (by have := HLO.out; omega) (by have := HHI.out; omega)
            unfold rowF at this
            rwa [show r * 4096 + (j - r * 4096) = j by omega] at this⟩
        case measure => simp [RowKit.intOf]; omega
    · have hlt' : ¬ (r : Int) < R := by omega
      go_wp2
      go_ret2
      right
      refine ⟨fun j h1 h2 => HALL.out j h1 h2 (by have := HR.out; omega), rfl, HB0.out.trans (HBV.out.mono HB0.out.size)⟩
set_option maxRecDepth 100000 in
set_option maxHeartbeats 1000000 in
theorem Get_gen (h : Vw w pv S b i base n P) (hB : Tl w base T N bc) (k : Nat) (hk : k < N) (hkb : (k : Int) < b) (hN : N ≤ 100000) (hlen : (ct P bc k).length = 512) :
    Calls Tryz.prog 33 #[.pointer (some ⟨pv, 0, none⟩), n64 k] w fun e w' => ∃ a' c', e = .returned (.tuple #[.slice a' 512 c', .nilIface]) ∧ w'.ownsRow w.heap.size 5 1 (.slice a' 512 c') 512 (u8s (ct P bc k)) ∧ Below w.heap.size w w' := by
  obtain ⟨c2, c3, c4, c5, c6, c7, c8, c9⟩ := superCells h
  have HH := has_any w b i 1 2 68 69 (planT b) (planD b i) k
  have e : (decide (0 ≤ (k : Int)) && decide ((k : Int) < b)) = true := by simp [hkb]
  rw [e] at HH
  replace HH := hid HH
  have HL := hid (fun (W : World) (hb : Below w.heap.size w W) => look_gen (h.later hb) (hB.later hb) k hk hN)
  clear h hB e
  go_enter Tryz.func33, Tryz.ntmps33
  go_wp2_with fail
  refine HH.out.mono ?_
  rintro e w1 ⟨rfl, hb1⟩
  have HB1 := hid hb1
  have HL1 := hid (HL.out w1 hb1)
  clear hb1 HH HL c2 c3 c4 c5 c6 c7 c8 c9
  go_wp2_with fail
  refine HL1.out.mono ?_
  rintro e w2 ⟨a2, c2, rfl, hy2, _, hb2⟩
  have HB2 : Hid (Below w.heap.size w w2) := hid (HB1.out.trans (hb2.mono HB1.out.size))
  have HCL := hid (Clone_any w2 _ (some a2) 512 c2 (ct P bc k) hlen (by decide) (by decide) hy2)
  clear hy2 hb2 HL1
  go_wp2_with fail
  refine HCL.out.mono ?_
  rintro e w3 ⟨a3, c3, rfl, _, _, hb3, ho3⟩
  have HO3 := hid ho3
  have HB3 : Hid (Below w.heap.size w w3) := hid (HB2.out.trans (hb3.mono HB2.out.size))
  clear hb3 ho3 HCL
  go_wp2
  go_ret2
  exact ⟨a3, c3, rfl, owns_base HO3.out (fun g hg => Nat.le_trans HB2.out.size (owns_lt HO3.out hg).2), HB3.out⟩
end Go.Proofs.YtaplmlldmhdhoaaGreatDoor

/- A view by what its blocks are; a view as the base of another one. -/
namespace Go.Proofs.YtaplmlldmhdhoaaGreatDoor
open Go.RowKit Go.Maps
set_option linter.unusedVariables false

def updN (c : Nat → List Int) (k : Nat) (l : List Int) : Nat → List Int := fun j => if j = k then l else c j
theorem updN_same (c : Nat → List Int) (k : Nat) (l : List Int) : updN c k l k = l := by simp [updN]
theorem updN_other (c : Nat → List Int) {k j : Nat} (l : List Int) (h : j ≠ k) : updN c k l j = c j := by simp [updN, h]
/-- The view at pv tells the blocks c; its base tells bc. -/
structure Dw (w : World) (pv : Nat) (S : Nat → Prop) (N : Nat) (i : Int) (base : Value) (T : Nat → Prop) (bc : Nat → List Int) (n : Nat) (P : Int → Option (List Int)) (c : Nat → List Int) : Prop where
  v : Vw w pv S N i base n P
  t : Tl w base T N bc
  eq : ∀ k, k < N → ct P bc k = c k
  o : ∀ k, IsI k → ¬ (0 ≤ k ∧ k < (N : Int)) → P k = none
  s : ∀ g, S g → g < w.heap.size
  d : ∀ g, T g → ¬ S g
  p : PlanOk N i
  nN : N ≤ 4096
  len : ∀ k, k < N → (c k).length = 512
  isB : ∀ k, k < N → ∀ y ∈ c k, IsB y
variable {w w' : World} {pv n N : Nat} {S S' T : Nat → Prop} {i : Int} {base : Value} {P : Int → Option (List Int)} {bc c : Nat → List Int}
theorem Dw.keep (h : Dw w pv S N i base T bc n P c) (hs : w.heap.size ≤ w'.heap.size) (hk : ∀ g, S g ∨ T g → g < w.heap.size → w'.heap[g]? = w.heap[g]?) : Dw w' pv S N i base T bc n P c :=
  ⟨h.v.keep (fun g hg hl => hk g (.inl hg) hl), h.t.keep hs (fun g hg hl => hk g (.inr hg) hl), h.eq, h.o, fun g hg => Nat.lt_of_lt_of_le (h.s g hg) hs, h.d, h.p, h.nN, h.len, h.isB⟩
theorem Dw.later (h : Dw w pv S N i base T bc n P c) (hb : Below w.heap.size w w') : Dw w' pv S N i base T bc n P c := h.keep hb.size fun g _ hl => hb.block g hl
theorem Dw.mods {M : Nat → Prop} (h : Dw w pv S N i base T bc n P c) (hm : Mods M w w') (hd : ∀ g, S g ∨ T g → ¬ M g) : Dw w' pv S N i base T bc n P c := h.keep hm.size fun g hg hl => hm.block g hl (hd g hg)
/-- What a view tells. -/
theorem Dw.Get (h : Dw w pv S N i base T bc n P c) (k : Nat) (hk : k < N) :
    Calls Tryz.prog 33 #[.pointer (some ⟨pv, 0, none⟩), n64 k] w fun e w' => ∃ g c', e = .returned (.tuple #[.slice (some ⟨g, 0, none⟩) 512 c', .nilIface]) ∧ w'.ownsRow w.heap.size 5 1 (.slice (some ⟨g, 0, none⟩) 512 c') 512 (u8s (c k)) ∧ Below w.heap.size w w' := by
  have hN := h.nN
  refine (Get_gen h.v h.t k hk (by omega) (by omega) (by rw [h.eq k hk]; exact h.len k hk)).mono ?_
  rintro e w' ⟨a', c', rfl, ho, hb⟩
  rw [h.eq k hk] at ho
  obtain ⟨g, cap, e, _, _, _, _, _, _⟩ := owns_cells ho (by decide)
  rw [e] at ho ⊢
  exact ⟨g, cap, rfl, ho, hb⟩
theorem Dw.put (h : Dw w pv S N i base T bc n P c) {n' : Nat} (k : Nat) (hk : k < N) (l : List Int) (hl : l.length = 512) (hI : ∀ y ∈ l, IsB y) (hv : Vw w' pv S' N i base n' (upd P (k : Int) (some l))) (hkp : Kp S w S' w') (hs : ∀ g, S' g → g < w'.heap.size) : Dw w' pv S' N i base T bc n' (upd P (k : Int) (some l)) (updN c k l) := by
  refine ⟨hv, h.t.keep hkp.2.size (fun g hg hl => hkp.block hl (h.d g hg)), fun j hj => ?_, fun j hj hn => ?_, hs, fun g hg => hkp.off (h.t.lt hg) (h.d g hg), h.p, h.nN, fun j hj => ?_, fun j hj => ?_⟩
  · by_cases e : j = k
    · subst e; rw [ct_upd_same, updN_same]
    · rw [ct_upd_other _ e, updN_other _ _ e, h.eq j hj]
  · rw [upd_other _ _ (by omega)]; exact h.o j hj hn
  · by_cases e : j = k
    · subst e; rw [updN_same]; exact hl
    · rw [updN_other _ _ e]; exact h.len j hj
  · by_cases e : j = k
    · subst e; rw [updN_same]; exact hI
    · rw [updN_other _ _ e]; exact h.isB j hj
theorem Dw.Put (h : Dw w pv S N i base T bc n P c) (hn : n < 900000) (k : Nat) (hk : k < N) (D : Nat → Prop) (l : List Int) (hl : l.length = 512) (a : Option Addr) (cp : Nat) (hy : By w D a l) :
    Calls Tryz.prog 84 #[.pointer (some ⟨pv, 0, none⟩), n64 k, .slice a 512 cp] w fun e w' => e = .returned .nilIface ∧ ∃ S', Dw w' pv S' N i base T bc (n + 1) (upd P (k : Int) (some l)) (updN c k l) ∧ Kp S w S' w' := by
  have hN := h.nN
  refine (Put_ok h.v h.s hn k (by omega) (by omega) D l hl a cp hy).mono ?_
  rintro e w' ⟨rfl, S', hv, hk', hs'⟩
  exact ⟨rfl, S', h.put k hk l hl hy.isB hv hk' hs', hk'⟩
theorem planD_N (h : PlanOk (N : Int) i) : ∃ D : Nat, planD N i = (D : Int) ∧ D + 8 ≤ N ∧ 70 ≤ D := planD_nat h
/-- The lowest one that is free. -/
def LowF (F : Nat → Bool) (lo hi x : Nat) : Prop := lo ≤ x ∧ x < hi ∧ F x = false ∧ ∀ j, lo ≤ j → j < x → F j = true
theorem Dw.TakeBlock (h : Dw w pv S N i base T bc n P c) (hn : n < 900000) (D : Nat) (hD : planD N i = (D : Int)) (F : Nat → Bool) (hF : c 69 = bitB F) (x : Nat) (hx : LowF F D N x) :
    Calls Tryz.prog 100 #[.pointer (some ⟨pv, 0, none⟩)] w fun e w' => e = .returned (.tuple #[n64 x, .nilIface]) ∧ ∃ S', Dw w' pv S' N i base T bc (n + 1) (upd P ((69 : Nat) : Int) (some (bitB (flip1 F x)))) (updN c 69 (bitB (flip1 F x))) ∧ Kp S w S' w' := by
  have hN := h.nN
  obtain ⟨D', hD', hDN, hD70⟩ := planD_nat h.p
  obtain rfl : D' = D := by omega
  have h69 : 69 < N := by omega
  have hr0 : rowF F 0 = F := by funext k; unfold rowF; simp
  have hc := take_gen h.v h.t h.s hn (by omega) 69 D' N 1 (by omega) (by omega) (by omega) (by omega) F (fun r hr => by obtain rfl : r = 0 := (by omega); rw [hr0]; exact (h.eq 69 h69).trans hF)
  have hc2 : Calls Tryz.prog 105 #[.pointer (some ⟨pv, 0, none⟩), .agg #[n64 69, n64 (planD N i), n64 N]] w (fun e w' => e = .returned (.tuple #[n64 x, .nilIface]) ∧ ∃ S', Dw w' pv S' N i base T bc (n + 1) (upd P ((69 : Nat) : Int) (some (bitB (flip1 F x)))) (updN c 69 (bitB (flip1 F x))) ∧ Kp S w S' w') := by
    rw [hD]
    refine hc.mono ?_
    rintro e w' (⟨y, h1, h2, h3, h4, rfl, S', hv, hk, hs⟩ | ⟨hall, _⟩)
    · obtain rfl : y = x := by
        rcases Nat.lt_trichotomy y x with h5 | h5 | h5
        · have := hx.2.2.2 y h1 h5; rw [h3] at this; cases this
        · exact h5
        · have := h4 x hx.1 h5; rw [hx.2.2.1] at this; cases this
      have hy : y < 4096 := by omega
      rw [show y / 4096 = 0 by omega, show y % 4096 = y by omega, hr0, Nat.add_zero] at hv
      exact ⟨rfl, S', h.put 69 h69 _ (bitB_len _) (bitB_isB _) hv hk hs, hk⟩
    · have := hall x hx.1 hx.2.1; rw [hx.2.2.1] at this; cases this
  exact (TakeBlock_via h.v _ hc2 (fun e w' hr => ⟨x, .inl hr.1⟩))

/-! ### a view as the base of another one -/
def underV (pv : Nat) : Value := .iface 185 (.agg #[.pointer (some ⟨pv, 0, none⟩)])
theorem methU (p : Value) (w : World) : (method 377 185 (.agg #[p]) "Block").run Tryz.prog w = .ok (169, .agg #[p]) w := by kernel_rfl
theorem callU (args : Array Value) (w : World) : (callFunc 169 args).run Tryz.prog w = .ok (.enter 169 args) w := by kernel_rfl
set_option maxRecDepth 100000 in
set_option maxHeartbeats 1000000 in
theorem unBlock_any (h : Dw w pv S N i base T bc n P c) (k : Nat) (hk : k < N) :
    Calls Tryz.prog 169 #[.agg #[.pointer (some ⟨pv, 0, none⟩)], n64 k] w fun e w' => ∃ a c', e = .returned (.tuple #[.slice (some a) 512 c', .nilIface]) ∧ By w' (New w) (some a) (c k) ∧ 512 ≤ c' ∧ Below w.heap.size w w' := by
  obtain ⟨W1, hW1⟩ : ∃ W, W = w.alloc (.cells #[.pointer (some ⟨pv, 0, none⟩)] 185) := ⟨_, rfl⟩
  have hb1 : Below w.heap.size w W1 := by rw [hW1]; exact (Below.refl _ _).alloc (Nat.le_refl _) _
  have c0 : W1.cell? ⟨w.heap.size, 0, none⟩ = some (.pointer (some ⟨pv, 0, none⟩)) := by rw [hW1]; exact cell_of (alloc_new w _) rfl
  have HG := hid ((h.later hb1).Get k hk)
  have HI := hid (h.isB k hk)
  have HB1 := hid hb1
  clear h hb1
  go_enter Tryz.func169, Tryz.ntmps169
  go_wp2_with (first | (rw [← hW1]; clear hW1))
  refine HG.out.mono ?_
  rintro e w2 ⟨g, c2, rfl, ho, hb2⟩
  have HB2 := hid hb2
  have HO := hid ho
  clear HG ho hb2
  go_wp2
  go_ret2
  obtain ⟨a', c', e', hc', _, hy⟩ := By.of_owns (S := New w) HO.out HI.out (fun g hg => Nat.le_trans HB1.out.size (owns_lt HO.out hg).2)
  simp only [Value.slice.injEq, true_and] at e'
  refine ⟨_, _, rfl, by rw [e'.1]; exact hy, by omega, HB1.out.trans (HB2.out.mono HB1.out.size)⟩
theorem Tl.under (h : Dw w pv S N i base T bc n P c) : Tl w (underV pv) (fun g => S g ∨ T g) N c :=
  ⟨_, _, _, rfl, methU _, callU, fun g hg => hg.elim (h.s g) h.t.lt, fun k hk => ⟨h.len k hk, h.isB k hk⟩, fun W hW hk k hkN => unBlock_any (h.keep hW (fun g hg _ => hk g hg)) k hkN⟩
/-- A new view over a view. -/
theorem Dw.draft (h : Dw w pv S N i base T bc n P c) (hb : Below w.heap.size w w') {pd : Nat} {Sd : Nat → Prop} (hv : Vw w' pd Sd N i (underV pv) 0 (fun _ => none)) (hs : ∀ g, Sd g → w.heap.size ≤ g ∧ g < w'.heap.size) : Dw w' pd Sd N i (underV pv) (fun g => S g ∨ T g) c 0 (fun _ => none) c := by
  refine ⟨hv, (Tl.under h).later hb, fun k _ => rfl, fun _ _ _ => rfl, fun g hg => (hs g hg).2, fun g hg hd => ?_, h.p, h.nN, h.len, h.isB⟩
  have h1 := (hs g hd).1
  rcases hg with h2 | h2
  · have := h.s g h2; omega
  · have := h.t.lt h2; omega
end Go.Proofs.YtaplmlldmhdhoaaGreatDoor
