/- RefB, RefC, RefD in one text. -/
import Derived.Test.YtdjghkngiicncaaGreatRefA
import Derived.Test.YtdjghkngiicncaaGreatRunA
/- The document's own queue: where one may lie; both sides' refusals. -/
namespace Go.Proofs.YtdjghkngiicncaaGreat
open Go.RowKit

/-- May a queue of n lie at base in len bytes? -/
def Fit (len base n : Int) : Prop := 0 < sizeI n ∧ 0 ≤ base ∧ base ≤ len ∧ sizeI n ≤ len - base
theorem sizeI_cases (n : Int) : (pow2 n = true ∧ sizeI n = 8 + 26 * n ∧ 1 ≤ n ∧ n ≤ 256) ∨ (pow2 n = false ∧ sizeI n = 0) := by
  unfold sizeI
  cases h : pow2 n with
  | true => exact .inl ⟨rfl, if_pos rfl, (pow2_bd h).1, (pow2_bd h).2⟩
  | false => exact .inr ⟨rfl, if_neg (by simp)⟩
theorem sizeI_bd (n : Int) : 0 ≤ sizeI n ∧ sizeI n ≤ 6664 := by
  rcases sizeI_cases n with ⟨_, h, _, _⟩ | ⟨_, h⟩ <;> omega

set_option maxRecDepth 100000 in
set_option maxHeartbeats 1000000 in
theorem fits_yes (w : World) (a : Option Addr) (len cap : Nat) (base n : Int) (hl : len ≤ 1099511627776) (h : Fit len base n) :
    Calls Tryz.prog 57 #[.slice a len cap, .int .i64 base, .int .i64 n] w fun e w' => e = .returned (.bool true) ∧ w' = w := by
  obtain ⟨h1, h2, h3, h4⟩ := h
  have hb := sizeI_bd n
  have HS := hid (refSize_any w n)
  generalize sizeI n = s at *
  have e1 : IntKind.i64.wrap ((len : Int) - base) = (len : Int) - base := IntWalk.i64_in _ (by omega)
  go_enter Tryz.func57, Tryz.ntmps57
  go_wp2_with (go_at_call 22; refine HS.out.mono ?_; rintro e w' ⟨rfl, hw⟩; rw [hw]; clear hw w')
  go_ret
  exact ⟨rfl, rfl⟩

set_option maxRecDepth 100000 in
set_option maxHeartbeats 1000000 in
theorem fits_no (w : World) (a : Option Addr) (len cap : Nat) (base n : Int) (h : ¬ Fit len base n) :
    Calls Tryz.prog 57 #[.slice a len cap, .int .i64 base, .int .i64 n] w fun e w' => e = .returned (.bool false) ∧ w' = w := by
  unfold Fit at h
  have hb := sizeI_bd n
  have HS := hid (refSize_any w n)
  generalize sizeI n = s at *
  by_cases h1 : 0 < s
  · by_cases h2 : 0 ≤ base
    · by_cases h3 : base ≤ len
      · have h4 : ¬ (s ≤ (len : Int) - base) := fun h4 => h ⟨h1, h2, h3, h4⟩
        have e1 : IntKind.i64.wrap ((len : Int) - base) = (len : Int) - base := IntWalk.i64_in _ (by omega)
        have h4b : decide (s ≤ (len : Int) - base) = false := decide_eq_false h4
        have HB := hid h4b
        clear h h4b
        go_enter Tryz.func57, Tryz.ntmps57
        go_wp2_with (go_at_call 22; refine HS.out.mono ?_; rintro e w' ⟨rfl, hw⟩; rw [hw]; clear hw w')
        go_ret
        exact ⟨by show Ending.returned (Value.bool (decide (s ≤ (len : Int) - base))) = _; rw [HB.out], rfl⟩
      · clear h
        go_enter Tryz.func57, Tryz.ntmps57
        go_wp2_with (go_at_call 22; refine HS.out.mono ?_; rintro e w' ⟨rfl, hw⟩; rw [hw]; clear hw w')
        go_ret
        exact ⟨rfl, rfl⟩
    · clear h
      go_enter Tryz.func57, Tryz.ntmps57
      go_wp2_with (go_at_call 22; refine HS.out.mono ?_; rintro e w' ⟨rfl, hw⟩; rw [hw]; clear hw w')
      go_ret
      exact ⟨rfl, rfl⟩
  · clear h
    go_enter Tryz.func57, Tryz.ntmps57
    go_wp2_with (go_at_call 22; refine HS.out.mono ?_; rintro e w' ⟨rfl, hw⟩; rw [hw]; clear hw w')
    go_ret
    exact ⟨rfl, rfl⟩

set_option maxRecDepth 100000 in
set_option maxHeartbeats 1000000 in
theorem refNewDriver_bad (w : World) (a : Option Addr) (len cap : Nat) (base n : Int) (h : ¬ Fit len base n) :
    Calls Tryz.prog 27 #[.slice a len cap, .int .i64 base, .int .i64 n] w fun e w' => e = .returned (.tuple #[.pointer none, .int .i64 1]) ∧ w' = w := by
  have HC := hid (fits_no w a len cap base n h)
  clear h
  go_enter Tryz.func27, Tryz.ntmps27
  go_wp2_with fail
  refine HC.out.mono ?_
  rintro e w' ⟨rfl, rfl⟩
  go_wp2
  go_ret2
  exact ⟨rfl, rfl⟩

set_option maxRecDepth 100000 in
set_option maxHeartbeats 1000000 in
theorem refNewDevice_bad (w : World) (a : Option Addr) (len cap : Nat) (base n : Int) (h : ¬ Fit len base n) :
    Calls Tryz.prog 30 #[.slice a len cap, .int .i64 base, .int .i64 n] w fun e w' => e = .returned (.tuple #[.pointer none, .int .i64 1]) ∧ w' = w := by
  have HC := hid (fits_no w a len cap base n h)
  clear h
  go_enter Tryz.func30, Tryz.ntmps30
  go_wp2_with fail
  refine HC.out.mono ?_
  rintro e w' ⟨rfl, rfl⟩
  go_wp2
  go_ret2
  exact ⟨rfl, rfl⟩

/-- The program's own refusal. -/
def noMem : Value := .agg #[.int .i64 0, .slice none 0 0, .slice none 0 0, .int .i64 0, .int .i64 0, .slice none 0 0, .int .i64 0, .int .i64 0]
set_option maxRecDepth 100000 in
set_option maxHeartbeats 1000000 in
theorem share_bad (w : World) (a : Option Addr) (len cap : Nat) (base n : Int) (hl : len ≤ 1099511627776) (h64 : -9223372036854775808 ≤ base ∧ base < 9223372036854775808) (h : ¬ Fit len base n) :
    Calls Tryz.prog 72 #[.slice a len cap, .int .i64 base, .int .i64 n] w fun e w' => e = .returned (.tuple #[noMem, .int .i64 1]) ∧ Below w.heap.size w w' := by
  unfold Fit at h
  have HW := hid (MapKept.heap_alloc w (.cells #[.int .i64 0, .slice none 0 0, .slice none 0 0, .int .i64 0, .int .i64 0, .slice none 0 0, .int .i64 0, .int .i64 0] 119)).1
  rcases sizeI_cases n with ⟨hp, hs, hn1, hn2⟩ | ⟨hp, hs⟩
  · have HS := hid (fun w => Size_yes w n hp)
    have g0 : ((8 : Int) + 26 * n == 0) = false := by rw [beq_eq_false_iff_ne]; omega
    have g2 : IntKind.i64.wrap ((len : Int) - (8 + 26 * n)) = (len : Int) - (8 + 26 * n) := IntWalk.i64_in _ (by omega)
    rw [hs] at h
    clear hs hp
    by_cases hb : base < 0
    · clear h
      go_enter Tryz.func72, Tryz.ntmps72
      go_wp2_with fail
      refine (HS.out _).mono ?_
      rintro e w' ⟨rfl, rfl⟩
      go_wp2
      refine bodyPost_ret (results_c2 rfl _ _ _ _ _ _ rfl HW.out Tryz.underlying119 size76) rfl ⟨rfl, ?_⟩
      exact (Below.refl _ w).alloc (Nat.le_refl _) _
    · have hb2 : (len : Int) - (8 + 26 * n) < base := by omega
      clear h
      go_enter Tryz.func72, Tryz.ntmps72
      go_wp2_with fail
      refine (HS.out _).mono ?_
      rintro e w' ⟨rfl, rfl⟩
      go_wp2
      refine bodyPost_ret (results_c2 rfl _ _ _ _ _ _ rfl HW.out Tryz.underlying119 size76) rfl ⟨rfl, ?_⟩
      exact (Below.refl _ w).alloc (Nat.le_refl _) _
  · have HS := hid (fun w => Size_no w n hp)
    clear hs hp h
    go_enter Tryz.func72, Tryz.ntmps72
    go_wp2_with fail
    refine (HS.out _).mono ?_
    rintro e w' ⟨rfl, rfl⟩
    go_wp2
    refine bodyPost_ret (results_c2 rfl _ _ _ _ _ _ rfl HW.out Tryz.underlying119 size76) rfl ⟨rfl, ?_⟩
    exact (Below.refl _ w).alloc (Nat.le_refl _) _

set_option maxRecDepth 100000 in
set_option maxHeartbeats 1000000 in
theorem NewDriver_bad (w : World) (a : Option Addr) (len cap : Nat) (base n : Int) (hl : len ≤ 1099511627776) (h64 : -9223372036854775808 ≤ base ∧ base < 9223372036854775808) (h : ¬ Fit len base n) :
    Calls Tryz.prog 54 #[.slice a len cap, .int .i64 base, .int .i64 n] w fun e w' => e = .returned (.tuple #[.pointer none, .int .i64 1]) ∧ Below w.heap.size w w' := by
  have HC := hid (share_bad w a len cap base n hl h64 h)
  clear h h64
  unfold noMem at HC
  go_enter Tryz.func54, Tryz.ntmps54
  go_wp2_with fail
  refine HC.out.mono ?_
  rintro e w1 ⟨rfl, hb1⟩
  have HB1 := hid hb1
  clear hb1
  go_wp2
  go_ret2
  exact ⟨rfl, HB1.out.alloc HB1.out.size _⟩

set_option maxRecDepth 100000 in
set_option maxHeartbeats 1000000 in
theorem NewDevice_bad (w : World) (a : Option Addr) (len cap : Nat) (base n : Int) (hl : len ≤ 1099511627776) (h64 : -9223372036854775808 ≤ base ∧ base < 9223372036854775808) (h : ¬ Fit len base n) :
    Calls Tryz.prog 58 #[.slice a len cap, .int .i64 base, .int .i64 n] w fun e w' => e = .returned (.tuple #[.pointer none, .int .i64 1]) ∧ Below w.heap.size w w' := by
  have HC := hid (share_bad w a len cap base n hl h64 h)
  clear h h64
  unfold noMem at HC
  go_enter Tryz.func58, Tryz.ntmps58
  go_wp2_with fail
  refine HC.out.mono ?_
  rintro e w1 ⟨rfl, hb1⟩
  have HB1 := hid hb1
  clear hb1
  go_wp2
  go_ret2
  exact ⟨rfl, HB1.out.alloc HB1.out.size _⟩

/-! ### The document's device -/
/-- The reference's device: memory, base, n, got, put. -/
def RDev (w : World) (p g len cap base n o u : Nat) : Prop :=
  w.heap[p]? = some (.cells #[.slice (some ⟨g, 0, none⟩) len cap, .int .i64 base, .int .i64 n, .int .i64 o, .int .i64 u] 115 (0, 0)) ∧ o < 65536 ∧ u < 65536 ∧ p ≠ g
theorem RDev.keep {w w' : World} {p g len cap base n o u : Nat} (h : RDev w p g len cap base n o u) (hb : w'.heap[p]? = w.heap[p]?) : RDev w' p g len cap base n o u := ⟨hb.trans h.1, h.2⟩
theorem RDev.lt {w : World} {p g len cap base n o u : Nat} (h : RDev w p g len cap base n o u) : p < w.heap.size := (Array.getElem?_eq_some_iff.1 h.1).1
theorem RDev.cells {w : World} {p g len cap base n o u : Nat} (h : RDev w p g len cap base n o u) :
    w.cell? ⟨p, 0, none⟩ = some (.slice (some ⟨g, 0, none⟩) len cap) ∧ w.cell? ⟨p, 1, none⟩ = some (.int .i64 base) ∧ w.cell? ⟨p, 2, none⟩ = some (.int .i64 n) ∧ w.cell? ⟨p, 3, none⟩ = some (.int .i64 o) ∧ w.cell? ⟨p, 4, none⟩ = some (.int .i64 u) ∧
    w.frozen? ⟨p, 3, none⟩ = false ∧ w.frozen? ⟨p, 4, none⟩ = false := by
  have h1 := h.1
  unfold World.cell? World.frozen?
  simp [h1]

set_option maxRecDepth 100000 in
set_option maxHeartbeats 1000000 in
theorem refNewDevice_ok (w : World) (g len cap base n : Nat) (hl : len ≤ 1099511627776) (h : Fit len base n) (hg : g < w.heap.size) :
    Calls Tryz.prog 30 #[.slice (some ⟨g, 0, none⟩) len cap, .int .i64 base, .int .i64 n] w fun e w' => ∃ p, e = .returned (.tuple #[.pointer (some ⟨p, 0, none⟩), .int .i64 0]) ∧ Below w.heap.size w w' ∧ w.heap.size ≤ p ∧ RDev w' p g len cap base n 0 0 := by
  have HC := hid (fits_yes w (some ⟨g, 0, none⟩) len cap base n hl h)
  have HG := hid hg
  clear h hg
  go_enter Tryz.func30, Tryz.ntmps30
  go_wp2_with fail
  refine HC.out.mono ?_
  rintro e w1 ⟨rfl, hw⟩
  rw [hw]
  clear hw w1
  go_wp2
  go_ret2
  exact ⟨w.heap.size, rfl, (Below.refl _ w).alloc (Nat.le_refl _) _, Nat.le_refl _, (MapKept.heap_alloc w _).1, by omega, by omega, by have := HG.out; omega⟩
end Go.Proofs.YtdjghkngiicncaaGreat

/- The document's device: Give. -/
namespace Go.Proofs.YtdjghkngiicncaaGreat
open Go.RowKit

/-- Where the reference's queue lies. -/
structure RGeo (len base n N : Nat) : Prop where
  n1 : 1 ≤ n
  n2 : n ≤ 256
  fit : base + 26 * n + 8 ≤ len
  le : len ≤ N
  big : len ≤ 1099511627776

set_option maxRecDepth 100000 in
set_option maxHeartbeats 1000000 in
theorem refGive_bad (w : World) (p g len cap base n o u : Nat) (hdv : RDev w p g len cap base n o u) (hd l : Int) (hb : giveB n hd l = false) :
    Calls Tryz.prog 50 #[.pointer (some ⟨p, 0, none⟩), .int .i64 hd, .int .i64 l] w fun e w' => e = .returned (.int .i64 1) ∧ w' = w := by
  obtain ⟨d0, d1, d2, _⟩ := hdv.cells
  simp only [giveB, lenB] at hb
  clear hdv
  by_cases h1 : hd < 0
  · clear hb
    go_enter Tryz.func50, Tryz.ntmps50
    go_wp2
    go_ret
    exact ⟨rfl, rfl⟩
  · by_cases h2 : (n : Int) ≤ hd
    · clear hb
      go_enter Tryz.func50, Tryz.ntmps50
      go_wp2
      go_ret
      exact ⟨rfl, rfl⟩
    · by_cases h3 : l < 0
      · clear hb
        go_enter Tryz.func50, Tryz.ntmps50
        go_wp2
        go_ret
        exact ⟨rfl, rfl⟩
      · have h4 : 4294967296 ≤ l := by
          simp [show 0 ≤ hd by omega, show hd < (n : Int) by omega, show 0 ≤ l by omega] at hb
          exact hb
        clear hb
        go_enter Tryz.func50, Tryz.ntmps50
        go_wp2
        go_ret
        exact ⟨rfl, rfl⟩

set_option maxRecDepth 100000 in
set_option maxHeartbeats 2000000 in
theorem refGive_ok (w : World) (p g len cap base n N o u : Nat) (f : Nat → Int) (hdv : RDev w p g len cap base n o u) (hm : Mem w g N f) (G : RGeo len base n N) (hd l : Int) (hb : giveB n hd l = true) :
    Calls Tryz.prog 50 #[.pointer (some ⟨p, 0, none⟩), .int .i64 hd, .int .i64 l] w fun e w' => e = .returned (.int .i64 0) ∧ Mods (fun b => b = p ∨ b = g) w w' ∧ RDev w' p g len cap base n o ((u + 1) % 65536) ∧ Mem w' g N (given f (base + 18 * n + 4) n u hd l) := by
  simp only [giveB, lenB, Bool.and_eq_true, decide_eq_true_eq] at hb
  obtain ⟨⟨h1, h2⟩, h3, h4⟩ := hb
  obtain ⟨n1, n2, fit, hle, hbig⟩ := G
  obtain ⟨d0, d1, d2, d3, d4, fz3, fz4⟩ := hdv.cells
  have hu : u < 65536 := hdv.2.2.1
  have hne : p ≠ g := hdv.2.2.2
  have hpl : p < w.heap.size := hdv.lt
  have h1' : ¬ (hd < 0) := by omega
  have h2' : ¬ ((n : Int) ≤ hd) := by omega
  have h3' : ¬ (l < 0) := by omega
  have h4' : ¬ (4294967296 ≤ l) := by omega
  have hn0 : ¬ ((n : Int) = 0) := by omega
  have hmlt : u % n < n := Nat.mod_lt _ (by omega)
  have e1 : IntKind.i64.wrap (18 * (n : Int)) = 18 * (n : Int) := IntWalk.i64_in _ (by omega)
  have e2 : IntKind.i64.wrap ((base : Int) + 18 * n) = (base : Int) + 18 * n := IntWalk.i64_in _ (by omega)
  have e3 : IntKind.i64.wrap ((base : Int) + 18 * n + 4) = ((base + 18 * n + 4 : Nat) : Int) := by rw [IntWalk.i64_in _ (by omega)]; omega
  have e4 : Int.tmod (u : Int) (n : Int) = ((u % n : Nat) : Int) := (Int.ofNat_tmod u n).symm
  have e5 : IntKind.i64.wrap (8 * ((u % n : Nat) : Int)) = 8 * ((u % n : Nat) : Int) := IntWalk.i64_in _ (by omega)
  have e6 : IntKind.i64.wrap (((base + 18 * n + 4 : Nat) : Int) + 4) = ((base + 18 * n + 4 : Nat) : Int) + 4 := IntWalk.i64_in _ (by omega)
  have e7 : IntKind.i64.wrap (((base + 18 * n + 4 : Nat) : Int) + 4 + 8 * ((u % n : Nat) : Int)) = ((base + 18 * n + 4 + (4 + u % n * 8) : Nat) : Int) := by rw [IntWalk.i64_in _ (by omega)]; omega
  have e8 : IntKind.i64.wrap (((base + 18 * n + 4 + (4 + u % n * 8) : Nat) : Int) + 4) = ((base + 18 * n + 4 + (4 + u % n * 8) + 4 : Nat) : Int) := by rw [IntWalk.i64_in _ (by omega)]; omega
  have e9 : IntKind.i64.wrap (((base + 18 * n + 4 : Nat) : Int) + 2) = ((base + 18 * n + 4 + 2 : Nat) : Int) := by rw [IntWalk.i64_in _ (by omega)]; omega
  have e10 : IntKind.i64.wrap ((u : Int) + 1) = (u : Int) + 1 := IntWalk.i64_in _ (by omega)
  have e11 : Int.tmod ((u : Int) + 1) 65536 = (((u + 1) % 65536 : Nat) : Int) := by rw [show ((u : Int) + 1) = ((u + 1 : Nat) : Int) by omega]; exact (Int.ofNat_tmod (u + 1) 65536).symm
  have hu1 : (u + 1) % 65536 < 65536 := Nat.mod_lt _ (by omega)
  have b1 : base + 18 * n + 4 + (4 + u % n * 8) + 4 ≤ len := by omega
  have b2 : base + 18 * n + 4 + (4 + u % n * 8) + 4 + 4 ≤ len := by omega
  have b3 : base + 18 * n + 4 + 2 + 2 ≤ len := by omega
  have HD := hid hdv
  have HM := hid hm
  simp only [given]
  generalize u % n = m at *
  generalize hu1e : (u + 1) % 65536 = u1 at *
  generalize base + 18 * n + 4 + (4 + m * 8) = a1 at *
  generalize ha2 : a1 + 4 = a2 at *
  have HA2 := hid ha2
  clear ha2
  generalize base + 18 * n + 4 = pu at *
  generalize pu + 2 = pu2 at *
  have HB0 : Hid (0 ≤ hd ∧ hd < 256) := hid ⟨h1, by omega⟩
  clear hdv hm hu1e h1 h2
  go_enter Tryz.func50, Tryz.ntmps50
  go_wp2
  go_quiet (fail)
  obtain ⟨nq1, rfl⟩ : ∃ k, k = nq := ⟨_, rfl⟩
  go_wp2
  go_quiet (fail)
  go_wp2_with fail
  have hM1 := HM.out.below (below_drewN (Below.refl w.heap.size w) (nq1 + nq))
  refine (refset_any _ g N len cap a1 4 f hd hM1 hle hbig (by have := HA2.out; omega) (by omega) HB0.out.1 (by have := HB0.out.2; omega)).mono ?_
  rintro e w1 ⟨rfl, hm1, hmo1⟩
  have hr1 := (HD.out.keep (w' := w.drewN (nq1 + nq)) rfl).keep (hmo1.block p (by simpa using hpl) hne)
  have HM1 := hid hm1
  have HMO1 := hid ((Mods.of_below (al := fun b => b = g) (below_drewN (Below.refl w.heap.size w) (nq1 + nq))).tr hmo1)
  have HD1 := hid hr1
  obtain ⟨d0, d1, d2, d3, d4, fz3, fz4⟩ := hr1.cells
  clear hM1 hm1 hmo1 hr1
  go_wp2_with fail
  refine (refset_any _ g N len cap a2 4 _ l HM1.out hle hbig (by omega) (by omega) (by omega) (by omega)).mono ?_
  rintro e w2 ⟨rfl, hm2, hmo2⟩
  have hr2 := HD1.out.keep (hmo2.block p HD1.out.lt hne)
  have HM2 := hid hm2
  have HMO2 := hid (HMO1.out.tr hmo2)
  have HD2 := hid hr2
  obtain ⟨d0, d1, d2, d3, d4, fz3, fz4⟩ := hr2.cells
  clear hm2 hmo2 hr2
  go_wp2
  have hr3 : RDev (w2.setCell ⟨p, 4, none⟩ (.int .i64 u1)) p g len cap base n o u1 := ⟨setc HD2.out.1 4 _, HD2.out.2.1, hu1, hne⟩
  have HM3 := hid (HM2.out.mods ((Mods.refl (fun b => b = p) w2).setCell p 4 (.int .i64 u1) rfl) (fun e => hne e.symm))
  obtain ⟨d0, _, _, _, d4, _, _⟩ := hr3.cells
  have HMO3 : Hid (Mods (fun b => b = p ∨ b = g) w (w2.setCell ⟨p, 4, none⟩ (.int .i64 u1))) := hid ((HMO2.out.weak (fun b e => .inl (.inr e))).setCell p 4 _ (.inl rfl))
  have HD3 := hid hr3
  clear hr3 HM2 HMO2 HD2 HM1 HMO1 HD1 fz3 fz4
  obtain ⟨w3, hw3⟩ : ∃ w3, w3 = w2.setCell ⟨p, 4, none⟩ (.int .i64 u1) := ⟨_, rfl⟩
  rw [← hw3] at HM3 HMO3 HD3 d0 d4 ⊢
  clear hw3
  have hc := hid (refset_any w3.drew g N len cap pu2 2 _ u1 (HM3.out.below (Below.refl w3.heap.size w3).drew) hle hbig b3 (by omega) (by omega) (by omega))
  go_region_held3 (fun w' => w'.cell? ⟨p, 0, none⟩ = some (.slice (some ⟨g, 0, none⟩) len cap) ∧ w'.cell? ⟨p, 4, none⟩ = some (.int .i64 u1)) ((first | exact ⟨d0, d4⟩ | exact HS5.out))
    ((go_at_call 62; refine hc.out.mono ?_; rintro e w5 ⟨rfl, hm5, hmo5⟩; have HM5 := hid hm5; have HMO5 := hid hmo5; have HS5 := hid (And.intro (hmo5.cell (w := w3.drew) d0 hne) (hmo5.cell (w := w3.drew) d4 hne)); clear hm5 hmo5))
  go_wp2
  go_ret
  refine ⟨rfl, ?_, ?_, HM5.out⟩
  · exact HMO3.out.tr ((Mods.of_below (al := fun b => b = p ∨ b = g) ((Below.refl w3.heap.size w3).drew)).tr (HMO5.out.weak (fun b e => .inl (.inr e))))
  · exact HD3.out.keep ((HMO5.out.block p HD3.out.lt hne).trans rfl)
end Go.Proofs.YtdjghkngiicncaaGreat

/- The document's driver: made; how many are free. -/
namespace Go.Proofs.YtdjghkngiicncaaGreat
open Go.RowKit

/-- The reference's driver, its own cells. -/
def RBox (w : World) (p gt : Nat) (vf : Value) (g len cap base n put got : Nat) : Prop :=
  w.heap[p]? = some (.cells #[.slice (some ⟨g, 0, none⟩) len cap, .int .i64 base, .int .i64 n, .slice (some ⟨gt, 0, none⟩) n n, .int .i64 put, .int .i64 got, vf] 111 (0, 0))
theorem RBox.cells {w : World} {p gt : Nat} {vf : Value} {g len cap base n put got : Nat} (h : RBox w p gt vf g len cap base n put got) :
    w.cell? ⟨p, 0, none⟩ = some (.slice (some ⟨g, 0, none⟩) len cap) ∧ w.cell? ⟨p, 1, none⟩ = some (.int .i64 base) ∧ w.cell? ⟨p, 2, none⟩ = some (.int .i64 n) ∧ w.cell? ⟨p, 3, none⟩ = some (.slice (some ⟨gt, 0, none⟩) n n) ∧
    w.cell? ⟨p, 4, none⟩ = some (.int .i64 put) ∧ w.cell? ⟨p, 5, none⟩ = some (.int .i64 got) ∧ w.cell? ⟨p, 6, none⟩ = some vf ∧
    w.frozen? ⟨p, 4, none⟩ = false ∧ w.frozen? ⟨p, 5, none⟩ = false ∧ w.frozen? ⟨p, 6, none⟩ = false := by
  have h1 : w.heap[p]? = _ := h
  unfold World.cell? World.frozen?
  simp [h1]
theorem RBox.lt {w : World} {p gt : Nat} {vf : Value} {g len cap base n put got : Nat} (h : RBox w p gt vf g len cap base n put got) : p < w.heap.size := (Array.getElem?_eq_some_iff.1 h).1
/-- Which descriptors are taken. -/
def Tk (w : World) (gt n : Nat) (t : Nat → Bool) : Prop := w.rowIs gt 4 n (fun i => .bool (t i))
theorem Tk.cell {w : World} {gt n : Nat} {t : Nat → Bool} (h : Tk w gt n t) {i : Nat} (hi : i < n) : w.cell? ⟨gt, i, none⟩ = some (.bool (t i)) := by
  obtain ⟨c, h1, _, h3⟩ := h
  unfold World.cell?
  simp [h1, h3 i hi]
theorem Tk.frozen {w : World} {gt n : Nat} {t : Nat → Bool} (h : Tk w gt n t) (i : Nat) : w.frozen? ⟨gt, i, none⟩ = false := by
  obtain ⟨c, h1, _, h3⟩ := h
  unfold World.frozen?
  simp [h1]
theorem Tk.keep {w w' : World} {gt n : Nat} {t : Nat → Bool} (h : Tk w gt n t) (hb : w'.heap[gt]? = w.heap[gt]?) : Tk w' gt n t := World.rowIs.of_block h hb
theorem Tk.lt {w : World} {gt n : Nat} {t : Nat → Bool} (h : Tk w gt n t) : gt < w.heap.size := by
  obtain ⟨c, h1, _, _⟩ := h
  exact (Array.getElem?_eq_some_iff.1 h1).1
/-- How many of the first k are free. -/
def cnt (t : Nat → Bool) : Nat → Nat
  | 0 => 0
  | k + 1 => if t k then cnt t k else cnt t k + 1
theorem cnt_le (t : Nat → Bool) (k : Nat) : cnt t k ≤ k := by
  induction k with
  | zero => exact Nat.le_refl _
  | succ k ih => unfold cnt; split <;> omega

theorem info4 : (Tryz.prog.info? 4).map (fun i => (i.zero, i.size, i.bytes)) = some (some (.bool false), 1, 1) := by kernel_rfl

set_option maxRecDepth 100000 in
set_option maxHeartbeats 1000000 in
theorem refFree_any (w : World) (p gt : Nat) (vf : Value) (g len cap base n put got : Nat) (t : Nat → Bool) (hb : RBox w p gt vf g len cap base n put got) (ht : Tk w gt n t) (n2 : n ≤ 256) :
    Calls Tryz.prog 61 #[.pointer (some ⟨p, 0, none⟩)] w fun e w' => e = .returned (.int .i64 (cnt t n)) ∧ w' = w := by
  obtain ⟨d0, d1, d2, d3, d4, d5, d6, _⟩ := hb.cells
  have HT := hid ht
  clear hb ht
  go_enter Tryz.func61, Tryz.ntmps61
  go_wp2
  go_loopw [3, 4] (fun x y wr => ∃ k : Nat, k ≤ n ∧ x = .int .i64 (cnt t k) ∧ y = .int .i64 k ∧ wr = w) (fun _ y _ => n - (RowKit.intOf y).toNat)
  case atStart => exact ⟨0, Nat.zero_le _, rfl, rfl, rfl⟩
  case round =>
    obtain ⟨k, hk, rfl, rfl, rfl⟩ := hrel
    have hc := cnt_le t k
    by_cases hlt : k < n
    · have hki : (k : Int) < n := by omega
      have hcell := HT.out.cell hlt
      have e1 : IntKind.i64.wrap ((k : Int) + 1) = (k : Int) + 1 := IntWalk.i64_in _ (by omega)
      have e2 : IntKind.i64.wrap ((cnt t k : Int) + 1) = (cnt t k : Int) + 1 := IntWalk.i64_in _ (by omega)
      have hst := hid (show cnt t (k + 1) = if t k then cnt t k else cnt t k + 1 from rfl)
      generalize cnt t k = c at *
      cases htk : t k with
      | true =>
        rw [htk] at hcell
        have HTK := hid htk
        clear htk
        go_wp2
        refine ⟨⟨k + 1, by omega, ?_, by go_num, trivial⟩, by simp only [RowKit.intOf]; omega⟩
        rw [hst.out, HTK.out]
        rfl
      | false =>
        rw [htk] at hcell
        have HTK := hid htk
        clear htk
        go_wp2
        refine ⟨⟨k + 1, by omega, ?_, by go_num, trivial⟩, by simp only [RowKit.intOf]; omega⟩
        rw [hst.out, HTK.out]
        go_num
    · have hki : ¬ ((k : Int) < n) := by omega
      go_wp2
      go_ret
      obtain rfl : k = n := by omega
      exact ⟨rfl, rfl⟩

set_option maxRecDepth 100000 in
set_option maxHeartbeats 2000000 in
theorem refNewDriver_ok (w : World) (g len cap base n N : Nat) (f : Nat → Int) (hm : Mem w g N f) (G : RGeo len base n N) (hp : pow2 n = true) :
    Calls Tryz.prog 27 #[.slice (some ⟨g, 0, none⟩) len cap, .int .i64 base, .int .i64 n] w fun e w' => ∃ p gt, e = .returned (.tuple #[.pointer (some ⟨p, 0, none⟩), .int .i64 0]) ∧ Mods (fun b => b = g) w w' ∧ Mem w' g N (zr f base (8 + 26 * n)) ∧
      RBox w' p gt (.slice none 0 0) g len cap base n 0 0 ∧ Tk w' gt n (fun _ => false) ∧ w.heap.size ≤ gt ∧ gt < p := by
  obtain ⟨n1, n2, fit, hle, hbig⟩ := G
  have hs : sizeI n = 8 + 26 * (n : Int) := by unfold sizeI; rw [if_pos hp]
  have hf : Fit len base n := ⟨by omega, by omega, by omega, by omega⟩
  have HF := hid (fits_yes w (some ⟨g, 0, none⟩) len cap base n hbig hf)
  have HS := hid (fun w => refSize_any w n)
  rw [hs] at HS
  have HM := hid hm
  have hmk := run_make_row' (P := Tryz.prog) 108 4 (.bool false) 1 Tryz.underlying108 info4 rfl .i64 .i64 n (by omega) (by omega)
  clear hm hf hs hp
  go_enter Tryz.func27, Tryz.ntmps27
  go_wp2_with fail
  refine HF.out.mono ?_
  rintro e w1 ⟨rfl, hw1⟩
  rw [hw1]
  clear hw1 w1
  go_wp2
  go_loopw [8] (fun x wr => ∃ k : Nat, k ≤ 8 + 26 * n ∧ x = .int .i64 k ∧ Mem wr g N (zr f base k) ∧ Mods (fun b => b = g) w wr) (fun x _ => 8 + 26 * n - (RowKit.intOf x).toNat)
  case atStart => exact ⟨0, Nat.zero_le _, rfl, HM.out.congr (fun i _ => by unfold zr; rw [if_neg (by omega)]), Mods.refl _ _⟩
  case round =>
    obtain ⟨k, hk, rfl, hme, hmo⟩ := hrel
    have HME := hid hme
    have HMO := hid hmo
    by_cases hlt : k < 8 + 26 * n
    · have hki : (k : Int) < 8 + 26 * (n : Int) := by omega
      have hc := hme.cell (i := base + k) (by omega)
      have hfz := hme.frozen (base + k)
      have e1 : IntKind.i64.wrap ((base : Int) + k) = (base : Int) + k := IntWalk.i64_in _ (by omega)
      have e3 : IntKind.i64.wrap ((k : Int) + 1) = (k : Int) + 1 := IntWalk.i64_in _ (by omega)
      have b1 : (base : Int) + k < len := by omega
      have b2 : (0 : Int) ≤ (base : Int) + k := by omega
      clear hme hmo
      go_wp2_with (go_at_call 22; refine (HS.out _).mono ?_; rintro e w5 ⟨rfl, hw5⟩; rw [hw5]; clear hw5 w5)
      refine ⟨⟨k + 1, by omega, by go_num, ?_, HMO.out.setCell g (base + k) _ rfl⟩, by simp only [RowKit.intOf]; omega⟩
      refine (HME.out.set1 (base + k) 0 (by unfold IsB; omega)).congr (fun i _ => ?_)
      unfold zr
      by_cases e : i = base + k
      · rw [if_pos e, if_pos (by omega)]
      · rw [if_neg e]
        by_cases h : base ≤ i ∧ i < base + k
        · rw [if_pos h, if_pos (by omega)]
        · rw [if_neg h, if_neg (by omega)]
    · have hki : ¬ ((k : Int) < 8 + 26 * (n : Int)) := by omega
      obtain rfl : k = 8 + 26 * n := by omega
      clear hme hmo
      go_wp2_with (go_at_call 22; refine (HS.out _).mono ?_; rintro e w5 ⟨rfl, hw5⟩; rw [hw5]; clear hw5 w5)
      go_ret2
      have z1 : (wr.alloc (.cells (madeCells #[.bool false] n) 4)).heap.size = wr.heap.size + 1 := by simp
      refine ⟨wr.heap.size + 1, wr.heap.size, rfl, (HMO.out.alloc _).alloc _, HME.out.below (((Below.refl wr.heap.size wr).alloc (Nat.le_refl _) _).alloc (by omega) _), ?_, ?_, HMO.out.size, by omega⟩
      · have h := (MapKept.heap_alloc (wr.alloc (.cells (madeCells #[.bool false] n) 4)) (.cells #[.slice (some ⟨g, 0, none⟩) len cap, .int .i64 base, .int .i64 n, .slice (some ⟨wr.heap.size, 0, none⟩) n n, .int .i64 0, .int .i64 0, .slice none 0 0] 111)).1
        rw [z1] at h
        exact h
      · exact (World.rowIs_made wr (.bool false) n 4).of_block (Below.heap_alloc (wr.alloc (.cells (madeCells #[.bool false] n) 4)) _ _ (by omega))
end Go.Proofs.YtdjghkngiicncaaGreat
