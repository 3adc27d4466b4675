/- The document's device: Give. -/
import Derived.Test.YtjnhcbompgmknaaRefB
namespace Go.Proofs.Ytjnhcbompgmknaa
open Go.RowKit

/-- Where the reference's queue lies. -/
structure RGeo (len base n N : Nat) : Prop where
  n1 : 1 ≤ n
  n2 : n ≤ 256
  fit : base + 26 * n + 8 ≤ len
  le : len ≤ N
  big : len ≤ 1099511627776

set_option maxRecDepth 100000 in
set_option maxHeartbeats 1000000 in
theorem refGive_bad (w : World) (p g len cap base n o u : Nat) (hdv : RDev w p g len cap base n o u) (hd l : Int) (hb : giveB n hd l = false) :
    Calls Try.prog 30 #[.pointer (some ⟨p, 0, none⟩), .int .i64 hd, .int .i64 l] w fun e w' => e = .returned (.int .i64 1) ∧ w' = w := by
  obtain ⟨d0, d1, d2, _⟩ := hdv.cells
  simp only [giveB, lenB] at hb
  clear hdv
  by_cases h1 : hd < 0
  · clear hb
    go_enter Try.func30, Try.ntmps30
    go_wp2
    go_ret
    exact ⟨rfl, rfl⟩
  · by_cases h2 : (n : Int) ≤ hd
    · clear hb
      go_enter Try.func30, Try.ntmps30
      go_wp2
      go_ret
      exact ⟨rfl, rfl⟩
    · by_cases h3 : l < 0
      · clear hb
        go_enter Try.func30, Try.ntmps30
        go_wp2
        go_ret
        exact ⟨rfl, rfl⟩
      · have h4 : 4294967296 ≤ l := by
          simp [show 0 ≤ hd by omega, show hd < (n : Int) by omega, show 0 ≤ l by omega] at hb
          exact hb
        clear hb
        go_enter Try.func30, Try.ntmps30
        go_wp2
        go_ret
        exact ⟨rfl, rfl⟩

set_option maxRecDepth 100000 in
set_option maxHeartbeats 2000000 in
theorem refGive_ok (w : World) (p g len cap base n N o u : Nat) (f : Nat → Int) (hdv : RDev w p g len cap base n o u) (hm : Mem w g N f) (G : RGeo len base n N) (hd l : Int) (hb : giveB n hd l = true) :
    Calls Try.prog 30 #[.pointer (some ⟨p, 0, none⟩), .int .i64 hd, .int .i64 l] w fun e w' => e = .returned (.int .i64 0) ∧ Mods (fun b => b = p ∨ b = g) w w' ∧ RDev w' p g len cap base n o ((u + 1) % 65536) ∧ Mem w' g N (given f (base + 18 * n + 4) n u hd l) := by
  simp only [giveB, lenB, Bool.and_eq_true, decide_eq_true_eq] at hb
  obtain ⟨⟨h1, h2⟩, h3, h4⟩ := hb
  obtain ⟨n1, n2, fit, hle, hbig⟩ := G
  obtain ⟨d0, d1, d2, d3, d4, fz3, fz4⟩ := hdv.cells
  have hu : u < 65536 := hdv.2.2.1
  have hne : p ≠ g := hdv.2.2.2
  have hpl : p < w.heap.size := hdv.lt
  have h1' : ¬ (hd < 0) := by omega
  have h2' : ¬ ((n : Int) ≤ hd) := by omega
  have h3' : ¬ (l < 0) := by omega
  have h4' : ¬ (4294967296 ≤ l) := by omega
  have hn0 : ¬ ((n : Int) = 0) := by omega
  have hmlt : u % n < n := Nat.mod_lt _ (by omega)
  have e1 : IntKind.i64.wrap (18 * (n : Int)) = 18 * (n : Int) := IntWalk.i64_in _ (by omega)
  have e2 : IntKind.i64.wrap ((base : Int) + 18 * n) = (base : Int) + 18 * n := IntWalk.i64_in _ (by omega)
  have e3 : IntKind.i64.wrap ((base : Int) + 18 * n + 4) = ((base + 18 * n + 4 : Nat) : Int) := by rw [IntWalk.i64_in _ (by omega)]; omega
  have e4 : Int.tmod (u : Int) (n : Int) = ((u % n : Nat) : Int) := (Int.ofNat_tmod u n).symm
  have e5 : IntKind.i64.wrap (8 * ((u % n : Nat) : Int)) = 8 * ((u % n : Nat) : Int) := IntWalk.i64_in _ (by omega)
  have e6 : IntKind.i64.wrap (((base + 18 * n + 4 : Nat) : Int) + 4) = ((base + 18 * n + 4 : Nat) : Int) + 4 := IntWalk.i64_in _ (by omega)
  have e7 : IntKind.i64.wrap (((base + 18 * n + 4 : Nat) : Int) + 4 + 8 * ((u % n : Nat) : Int)) = ((base + 18 * n + 4 + (4 + u % n * 8) : Nat) : Int) := by rw [IntWalk.i64_in _ (by omega)]; omega
  have e8 : IntKind.i64.wrap (((base + 18 * n + 4 + (4 + u % n * 8) : Nat) : Int) + 4) = ((base + 18 * n + 4 + (4 + u % n * 8) + 4 : Nat) : Int) := by rw [IntWalk.i64_in _ (by omega)]; omega
  have e9 : IntKind.i64.wrap (((base + 18 * n + 4 : Nat) : Int) + 2) = ((base + 18 * n + 4 + 2 : Nat) : Int) := by rw [IntWalk.i64_in _ (by omega)]; omega
  have e10 : IntKind.i64.wrap ((u : Int) + 1) = (u : Int) + 1 := IntWalk.i64_in _ (by omega)
  have e11 : Int.tmod ((u : Int) + 1) 65536 = (((u + 1) % 65536 : Nat) : Int) := by rw [show ((u : Int) + 1) = ((u + 1 : Nat) : Int) by omega]; exact (Int.ofNat_tmod (u + 1) 65536).symm
  have hu1 : (u + 1) % 65536 < 65536 := Nat.mod_lt _ (by omega)
  have b1 : base + 18 * n + 4 + (4 + u % n * 8) + 4 ≤ len := by omega
  have b2 : base + 18 * n + 4 + (4 + u % n * 8) + 4 + 4 ≤ len := by omega
  have b3 : base + 18 * n + 4 + 2 + 2 ≤ len := by omega
  have HD := hid hdv
  have HM := hid hm
  simp only [given]
  generalize u % n = m at *
  generalize hu1e : (u + 1) % 65536 = u1 at *
  generalize base + 18 * n + 4 + (4 + m * 8) = a1 at *
  generalize ha2 : a1 + 4 = a2 at *
  have HA2 := hid ha2
  clear ha2
  generalize base + 18 * n + 4 = pu at *
  generalize pu + 2 = pu2 at *
  have HB0 : Hid (0 ≤ hd ∧ hd < 256) := hid ⟨h1, by omega⟩
  clear hdv hm hu1e h1 h2
  go_enter Try.func30, Try.ntmps30
  go_wp2
  go_quiet (fail)
  obtain ⟨nq1, rfl⟩ : ∃ k, k = nq := ⟨_, rfl⟩
  go_wp2
  go_quiet (fail)
  go_wp2_with fail
  have hM1 := HM.out.below (below_drewN (Below.refl w.heap.size w) (nq1 + nq))
  refine (refset_any _ g N len cap a1 4 f hd hM1 hle hbig (by have := HA2.out; omega) (by omega) HB0.out.1 (by have := HB0.out.2; omega)).mono ?_
  rintro e w1 ⟨rfl, hm1, hmo1⟩
  have hr1 := (HD.out.keep (w' := w.drewN (nq1 + nq)) rfl).keep (hmo1.block p (by simpa using hpl) hne)
  have HM1 := hid hm1
  have HMO1 := hid ((Mods.of_below (al := fun b => b = g) (below_drewN (Below.refl w.heap.size w) (nq1 + nq))).tr hmo1)
  have HD1 := hid hr1
  obtain ⟨d0, d1, d2, d3, d4, fz3, fz4⟩ := hr1.cells
  clear hM1 hm1 hmo1 hr1
  go_wp2_with fail
  refine (refset_any _ g N len cap a2 4 _ l HM1.out hle hbig (by omega) (by omega) (by omega) (by omega)).mono ?_
  rintro e w2 ⟨rfl, hm2, hmo2⟩
  have hr2 := HD1.out.keep (hmo2.block p HD1.out.lt hne)
  have HM2 := hid hm2
  have HMO2 := hid (HMO1.out.tr hmo2)
  have HD2 := hid hr2
  obtain ⟨d0, d1, d2, d3, d4, fz3, fz4⟩ := hr2.cells
  clear hm2 hmo2 hr2
  go_wp2
  have hr3 : RDev (w2.setCell ⟨p, 4, none⟩ (.int .i64 u1)) p g len cap base n o u1 := ⟨setc HD2.out.1 4 _, HD2.out.2.1, hu1, hne⟩
  have HM3 := hid (HM2.out.mods ((Mods.refl (fun b => b = p) w2).setCell p 4 (.int .i64 u1) rfl) (fun e => hne e.symm))
  obtain ⟨d0, _, _, _, d4, _, _⟩ := hr3.cells
  have HMO3 : Hid (Mods (fun b => b = p ∨ b = g) w (w2.setCell ⟨p, 4, none⟩ (.int .i64 u1))) := hid ((HMO2.out.weak (fun b e => .inl (.inr e))).setCell p 4 _ (.inl rfl))
  have HD3 := hid hr3
  clear hr3 HM2 HMO2 HD2 HM1 HMO1 HD1 fz3 fz4
  obtain ⟨w3, hw3⟩ : ∃ w3, w3 = w2.setCell ⟨p, 4, none⟩ (.int .i64 u1) := ⟨_, rfl⟩
  rw [← hw3] at HM3 HMO3 HD3 d0 d4 ⊢
  clear hw3
  have hc := hid (refset_any w3.drew g N len cap pu2 2 _ u1 (HM3.out.below (Below.refl w3.heap.size w3).drew) hle hbig b3 (by omega) (by omega) (by omega))
  go_region_held3 (fun w' => w'.cell? ⟨p, 0, none⟩ = some (.slice (some ⟨g, 0, none⟩) len cap) ∧ w'.cell? ⟨p, 4, none⟩ = some (.int .i64 u1)) ((first | exact ⟨d0, d4⟩ | exact HS5.out))
    ((go_at_call 50; refine hc.out.mono ?_; rintro e w5 ⟨rfl, hm5, hmo5⟩; have HM5 := hid hm5; have HMO5 := hid hmo5; have HS5 := hid (And.intro (hmo5.cell (w := w3.drew) d0 hne) (hmo5.cell (w := w3.drew) d4 hne)); clear hm5 hmo5))
  go_wp2
  go_ret
  refine ⟨rfl, ?_, ?_, HM5.out⟩
  · exact HMO3.out.tr ((Mods.of_below (al := fun b => b = p ∨ b = g) ((Below.refl w3.heap.size w3).drew)).tr (HMO5.out.weak (fun b e => .inl (.inr e))))
  · exact HD3.out.keep ((HMO5.out.block p HD3.out.lt hne).trans rfl)
end Go.Proofs.Ytjnhcbompgmknaa
