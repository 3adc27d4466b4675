/- VkB, VkS in one text. -/
import Derived.Test.YtaplmlldmhdhoaaGreatDoorVfB
import Derived.Shelf.SlIterI.Nil
import Derived.Shelf.SortM.Plain
import Derived.Shelf.SortM.SortNone
import Derived.Ground.GgzProg
import Derived.Ground.SlgmProg
import Derived.Test.YtaplmlldmhdhoaaGreatDoorProg
/- Put, Get of a view. -/
namespace Go.Proofs.YtaplmlldmhdhoaaGreatDoor
open Go.RowKit Go.Maps
set_option linter.unusedVariables false

variable {w w' : World} {pv n q N : Nat} {S S' T : Nat → Prop} {b i : Int} {base : Value} {P : Int → Option (List Int)} {bc : Nat → List Int} {lk : Nat → Bool}
theorem superCells (h : Vw w pv S b i base n P) : w.cell? ⟨pv, 2, none⟩ = some (n64 b) ∧ w.cell? ⟨pv, 3, none⟩ = some (n64 i) ∧ w.cell? ⟨pv, 4, none⟩ = some (n64 1) ∧ w.cell? ⟨pv, 5, none⟩ = some (n64 2) ∧ w.cell? ⟨pv, 6, none⟩ = some (n64 68) ∧ w.cell? ⟨pv, 7, none⟩ = some (n64 69) ∧ w.cell? ⟨pv, 8, none⟩ = some (n64 (planT b)) ∧ w.cell? ⟨pv, 9, none⟩ = some (n64 (planD b i)) := by
  obtain ⟨m, MV, h1, _⟩ := h
  exact ⟨cell_of h1 rfl, cell_of h1 rfl, cell_of h1 rfl, cell_of h1 rfl, cell_of h1 rfl, cell_of h1 rfl, cell_of h1 rfl, cell_of h1 rfl⟩
set_option maxRecDepth 100000 in
set_option maxHeartbeats 1000000 in
theorem has_any (w : World) (x0 x1 x2 x3 x4 x5 x6 x7 k : Int) : Calls Tryz.prog 56 #[.agg #[n64 x0, n64 x1, n64 x2, n64 x3, n64 x4, n64 x5, n64 x6, n64 x7], n64 k] w fun e w' => e = .returned (.bool (decide (0 ≤ k) && decide (k < x0))) ∧ Below w.heap.size w w' := by
  by_cases h : 0 ≤ k
  · by_cases h2 : k < x0
    · have e : (decide (0 ≤ k) && decide (k < x0)) = true := by simp [h, h2]
      rw [e]
      clear e
      go_enter Tryz.func56, Tryz.ntmps56
      go_wp2
      go_ret
      exact ⟨rfl, (Below.refl _ _).alloc (Nat.le_refl _) _⟩
    · have e : (decide (0 ≤ k) && decide (k < x0)) = false := by simp [h2]
      rw [e]
      clear e
      go_enter Tryz.func56, Tryz.ntmps56
      go_wp2
      go_ret
      exact ⟨rfl, (Below.refl _ _).alloc (Nat.le_refl _) _⟩
  · have e : (decide (0 ≤ k) && decide (k < x0)) = false := by simp [h]
    rw [e]
    clear e
    go_enter Tryz.func56, Tryz.ntmps56
    go_wp2
    go_ret
    exact ⟨rfl, (Below.refl _ _).alloc (Nat.le_refl _) _⟩
set_option maxRecDepth 100000 in
set_option maxHeartbeats 1000000 in
theorem Put_ok (h : Vw w pv S b i base n P) (hSb : ∀ g, S g → g < w.heap.size) (hn : n < 900000) (k : Nat) (hk : (k : Int) < b) (hb : b ≤ 100000) (D : Nat → Prop) (l : List Int) (hl : l.length = 512) (a : Option Addr) (c : Nat) (hy : By w D a l) :
    Calls Tryz.prog 84 #[.pointer (some ⟨pv, 0, none⟩), n64 k, .slice a 512 c] w fun e w' => e = .returned .nilIface ∧ ∃ S', Vw w' pv S' b i base (n + 1) (upd P (k : Int) (some l)) ∧ Kp S w S' w' ∧ ∀ g, S' g → g < w'.heap.size := by
  obtain ⟨c2, c3, c4, c5, c6, c7, c8, c9⟩ := superCells h
  have HH := has_any w b i 1 2 68 69 (planT b) (planD b i) k
  have e : (decide (0 ≤ (k : Int)) && decide ((k : Int) < b)) = true := by simp [hk]
  rw [e] at HH
  replace HH := hid HH
  have HV := hid h
  have HY := hid hy
  have HSB := hid hSb
  clear h hy hSb e
  go_enter Tryz.func84, Tryz.ntmps84
  go_wp2_with fail
  refine HH.out.mono ?_
  rintro e w1 ⟨rfl, hb1⟩
  have HB1 := hid hb1
  have HCL := hid (Clone_any w1.drew D a 512 c l hl (by decide) (by decide) (HY.out.later hb1.drew))
  have HLA := hid (fun (W : World) (hbW : Below w1.drew.heap.size w1.drew W) (a' : Option Addr) (c' : Nat) (ho : W.ownsRow w1.drew.heap.size 5 1 (.slice a' 512 c') 512 (u8s l)) => show Calls Tryz.prog 99 #[.pointer (some ⟨pv, 0, none⟩), n64 (k : Int), .slice a' 512 c'] W (fun e w' => e = .returned (.tuple #[]) ∧ Vw w' pv (fun g => S g ∨ w1.drew.heap.size ≤ g) b i base (n + 1) (upd P (k : Int) (some l)) ∧ Mods S W w') by
    obtain ⟨a5, c5, e5, h5, _, hy5⟩ := By.of_owns (S := fun g => w1.drew.heap.size ≤ g) ho HY.out.isB (fun g hg => (owns_lt ho hg).2)
    simp only [Value.slice.injEq, true_and] at e5
    obtain ⟨rfl, rfl⟩ := e5
    have hVW : Vw W pv S b i base n P := HV.out.later (HB1.out.drew.trans (hbW.mono HB1.out.size))
    exact lay_any hVW (by omega) (k : Int) (isI_nat (by omega) (by omega)) _ _ hl _ _ h5 hy5)
  clear hb1 HH c2 c3 c4 c5 c6 c7 c8 c9
  go_wp2_with fail
  go_region_held3 (fun _ => True) (trivial)
    ((first
      | (go_at_call 58; refine HCL.out.mono ?_; rintro e w7 ⟨a7, c7, rfl, _, _, hb7, ho7⟩; have HB7 := hid hb7; have HO7 := hid ho7; clear ho7 hb7 HCL)
      | (go_at_call 99; refine (HLA.out w7 HB7.out a7 c7 HO7.out).mono ?_; rintro e w8 ⟨rfl, hv8, hm8⟩; have HV8 := hid hv8; have HM8 := hid hm8; clear hv8 hm8)))
  go_wp2
  go_ret
  refine ⟨rfl, fun g => (S g ∨ w1.drew.heap.size ≤ g) ∧ g < w8.heap.size, HV8.out.cap, ⟨fun g hg => ?_, ?_⟩, fun g hg => hg.2⟩
  · have e9 : w1.drew.heap.size = w1.heap.size := rfl
    have := HB1.out.size
    rcases hg.1 with h3 | h3
    · exact .inl h3
    · exact .inr (by omega)
  · have hbw : Below w.heap.size w w7 := HB1.out.drew.trans (HB7.out.mono HB1.out.size)
    exact (Mods.of_below hbw).tr HM8.out
set_option maxRecDepth 100000 in
set_option maxHeartbeats 1000000 in
theorem Get_ok (h : Vw w pv S b i (baseV q) n P) (hB : Bs w q T N bc lk) (k : Nat) (hk : k < N) (hkb : (k : Int) < b) (hN : N ≤ 100000) (hlk : lk k = false) (hlen : (ct P bc k).length = 512) :
    Calls Tryz.prog 33 #[.pointer (some ⟨pv, 0, none⟩), n64 k] w fun e w' => ∃ a' c', e = .returned (.tuple #[.slice a' 512 c', .nilIface]) ∧ w'.ownsRow w.heap.size 5 1 (.slice a' 512 c') 512 (u8s (ct P bc k)) ∧ Below w.heap.size w w' := by
  obtain ⟨c2, c3, c4, c5, c6, c7, c8, c9⟩ := superCells h
  have HH := has_any w b i 1 2 68 69 (planT b) (planD b i) k
  have e : (decide (0 ≤ (k : Int)) && decide ((k : Int) < b)) = true := by simp [hkb]
  rw [e] at HH
  replace HH := hid HH
  have HL := hid (fun (W : World) (hb : Below w.heap.size w W) => look_any (h.later hb) (hB.later hb) k hk hN hlk)
  clear h hB e
  go_enter Tryz.func33, Tryz.ntmps33
  go_wp2_with fail
  refine HH.out.mono ?_
  rintro e w1 ⟨rfl, hb1⟩
  have HB1 := hid hb1
  have HL1 := hid (HL.out w1 hb1)
  clear hb1 HH HL c2 c3 c4 c5 c6 c7 c8 c9
  go_wp2_with fail
  refine HL1.out.mono ?_
  rintro e w2 ⟨a2, c2, rfl, hy2, _, hb2⟩
  have HB2 : Hid (Below w.heap.size w w2) := hid (HB1.out.trans (hb2.mono HB1.out.size))
  have HCL := hid (Clone_any w2 _ (some a2) 512 c2 (ct P bc k) hlen (by decide) (by decide) hy2)
  clear hy2 hb2 HL1
  go_wp2_with fail
  refine HCL.out.mono ?_
  rintro e w3 ⟨a3, c3, rfl, _, _, hb3, ho3⟩
  have HO3 := hid ho3
  have HB3 : Hid (Below w.heap.size w w3) := hid (HB2.out.trans (hb3.mono HB2.out.size))
  clear hb3 ho3 HCL
  go_wp2
  go_ret2
  exact ⟨a3, c3, rfl, owns_base HO3.out (fun g hg => Nat.le_trans HB2.out.size (owns_lt HO3.out hg).2), HB3.out⟩
end Go.Proofs.YtaplmlldmhdhoaaGreatDoor

/- The library's sorting of a map's keys, as it is laid at this program: maps.Keys, slices.Sorted, slices.Sort. -/
namespace Go.Proofs
open Go.Shelf
def Tryz.keysD_ren : Go.Shelf.Ren := ⟨fun | 7 => 98 | 10 => 104 | n => n, fun | 23 => 123 | 26 => 3 | 3 => 59 | 28 => 202 | 0 => 0 | 27 => 201 | 33 => 62 | 4 => 4 | n => n, fun | n => n⟩
theorem Tryz.keysD : Go.Proofs.SlLaysZI.n7 Tryz.prog Tryz.keysD_ren := {
  mixed := by kernel_rfl
  f7 := ⟨Tryz.f98.name, by decide, Tryz.func98.trans (congrArg some (by kernel_rfl))⟩
  f10 := ⟨Tryz.f104.name, by decide, Tryz.func104.trans (congrArg some (by kernel_rfl))⟩
  t0 := Tryz.underlying0
  a0 := Tryz.isAgg0
  z0 := Tryz.sizeOf0
  v0 := Tryz.zeroValue0
  t4 := Tryz.underlying4
  a4 := Tryz.isAgg4
  z4 := Tryz.sizeOf4
  v4 := Tryz.zeroValue4
  t23 := Tryz.underlying123
  a23 := Tryz.isAgg123
  z23 := Tryz.sizeOf123
  v23 := Tryz.zeroValue123
  t26 := Tryz.underlying3
  a26 := Tryz.isAgg3
  z26 := Tryz.sizeOf3
  v26 := Tryz.zeroValue3
  t27 := Tryz.underlying201
  a27 := Tryz.isAgg201
  z27 := Tryz.sizeOf201
  v27 := Tryz.zeroValue201
  t28 := Tryz.underlying202
  a28 := Tryz.isAgg202
  z28 := Tryz.sizeOf202
  v28 := Tryz.zeroValue202
  t33 := Tryz.underlying62
  a33 := Tryz.isAgg62
  z33 := Tryz.sizeOf62
  v33 := Tryz.zeroValue62 }
def Tryz.sortedA_ren : Go.Shelf.Ren := ⟨fun | 6 => 97 | 8 => 102 | 9 => 103 | 11 => 108 | 13 => 110 | 12 => 109 | 23 => 123 | 24 => 124 | 14 => 114 | 15 => 115 | 16 => 116 | 17 => 117 | 18 => 118 | 19 => 119 | 20 => 120 | 21 => 121 | 22 => 122 | 25 => 126 | 26 => 127 | 27 => 128 | 28 => 129 | 29 => 130 | 30 => 131 | 31 => 132 | n => n, fun | 26 => 3 | 28 => 202 | 24 => 22 | 0 => 0 | 3 => 3 | 37 => 174 | 48 => 25 | 50 => 26 | 4 => 4 | 40 => 221 | 39 => 220 | 45 => 226 | 5 => 5 | 9 => 9 | 51 => 231 | 55 => 235 | 57 => 237 | 58 => 78 | 33 => 62 | n => n, fun | n => n⟩
theorem Tryz.sortedA : Go.Proofs.SlLaysZI.n6 Tryz.prog Tryz.sortedA_ren := {
  mixed := by kernel_rfl
  f6 := ⟨Tryz.f97.name, by decide, Tryz.func97.trans (congrArg some (by kernel_rfl))⟩
  f8 := ⟨Tryz.f102.name, by decide, Tryz.func102.trans (congrArg some (by kernel_rfl))⟩
  f11 := ⟨Tryz.f108.name, by decide, Tryz.func108.trans (congrArg some (by kernel_rfl))⟩
  t0 := Tryz.underlying0
  a0 := Tryz.isAgg0
  z0 := Tryz.sizeOf0
  v0 := Tryz.zeroValue0
  t24 := Tryz.underlying22
  a24 := Tryz.isAgg22
  z24 := Tryz.sizeOf22
  v24 := Tryz.zeroValue22
  t26 := Tryz.underlying3
  a26 := Tryz.isAgg3
  z26 := Tryz.sizeOf3
  v26 := Tryz.zeroValue3
  t28 := Tryz.underlying202
  a28 := Tryz.isAgg202
  z28 := Tryz.sizeOf202
  v28 := Tryz.zeroValue202
  i26 := by kernel_rfl }
def Tryz.sortA_ren : Go.Shelf.Ren := ⟨fun | 5 => 103 | 8 => 110 | 7 => 109 | 19 => 123 | 20 => 124 | 10 => 114 | 11 => 115 | 12 => 116 | 13 => 117 | 14 => 118 | 15 => 119 | 16 => 120 | 17 => 121 | 18 => 122 | 30 => 126 | 31 => 127 | 32 => 128 | 33 => 129 | 34 => 130 | 35 => 131 | 40 => 132 | n => n, fun | 23 => 22 | 25 => 3 | 3 => 3 | 32 => 174 | 22 => 22 | 0 => 0 | 44 => 25 | 46 => 26 | 4 => 4 | 36 => 221 | 35 => 220 | 41 => 226 | 5 => 5 | 9 => 9 | 53 => 231 | 57 => 235 | 63 => 237 | 64 => 78 | n => n, fun | n => n⟩
theorem Tryz.sortA : Go.Proofs.SlLaysM.n5 Tryz.prog Tryz.sortA_ren := {
  mixed := by kernel_rfl
  f5 := ⟨Tryz.f103.name, by decide, Tryz.func103.trans (congrArg some (by kernel_rfl))⟩
  f7 := ⟨Tryz.f109.name, by decide, Tryz.func109.trans (congrArg some (by kernel_rfl))⟩
  f8 := Tryz.func110.trans (congrArg some (by kernel_rfl))
  f10 := ⟨Tryz.f114.name, by decide, Tryz.func114.trans (congrArg some (by kernel_rfl))⟩
  f11 := ⟨Tryz.f115.name, by decide, Tryz.func115.trans (congrArg some (by kernel_rfl))⟩
  f12 := ⟨Tryz.f116.name, by decide, Tryz.func116.trans (congrArg some (by kernel_rfl))⟩
  f13 := ⟨Tryz.f117.name, by decide, Tryz.func117.trans (congrArg some (by kernel_rfl))⟩
  f14 := ⟨Tryz.f118.name, by decide, Tryz.func118.trans (congrArg some (by kernel_rfl))⟩
  f15 := ⟨Tryz.f119.name, by decide, Tryz.func119.trans (congrArg some (by kernel_rfl))⟩
  f16 := ⟨Tryz.f120.name, by decide, Tryz.func120.trans (congrArg some (by kernel_rfl))⟩
  f17 := ⟨Tryz.f121.name, by decide, Tryz.func121.trans (congrArg some (by kernel_rfl))⟩
  f18 := ⟨Tryz.f122.name, by decide, Tryz.func122.trans (congrArg some (by kernel_rfl))⟩
  f19 := Tryz.func123.trans (congrArg some (by kernel_rfl))
  f20 := Tryz.func124.trans (congrArg some (by kernel_rfl))
  f30 := ⟨Tryz.f126.name, by decide, Tryz.func126.trans (congrArg some (by kernel_rfl))⟩
  f31 := Tryz.func127.trans (congrArg some (by kernel_rfl))
  f32 := Tryz.func128.trans (congrArg some (by kernel_rfl))
  f33 := ⟨Tryz.f129.name, by decide, Tryz.func129.trans (congrArg some (by kernel_rfl))⟩
  f34 := ⟨Tryz.f130.name, by decide, Tryz.func130.trans (congrArg some (by kernel_rfl))⟩
  f35 := ⟨Tryz.f131.name, by decide, Tryz.func131.trans (congrArg some (by kernel_rfl))⟩
  f40 := ⟨Tryz.f132.name, by decide, Tryz.func132.trans (congrArg some (by kernel_rfl))⟩
  t0 := Tryz.underlying0
  a0 := Tryz.isAgg0
  z0 := Tryz.sizeOf0
  v0 := Tryz.zeroValue0
  t3 := Tryz.underlying3
  a3 := Tryz.isAgg3
  z3 := Tryz.sizeOf3
  v3 := Tryz.zeroValue3
  t4 := Tryz.underlying4
  a4 := Tryz.isAgg4
  z4 := Tryz.sizeOf4
  v4 := Tryz.zeroValue4
  t5 := Tryz.underlying5
  a5 := Tryz.isAgg5
  z5 := Tryz.sizeOf5
  v5 := Tryz.zeroValue5
  t9 := Tryz.underlying9
  a9 := Tryz.isAgg9
  z9 := Tryz.sizeOf9
  v9 := Tryz.zeroValue9
  t22 := Tryz.underlying22
  a22 := Tryz.isAgg22
  z22 := Tryz.sizeOf22
  v22 := Tryz.zeroValue22
  t23 := Tryz.underlying22
  a23 := Tryz.isAgg22
  z23 := Tryz.sizeOf22
  v23 := Tryz.zeroValue22
  t25 := Tryz.underlying3
  a25 := Tryz.isAgg3
  z25 := Tryz.sizeOf3
  v25 := Tryz.zeroValue3
  t32 := Tryz.underlying174
  a32 := Tryz.isAgg174
  z32 := Tryz.sizeOf174
  v32 := Tryz.zeroValue174
  t35 := Tryz.underlying220
  a35 := Tryz.isAgg220
  z35 := Tryz.sizeOf220
  v35 := Tryz.zeroValue220
  t36 := Tryz.underlying221
  a36 := Tryz.isAgg221
  z36 := Tryz.sizeOf221
  v36 := Tryz.zeroValue221
  t41 := Tryz.underlying226
  a41 := Tryz.isAgg226
  z41 := Tryz.sizeOf226
  v41 := Tryz.zeroValue226
  t44 := Tryz.underlying25
  a44 := Tryz.isAgg25
  z44 := Tryz.sizeOf25
  v44 := Tryz.zeroValue25
  t46 := Tryz.underlying26
  a46 := Tryz.isAgg26
  z46 := Tryz.sizeOf26
  v46 := Tryz.zeroValue26
  t53 := Tryz.underlying231
  a53 := Tryz.isAgg231
  z53 := Tryz.sizeOf231
  v53 := Tryz.zeroValue231
  t57 := Tryz.underlying235
  a57 := Tryz.isAgg235
  z57 := Tryz.sizeOf235
  v57 := Tryz.zeroValue235
  t63 := Tryz.underlying237
  a63 := Tryz.isAgg237
  z63 := Tryz.sizeOf237
  v63 := Tryz.zeroValue237
  t64 := Tryz.underlying78
  a64 := Tryz.isAgg78
  z64 := Tryz.sizeOf78
  v64 := Tryz.zeroValue78 }
end Go.Proofs
