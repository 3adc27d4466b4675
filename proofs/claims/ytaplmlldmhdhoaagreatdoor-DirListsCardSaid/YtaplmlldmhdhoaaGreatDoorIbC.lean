/- find. -/
import Derived.Test.YtaplmlldmhdhoaaGreatDoorIbB
namespace Go.Proofs.YtaplmlldmhdhoaaGreatDoor
open Go.RowKit Go.Maps
set_option linter.unusedVariables false

/-- A file at work: its view, its size, its pointers. -/
structure FileIs (A : Array Value) (pd : Nat) (size : Int) (ptr : Nat → Nat) : Prop where
  sz : A.size = 24
  view : A[0]? = some (ptrV pd)
  len : A[7]? = some (.int .u64 size)
  ptr : ∀ j, j < 9 → A[15 + j]? = some (n64 (ptr j))
/-- What find comes to. -/
def findF (c : Nat → List Int) (ptr : Nat → Nat) (k : Nat) : Fr :=
  if k < 6 then comeF k k 0 k (ptr k) 1
  else if k < 134 then stepF c k (k - 6) (comeF k (k - 6) 0 6 (ptr 6) 128) 1
  else if k < 16518 then stepF c k (k - 134) (stepF c k (k - 134) (comeF k (k - 134) 0 7 (ptr 7) 16384) 128) 1
  else stepF c k (k - 16518) (stepF c k (k - 16518) (stepF c k (k - 16518) (comeF k (k - 16518) 0 8 (ptr 8) 2097152) 16384) 128) 1
/-- The blocks of pointers on the way are blocks. -/
def FindOk (c : Nat → List Int) (ptr : Nat → Nat) (N k : Nat) : Prop :=
  (6 ≤ k → k < 134 → ∀ a, comeF k (k - 6) 0 6 (ptr 6) 128 = .ok a → a < N) ∧
  (134 ≤ k → k < 16518 → (∀ a, comeF k (k - 134) 0 7 (ptr 7) 16384 = .ok a → a < N) ∧ (∀ a, stepF c k (k - 134) (comeF k (k - 134) 0 7 (ptr 7) 16384) 128 = .ok a → a < N)) ∧
  (16518 ≤ k → (∀ a, comeF k (k - 16518) 0 8 (ptr 8) 2097152 = .ok a → a < N) ∧ (∀ a, stepF c k (k - 16518) (comeF k (k - 16518) 0 8 (ptr 8) 2097152) 16384 = .ok a → a < N) ∧ (∀ a, stepF c k (k - 16518) (stepF c k (k - 16518) (comeF k (k - 16518) 0 8 (ptr 8) 2097152) 16384) 128 = .ok a → a < N))
/-- What find answers. -/
def FrE (w : World) (lo : Nat) (r : Fr) (e : Ending) : Prop :=
  match r with
  | .ok a => e = .returned (.tuple #[n64 a, .nilIface])
  | .error (b, s, x) => ∃ ph, e = .returned (.tuple #[n64 0, .iface 178 (ptrV ph)]) ∧ w.heap[ph]? = some (.cells #[n64 2, n64 b, n64 s, n64 x] 181 (0, 0)) ∧ lo ≤ ph
theorem WkR.cells {w : World} {pw pd k place lo : Nat} {r : Fr} (h : WkR w pw pd k place lo r) : ∃ (a : Nat) (ev : Value), w.cell? ⟨pw, 3, none⟩ = some (n64 a) ∧ w.cell? ⟨pw, 4, none⟩ = some ev ∧ FrE w lo r (.returned (.tuple #[n64 a, ev])) ∧ (ev = .nilIface ∨ ∃ ph, ev = .iface 178 (ptrV ph)) := by
  match r, h with
  | .ok a, h => exact ⟨a, _, cell_of h rfl, cell_of h rfl, rfl, .inl rfl⟩
  | .error (b, s, x), ⟨ph, h1, h2, h3⟩ => exact ⟨0, _, cell_of h1 rfl, cell_of h1 rfl, ⟨ph, rfl, h2, h3⟩, .inr ⟨ph, rfl⟩⟩
set_option maxRecDepth 100000 in
set_option maxHeartbeats 4000000 in
theorem find_0 {w : World} {pd n N : Nat} {S T : Nat → Prop} {i : Int} {base : Value} {P : Int → Option (List Int)} {bc c : Nat → List Int} (hD : Dw w pd S N i base T bc n P c) (pf : Nat) (A : Array Value) (size : Int) (ptr : Nat → Nat) (hA : w.heap[pf]? = some (.cells A 135 (0, 0))) (hF : FileIs A pd size ptr) (k : Nat) (hk : k < 6) :
    Calls Tryz.prog 79 #[ptrV pf, n64 k] w fun e w' => FrE w' w.heap.size (findF c ptr k) e ∧ Below w.heap.size w w' := by
  have hE : findF c ptr k = comeF k k 0 k (ptr k) 1 := by unfold findF; rw [if_pos hk]
  rw [hE]
  have HDO := depthOf_any w k (by omega)
  have d0 : depF k = 0 := by unfold depF; rw [if_pos hk]
  have p0 : plcF k = k := by unfold plcF; rw [if_pos hk]
  rw [d0, p0] at HDO
  replace HDO := hid HDO
  have hplk : k ≤ k := Nat.le_refl _
  obtain ⟨W1, hW1⟩ : ∃ W, W = w.alloc (.cells #[ptrV pd, n64 k, n64 k, .int .i64 0, .nilIface] 197) := ⟨_, rfl⟩
  have hb1 : Below w.heap.size w W1 := by rw [hW1]; exact (Below.refl _ _).alloc (Nat.le_refl _) _
  have h1 : W1.heap[w.heap.size]? = some (.cells #[ptrV pd, n64 k, n64 k, n64 (0 : Nat), .nilIface] 197 (0, 0)) := by rw [hW1]; exact alloc_new w _
  have f0 : w.cell? ⟨pf, 0, none⟩ = some (ptrV pd) := cell_of hA hF.view
  have hA1 := (hb1.block pf (Array.getElem?_eq_some_iff.1 hA).1).trans hA
  have HPF : Hid (pf < w.heap.size) := hid (Array.getElem?_eq_some_iff.1 hA).1
  have f1 : W1.cell? ⟨pf, 15 + k, none⟩ = some (n64 (ptr k)) := cell_of hA1 (hF.ptr k (by omega))
  have hlt : (k : Int) < 9 := by omega
  have hlt2 : k < 9 := by omega
  have HCO := hid (fun (j : Nat) => come_any (W1.drewN j) w.heap.size pd k k 0 0 k (ptr k) 1 h1 (by omega) (by omega) (by omega) hplk)
  have HB1 := hid hb1
  have HD1 := hid (hD.later hb1)
  have HOFF : Hid (∀ g, S g ∨ T g → ¬ g = w.heap.size) := hid (fun g hg e => by subst e; rcases hg with h | h; exact absurd (hD.s _ h) (Nat.lt_irrefl _); exact absurd (hD.t.lt h) (Nat.lt_irrefl _))
  obtain ⟨L, hL⟩ : ∃ L, ptr k = L := ⟨_, rfl⟩
  rw [hL] at f1 HCO  ⊢
  have HKK := hid (And.intro hk hplk)
  clear d0 p0 hA hA1 hF h1 hb1 hD hL hE 
  go_enter Tryz.func79, Tryz.ntmps79
  go_wp2_with fail
  refine HDO.out.mono ?_
  rintro e w1 ⟨rfl, hw1⟩
  rw [hw1]
  clear hw1 HDO
  go_wp2_with (first | (rw [← hW1]; clear hW1))
  refine (HCO.out 0).mono ?_
  rintro e w2 ⟨rfl, hk2, hm2⟩
  have HM2 : Hid (Mods (fun g => g = w.heap.size) W1 w2) := hid hm2
  have HK2 : Hid (WkR w2 w.heap.size pd k k w.heap.size _) := hid (hk2.mono HB1.out.size)
  clear hk2 hm2 HCO f1
  obtain ⟨a, ev, c3, c4, hr, hev⟩ := HK2.out.cells
  have HR := hid hr
  have HBB : Hid (Below w.heap.size w w2) := hid (HM2.out.to_below HB1.out HB1.out.size (fun b hb => by omega))
  clear hr
  rcases hev with rfl | ⟨ph, rfl⟩
  all_goals
    go_wp2_with fail
    go_quiet (fail)
    go_wp2
    go_ret2
    exact ⟨HR.out, below_drewN HBB.out _⟩
set_option maxRecDepth 100000 in
set_option maxHeartbeats 4000000 in
theorem find_1 {w : World} {pd n N : Nat} {S T : Nat → Prop} {i : Int} {base : Value} {P : Int → Option (List Int)} {bc c : Nat → List Int} (hD : Dw w pd S N i base T bc n P c) (pf : Nat) (A : Array Value) (size : Int) (ptr : Nat → Nat) (hA : w.heap[pf]? = some (.cells A 135 (0, 0))) (hF : FileIs A pd size ptr) (k : Nat) (hk0 : 6 ≤ k) (hk : k < 134) (ho : ∀ a, comeF k (k - 6) 0 6 (ptr 6) 128 = .ok a → a < N) :
    Calls Tryz.prog 79 #[ptrV pf, n64 k] w fun e w' => FrE w' w.heap.size (findF c ptr k) e ∧ Below w.heap.size w w' := by
  have hE : findF c ptr k = stepF c k (k - 6) (comeF k (k - 6) 0 6 (ptr 6) 128) 1 := by unfold findF; rw [if_neg (by omega), if_pos hk]
  rw [hE]
  have HDO := depthOf_any w k (by omega)
  have d0 : depF k = 1 := by unfold depF; rw [if_neg (by omega), if_pos hk]
  have p0 : plcF k = (k - 6) := by unfold plcF; rw [if_neg (by omega), if_pos hk]
  rw [d0, p0] at HDO
  replace HDO := hid HDO
  obtain ⟨pl, hpl⟩ : ∃ pl, pl = (k - 6) := ⟨_, rfl⟩
  rw [← hpl] at HDO ho ⊢
  have hplk : pl ≤ k := by omega
  obtain ⟨W1, hW1⟩ : ∃ W, W = w.alloc (.cells #[ptrV pd, n64 k, n64 pl, .int .i64 0, .nilIface] 197) := ⟨_, rfl⟩
  have hb1 : Below w.heap.size w W1 := by rw [hW1]; exact (Below.refl _ _).alloc (Nat.le_refl _) _
  have h1 : W1.heap[w.heap.size]? = some (.cells #[ptrV pd, n64 k, n64 pl, n64 (0 : Nat), .nilIface] 197 (0, 0)) := by rw [hW1]; exact alloc_new w _
  have f0 : w.cell? ⟨pf, 0, none⟩ = some (ptrV pd) := cell_of hA hF.view
  have hA1 := (hb1.block pf (Array.getElem?_eq_some_iff.1 hA).1).trans hA
  have HPF : Hid (pf < w.heap.size) := hid (Array.getElem?_eq_some_iff.1 hA).1
  have f1 : W1.cell? ⟨pf, 21, none⟩ = some (n64 (ptr 6)) := cell_of hA1 (hF.ptr 6 (by omega))
  have HCO := hid (fun (j : Nat) => come_any (W1.drewN j) w.heap.size pd k pl 0 0 6 (ptr 6) 128 h1 (by omega) (by omega) (by omega) hplk)
  have HB1 := hid hb1
  have HD1 := hid (hD.later hb1)
  have HOFF : Hid (∀ g, S g ∨ T g → ¬ g = w.heap.size) := hid (fun g hg e => by subst e; rcases hg with h | h; exact absurd (hD.s _ h) (Nat.lt_irrefl _); exact absurd (hD.t.lt h) (Nat.lt_irrefl _))
  have HSP := hid (fun W => span_any W 1 (by omega))
  have HO := hid ho
  obtain ⟨L, hL⟩ : ∃ L, ptr 6 = L := ⟨_, rfl⟩
  rw [hL] at f1 HCO HO ⊢
  have HKK := hid (And.intro hk hplk)
  clear d0 p0 hA hA1 hF h1 hb1 hD hL hE hk0 hpl ho
  go_enter Tryz.func79, Tryz.ntmps79
  go_wp2_with fail
  refine HDO.out.mono ?_
  rintro e w1 ⟨rfl, hw1⟩
  rw [hw1]
  clear hw1 HDO
  go_wp2_with (first | (rw [← hW1]; clear hW1))
  go_region_held3 (fun w' => w'.cell? ⟨pf, 21, none⟩ = some (n64 L)) ((first | exact f1 | exact HS2.out)) ((first | (go_at_call 95; refine (HSP.out _).mono ?_; rintro e w3 ⟨rfl, hw3⟩; rw [hw3]; clear hw3) | (go_at_call 94; refine (HCO.out 1).mono ?_; rintro e w2 ⟨rfl, hk2, hm2⟩; have HS2 : Hid (w2.cell? ⟨pf, 21, none⟩ = some (n64 L)) := hid (hm2.cell (w := W1.drewN 1) f1 (fun e => by have := HPF.out; omega)))))
  have HM2 : Hid (Mods (fun g => g = w.heap.size) W1 w2) := hid ((Mods.of_below (below_drewN (Below.refl W1.heap.size W1) 1)).tr hm2)
  have HK2 : Hid (WkR w2 w.heap.size pd k pl w.heap.size _) := hid (hk2.mono HB1.out.size)
  clear hk2 hm2 HCO f1
  have HST0 := hid (step_any (HD1.out.mods HM2.out HOFF.out) w.heap.size k pl w.heap.size _ HK2.out (Nat.le_trans HB1.out.size HM2.out.size) 1 (by omega) (by omega) (by have := HKK.out.1; omega) HKK.out.2 HO.out)
  go_wp2_with fail
  refine HST0.out.mono ?_
  rintro e w3 ⟨rfl, hk3, hm3⟩
  have HK3 := hid hk3
  have HM3 := hid (HM2.out.tr hm3)
  clear hk3 hm3 HST0
  obtain ⟨a, ev, c3, c4, hr, hev⟩ := HK3.out.cells
  have HR := hid hr
  have HBB : Hid (Below w.heap.size w w3) := hid (HM3.out.to_below HB1.out HB1.out.size (fun b hb => by omega))
  clear hr
  rcases hev with rfl | ⟨ph, rfl⟩
  all_goals
    go_wp2_with fail
    go_quiet (fail)
    go_wp2
    go_ret2
    exact ⟨HR.out, below_drewN HBB.out _⟩
set_option maxRecDepth 100000 in
set_option maxHeartbeats 4000000 in
theorem find_2 {w : World} {pd n N : Nat} {S T : Nat → Prop} {i : Int} {base : Value} {P : Int → Option (List Int)} {bc c : Nat → List Int} (hD : Dw w pd S N i base T bc n P c) (pf : Nat) (A : Array Value) (size : Int) (ptr : Nat → Nat) (hA : w.heap[pf]? = some (.cells A 135 (0, 0))) (hF : FileIs A pd size ptr) (k : Nat) (hk0 : 134 ≤ k) (hk : k < 16518) (ho : ∀ a, comeF k (k - 134) 0 7 (ptr 7) 16384 = .ok a → a < N) (ho1 : ∀ a, stepF c k (k - 134) (comeF k (k - 134) 0 7 (ptr 7) 16384) 128 = .ok a → a < N) :
    Calls Tryz.prog 79 #[ptrV pf, n64 k] w fun e w' => FrE w' w.heap.size (findF c ptr k) e ∧ Below w.heap.size w w' := by
  have hE : findF c ptr k = stepF c k (k - 134) (stepF c k (k - 134) (comeF k (k - 134) 0 7 (ptr 7) 16384) 128) 1 := by unfold findF; rw [if_neg (by omega), if_neg (by omega), if_pos hk]
  rw [hE]
  have HDO := depthOf_any w k (by omega)
  have d0 : depF k = 2 := by unfold depF; rw [if_neg (by omega), if_neg (by omega), if_pos hk]
  have p0 : plcF k = (k - 134) := by unfold plcF; rw [if_neg (by omega), if_neg (by omega), if_pos hk]
  rw [d0, p0] at HDO
  replace HDO := hid HDO
  obtain ⟨pl, hpl⟩ : ∃ pl, pl = (k - 134) := ⟨_, rfl⟩
  rw [← hpl] at HDO ho ho1 ⊢
  have hplk : pl ≤ k := by omega
  obtain ⟨W1, hW1⟩ : ∃ W, W = w.alloc (.cells #[ptrV pd, n64 k, n64 pl, .int .i64 0, .nilIface] 197) := ⟨_, rfl⟩
  have hb1 : Below w.heap.size w W1 := by rw [hW1]; exact (Below.refl _ _).alloc (Nat.le_refl _) _
  have h1 : W1.heap[w.heap.size]? = some (.cells #[ptrV pd, n64 k, n64 pl, n64 (0 : Nat), .nilIface] 197 (0, 0)) := by rw [hW1]; exact alloc_new w _
  have f0 : w.cell? ⟨pf, 0, none⟩ = some (ptrV pd) := cell_of hA hF.view
  have hA1 := (hb1.block pf (Array.getElem?_eq_some_iff.1 hA).1).trans hA
  have HPF : Hid (pf < w.heap.size) := hid (Array.getElem?_eq_some_iff.1 hA).1
  have f1 : W1.cell? ⟨pf, 22, none⟩ = some (n64 (ptr 7)) := cell_of hA1 (hF.ptr 7 (by omega))
  have HCO := hid (fun (j : Nat) => come_any (W1.drewN j) w.heap.size pd k pl 0 0 7 (ptr 7) 16384 h1 (by omega) (by omega) (by omega) hplk)
  have HB1 := hid hb1
  have HD1 := hid (hD.later hb1)
  have HOFF : Hid (∀ g, S g ∨ T g → ¬ g = w.heap.size) := hid (fun g hg e => by subst e; rcases hg with h | h; exact absurd (hD.s _ h) (Nat.lt_irrefl _); exact absurd (hD.t.lt h) (Nat.lt_irrefl _))
  have HSP := hid (fun W => span_any W 2 (by omega))
  have HO := hid ho
  have HO1 := hid ho1
  obtain ⟨L, hL⟩ : ∃ L, ptr 7 = L := ⟨_, rfl⟩
  rw [hL] at f1 HCO HO HO1 ⊢
  have HKK := hid (And.intro hk hplk)
  clear d0 p0 hA hA1 hF h1 hb1 hD hL hE hk0 hpl ho ho1
  go_enter Tryz.func79, Tryz.ntmps79
  go_wp2_with fail
  refine HDO.out.mono ?_
  rintro e w1 ⟨rfl, hw1⟩
  rw [hw1]
  clear hw1 HDO
  go_wp2_with (first | (rw [← hW1]; clear hW1))
  go_region_held3 (fun w' => w'.cell? ⟨pf, 22, none⟩ = some (n64 L)) ((first | exact f1 | exact HS2.out)) ((first | (go_at_call 95; refine (HSP.out _).mono ?_; rintro e w3 ⟨rfl, hw3⟩; rw [hw3]; clear hw3) | (go_at_call 94; refine (HCO.out 1).mono ?_; rintro e w2 ⟨rfl, hk2, hm2⟩; have HS2 : Hid (w2.cell? ⟨pf, 22, none⟩ = some (n64 L)) := hid (hm2.cell (w := W1.drewN 1) f1 (fun e => by have := HPF.out; omega)))))
  have HM2 : Hid (Mods (fun g => g = w.heap.size) W1 w2) := hid ((Mods.of_below (below_drewN (Below.refl W1.heap.size W1) 1)).tr hm2)
  have HK2 : Hid (WkR w2 w.heap.size pd k pl w.heap.size _) := hid (hk2.mono HB1.out.size)
  clear hk2 hm2 HCO f1
  have HST0 := hid (step_any (HD1.out.mods HM2.out HOFF.out) w.heap.size k pl w.heap.size _ HK2.out (Nat.le_trans HB1.out.size HM2.out.size) 128 (by omega) (by omega) (by have := HKK.out.1; omega) HKK.out.2 HO.out)
  go_wp2_with fail
  refine HST0.out.mono ?_
  rintro e w3 ⟨rfl, hk3, hm3⟩
  have HK3 := hid hk3
  have HM3 := hid (HM2.out.tr hm3)
  clear hk3 hm3 HST0
  have HST1 := hid (step_any (HD1.out.mods HM3.out HOFF.out) w.heap.size k pl w.heap.size _ HK3.out (Nat.le_trans HB1.out.size HM3.out.size) 1 (by omega) (by omega) (by have := HKK.out.1; omega) HKK.out.2 HO1.out)
  go_wp2_with fail
  refine HST1.out.mono ?_
  rintro e w4 ⟨rfl, hk4, hm4⟩
  have HK4 := hid hk4
  have HM4 := hid (HM3.out.tr hm4)
  clear hk4 hm4 HST1
  obtain ⟨a, ev, c3, c4, hr, hev⟩ := HK4.out.cells
  have HR := hid hr
  have HBB : Hid (Below w.heap.size w w4) := hid (HM4.out.to_below HB1.out HB1.out.size (fun b hb => by omega))
  clear hr
  rcases hev with rfl | ⟨ph, rfl⟩
  all_goals
    go_wp2_with fail
    go_quiet (fail)
    go_wp2
    go_ret2
    exact ⟨HR.out, below_drewN HBB.out _⟩
set_option maxRecDepth 100000 in
set_option maxHeartbeats 4000000 in
theorem find_3 {w : World} {pd n N : Nat} {S T : Nat → Prop} {i : Int} {base : Value} {P : Int → Option (List Int)} {bc c : Nat → List Int} (hD : Dw w pd S N i base T bc n P c) (pf : Nat) (A : Array Value) (size : Int) (ptr : Nat → Nat) (hA : w.heap[pf]? = some (.cells A 135 (0, 0))) (hF : FileIs A pd size ptr) (k : Nat) (hk0 : 16518 ≤ k) (hk : k < 100000000) (ho : ∀ a, comeF k (k - 16518) 0 8 (ptr 8) 2097152 = .ok a → a < N) (ho1 : ∀ a, stepF c k (k - 16518) (comeF k (k - 16518) 0 8 (ptr 8) 2097152) 16384 = .ok a → a < N) (ho2 : ∀ a, stepF c k (k - 16518) (stepF c k (k - 16518) (comeF k (k - 16518) 0 8 (ptr 8) 2097152) 16384) 128 = .ok a → a < N) :
    Calls Tryz.prog 79 #[ptrV pf, n64 k] w fun e w' => FrE w' w.heap.size (findF c ptr k) e ∧ Below w.heap.size w w' := by
  have hE : findF c ptr k = stepF c k (k - 16518) (stepF c k (k - 16518) (stepF c k (k - 16518) (comeF k (k - 16518) 0 8 (ptr 8) 2097152) 16384) 128) 1 := by unfold findF; rw [if_neg (by omega), if_neg (by omega), if_neg (by omega)]
  rw [hE]
  have HDO := depthOf_any w k (by omega)
  have d0 : depF k = 3 := by unfold depF; rw [if_neg (by omega), if_neg (by omega), if_neg (by omega)]
  have p0 : plcF k = (k - 16518) := by unfold plcF; rw [if_neg (by omega), if_neg (by omega), if_neg (by omega)]
  rw [d0, p0] at HDO
  replace HDO := hid HDO
  obtain ⟨pl, hpl⟩ : ∃ pl, pl = (k - 16518) := ⟨_, rfl⟩
  rw [← hpl] at HDO ho ho1 ho2 ⊢
  have hplk : pl ≤ k := by omega
  obtain ⟨W1, hW1⟩ : ∃ W, W = w.alloc (.cells #[ptrV pd, n64 k, n64 pl, .int .i64 0, .nilIface] 197) := ⟨_, rfl⟩
  have hb1 : Below w.heap.size w W1 := by rw [hW1]; exact (Below.refl _ _).alloc (Nat.le_refl _) _
  have h1 : W1.heap[w.heap.size]? = some (.cells #[ptrV pd, n64 k, n64 pl, n64 (0 : Nat), .nilIface] 197 (0, 0)) := by rw [hW1]; exact alloc_new w _
  have f0 : w.cell? ⟨pf, 0, none⟩ = some (ptrV pd) := cell_of hA hF.view
  have hA1 := (hb1.block pf (Array.getElem?_eq_some_iff.1 hA).1).trans hA
  have HPF : Hid (pf < w.heap.size) := hid (Array.getElem?_eq_some_iff.1 hA).1
  have f1 : W1.cell? ⟨pf, 23, none⟩ = some (n64 (ptr 8)) := cell_of hA1 (hF.ptr 8 (by omega))
  have HCO := hid (fun (j : Nat) => come_any (W1.drewN j) w.heap.size pd k pl 0 0 8 (ptr 8) 2097152 h1 (by omega) (by omega) (by omega) hplk)
  have HB1 := hid hb1
  have HD1 := hid (hD.later hb1)
  have HOFF : Hid (∀ g, S g ∨ T g → ¬ g = w.heap.size) := hid (fun g hg e => by subst e; rcases hg with h | h; exact absurd (hD.s _ h) (Nat.lt_irrefl _); exact absurd (hD.t.lt h) (Nat.lt_irrefl _))
  have HSP := hid (fun W => span_any W 3 (by omega))
  have HO := hid ho
  have HO1 := hid ho1
  have HO2 := hid ho2
  obtain ⟨L, hL⟩ : ∃ L, ptr 8 = L := ⟨_, rfl⟩
  rw [hL] at f1 HCO HO HO1 HO2 ⊢
  have HKK := hid (And.intro hk hplk)
  clear d0 p0 hA hA1 hF h1 hb1 hD hL hE hk0 hpl ho ho1 ho2
  go_enter Tryz.func79, Tryz.ntmps79
  go_wp2_with fail
  refine HDO.out.mono ?_
  rintro e w1 ⟨rfl, hw1⟩
  rw [hw1]
  clear hw1 HDO
  go_wp2_with (first | (rw [← hW1]; clear hW1))
  go_region_held3 (fun w' => w'.cell? ⟨pf, 23, none⟩ = some (n64 L)) ((first | exact f1 | exact HS2.out)) ((first | (go_at_call 95; refine (HSP.out _).mono ?_; rintro e w3 ⟨rfl, hw3⟩; rw [hw3]; clear hw3) | (go_at_call 94; refine (HCO.out 1).mono ?_; rintro e w2 ⟨rfl, hk2, hm2⟩; have HS2 : Hid (w2.cell? ⟨pf, 23, none⟩ = some (n64 L)) := hid (hm2.cell (w := W1.drewN 1) f1 (fun e => by have := HPF.out; omega)))))
  have HM2 : Hid (Mods (fun g => g = w.heap.size) W1 w2) := hid ((Mods.of_below (below_drewN (Below.refl W1.heap.size W1) 1)).tr hm2)
  have HK2 : Hid (WkR w2 w.heap.size pd k pl w.heap.size _) := hid (hk2.mono HB1.out.size)
  clear hk2 hm2 HCO f1
  have HST0 := hid (step_any (HD1.out.mods HM2.out HOFF.out) w.heap.size k pl w.heap.size _ HK2.out (Nat.le_trans HB1.out.size HM2.out.size) 16384 (by omega) (by omega) (by have := HKK.out.1; omega) HKK.out.2 HO.out)
  go_wp2_with fail
  refine HST0.out.mono ?_
  rintro e w3 ⟨rfl, hk3, hm3⟩
  have HK3 := hid hk3
  have HM3 := hid (HM2.out.tr hm3)
  clear hk3 hm3 HST0
  have HST1 := hid (step_any (HD1.out.mods HM3.out HOFF.out) w.heap.size k pl w.heap.size _ HK3.out (Nat.le_trans HB1.out.size HM3.out.size) 128 (by omega) (by omega) (by have := HKK.out.1; omega) HKK.out.2 HO1.out)
  go_wp2_with fail
  refine HST1.out.mono ?_
  rintro e w4 ⟨rfl, hk4, hm4⟩
  have HK4 := hid hk4
  have HM4 := hid (HM3.out.tr hm4)
  clear hk4 hm4 HST1
  have HST2 := hid (step_any (HD1.out.mods HM4.out HOFF.out) w.heap.size k pl w.heap.size _ HK4.out (Nat.le_trans HB1.out.size HM4.out.size) 1 (by omega) (by omega) (by have := HKK.out.1; omega) HKK.out.2 HO2.out)
  go_wp2_with fail
  refine HST2.out.mono ?_
  rintro e w5 ⟨rfl, hk5, hm5⟩
  have HK5 := hid hk5
  have HM5 := hid (HM4.out.tr hm5)
  clear hk5 hm5 HST2
  obtain ⟨a, ev, c3, c4, hr, hev⟩ := HK5.out.cells
  have HR := hid hr
  have HBB : Hid (Below w.heap.size w w5) := hid (HM5.out.to_below HB1.out HB1.out.size (fun b hb => by omega))
  clear hr
  rcases hev with rfl | ⟨ph, rfl⟩
  all_goals
    go_wp2_with fail
    go_quiet (fail)
    go_wp2
    go_ret2
    exact ⟨HR.out, below_drewN HBB.out _⟩
theorem find_any {w : World} {pd n N : Nat} {S T : Nat → Prop} {i : Int} {base : Value} {P : Int → Option (List Int)} {bc c : Nat → List Int} (hD : Dw w pd S N i base T bc n P c) (pf : Nat) (A : Array Value) (size : Int) (ptr : Nat → Nat) (hA : w.heap[pf]? = some (.cells A 135 (0, 0))) (hF : FileIs A pd size ptr) (k : Nat) (hk : k < 100000000) (ho : FindOk c ptr N k) :
    Calls Tryz.prog 79 #[ptrV pf, n64 k] w fun e w' => FrE w' w.heap.size (findF c ptr k) e ∧ Below w.heap.size w w' := by
  by_cases h1 : k < 6
  · exact find_0 hD pf A size ptr hA hF k h1
  · by_cases h2 : k < 134
    · exact find_1 hD pf A size ptr hA hF k (by omega) h2 (ho.1 (by omega) h2)
    · by_cases h3 : k < 16518
      · exact find_2 hD pf A size ptr hA hF k (by omega) h3 (ho.2.1 (by omega) h3).1 (ho.2.1 (by omega) h3).2
      · exact find_3 hD pf A size ptr hA hF k (by omega) hk (ho.2.2 (by omega)).1 (ho.2.2 (by omega)).2.1 (ho.2.2 (by omega)).2.2
end Go.Proofs.YtaplmlldmhdhoaaGreatDoor
