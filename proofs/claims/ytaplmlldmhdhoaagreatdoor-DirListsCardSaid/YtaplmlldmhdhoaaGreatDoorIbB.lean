/- IbA, IbB in one text. -/
import Derived.Test.YtaplmlldmhdhoaaGreatDoorIaC
import Derived.BigRegion
import Derived.Test.YtaplmlldmhdhoaaGreatDoorVgA
/- Where a pointer leads to: depthOf, span, come. -/
namespace Go.Proofs.YtaplmlldmhdhoaaGreatDoor
open Go.RowKit Go.Maps
set_option linter.unusedVariables false

/-- How deep a block lies, and its place among those as deep. -/
def depF (k : Nat) : Nat := if k < 6 then 0 else if k < 134 then 1 else if k < 16518 then 2 else 3
def plcF (k : Nat) : Nat := if k < 6 then k else if k < 134 then k - 6 else if k < 16518 then k - 134 else k - 16518
set_option maxRecDepth 100000 in
set_option maxHeartbeats 1000000 in
theorem depthOf_any (w : World) (k : Nat) (hk : k < 100000000) : Calls Tryz.prog 93 #[n64 k] w fun e w' => e = .returned (.tuple #[n64 (depF k : Nat), n64 (plcF k : Nat)]) ∧ w' = w := by
  unfold depF plcF
  by_cases h1 : k < 6
  · have h3 : ¬ (16518 : Int) ≤ k := by omega
    have h4 : ¬ (134 : Int) ≤ k := by omega
    have h5 : ¬ (6 : Int) ≤ k := by omega
    rw [if_pos h1, if_pos h1]
    go_enter Tryz.func93, Tryz.ntmps93
    go_wp2
    go_ret2
    exact ⟨rfl, rfl⟩
  · rw [if_neg h1, if_neg h1]
    by_cases h2 : k < 134
    · have h3 : ¬ (16518 : Int) ≤ k := by omega
      have h4 : ¬ (134 : Int) ≤ k := by omega
      have h5 : (6 : Int) ≤ k := by omega
      have w1 : IntKind.i64.wrap ((k : Int) - 6) = ((k - 6 : Nat) : Int) := by rw [IntWalk.i64_in _ (by omega)]; omega
      rw [if_pos h2, if_pos h2]
      generalize k - 6 = z at *
      clear h1 h2
      go_enter Tryz.func93, Tryz.ntmps93
      go_wp2
      go_ret2
      exact ⟨rfl, rfl⟩
    · rw [if_neg h2, if_neg h2]
      by_cases h3 : k < 16518
      · have h3' : ¬ (16518 : Int) ≤ k := by omega
        have h4 : (134 : Int) ≤ k := by omega
        have w1 : IntKind.i64.wrap ((k : Int) - 128) = ((k - 128 : Nat) : Int) := by rw [IntWalk.i64_in _ (by omega)]; omega
        have w2 : IntKind.i64.wrap (((k - 128 : Nat) : Int) - 6) = ((k - 134 : Nat) : Int) := by rw [IntWalk.i64_in _ (by omega)]; omega
        rw [if_pos h3, if_pos h3]
        generalize k - 128 = y at *
        generalize k - 134 = z at *
        clear h1 h2 h3
        go_enter Tryz.func93, Tryz.ntmps93
        go_wp2
        go_ret2
        exact ⟨rfl, rfl⟩
      · have h4 : (16518 : Int) ≤ k := by omega
        have w1 : IntKind.i64.wrap ((k : Int) - 16384) = ((k - 16384 : Nat) : Int) := by rw [IntWalk.i64_in _ (by omega)]; omega
        have w2 : IntKind.i64.wrap (((k - 16384 : Nat) : Int) - 128) = ((k - 16512 : Nat) : Int) := by rw [IntWalk.i64_in _ (by omega)]; omega
        have w3 : IntKind.i64.wrap (((k - 16512 : Nat) : Int) - 6) = ((k - 16518 : Nat) : Int) := by rw [IntWalk.i64_in _ (by omega)]; omega
        rw [if_neg h3, if_neg h3]
        generalize k - 16384 = x at *
        generalize k - 16512 = y at *
        generalize k - 16518 = z at *
        clear h1 h2 h3
        go_enter Tryz.func93, Tryz.ntmps93
        go_wp2
        go_ret2
        exact ⟨rfl, rfl⟩
/-- How many blocks hang below a pointer. -/
def spN (d : Nat) : Nat := 128 ^ d
theorem spN_succ (d : Nat) : spN (d + 1) = spN d * 128 := Nat.pow_succ 128 d
theorem spN_le {d : Nat} (h : d ≤ 4) : spN d ≤ 268435456 := Nat.pow_le_pow_right (n := 128) (by decide) h
set_option maxRecDepth 100000 in
set_option maxHeartbeats 1000000 in
theorem span_any (w : World) (d : Nat) (hd : d ≤ 4) : Calls Tryz.prog 95 #[n64 d] w fun e w' => e = .returned (n64 (spN d : Nat)) ∧ w' = w := by
  go_enter Tryz.func95, Tryz.ntmps95
  go_wp2
  go_loopw [3, 5] (fun v z wr => ∃ j : Nat, j ≤ d ∧ z = n64 j ∧ v = n64 (spN j : Nat) ∧ wr = w) (fun _ z _ => d - (RowKit.intOf z).toNat)
  case atStart => exact ⟨0, Nat.zero_le _, rfl, rfl, rfl⟩
  case round =>
    obtain ⟨j, hj, rfl, rfl, hw⟩ := hrel
    subst hw
    by_cases hlt : j < d
    · have hlt' : (j : Int) < d := by omega
      have h4 := spN_le (d := j) (by omega)
      have hy := spN_succ j
      have w1 : IntKind.i64.wrap ((spN j : Int) * 128) = (spN (j + 1) : Int) := by
        rw [IntWalk.i64_in _ (by omega)]; omega
      have w2 : IntKind.i64.wrap ((j : Int) + 1) = ((j + 1 : Nat) : Int) := by rw [IntWalk.i64_in _ (by omega)]; omega
      generalize hx : spN j = x at *
      obtain ⟨y, hy⟩ : ∃ y, spN (j + 1) = y := ⟨_, rfl⟩
      rw [hy] at w1
      have HY := hid hy
      clear hy h4 hx
      go_wp2
      go_roundw
      case rel => exact ⟨j + 1, by omega, by first | rfl | go_num, by rw [HY.out], by first | rfl | trivial⟩
      case measure => simp [RowKit.intOf]; omega
    · have hlt' : ¬ (j : Int) < d := by omega
      obtain rfl : j = d := by omega
      go_wp2
      go_ret
      exact ⟨rfl, rfl⟩
end Go.Proofs.YtaplmlldmhdhoaaGreatDoor

/- come, step. -/
namespace Go.Proofs.YtaplmlldmhdhoaaGreatDoor
open Go.RowKit Go.Maps
set_option linter.unusedVariables false

/-- What a walk comes to: a block, or a hole (where it stands, and the first block behind it). -/
abbrev Fr := Except (Nat × Nat × Nat) Nat
def comeF (k place block slot lead wide : Nat) : Fr := if lead = 0 then .error (block, slot, k - place % wide + wide) else .ok lead
/-- The s-th pointer of a block. -/
def pAt (l : List Int) (s : Nat) : Nat := (rdN l (s * 4) 4).toNat
def stepF (c : Nat → List Int) (k place : Nat) (r : Fr) (wide : Nat) : Fr :=
  match r with
  | .error h => .error h
  | .ok a => comeF k place a (place / wide % 128) (pAt (c a) (place / wide % 128)) wide
abbrev ptrV (b : Nat) : Value := .pointer (some ⟨b, 0, none⟩)
def WkR (w : World) (pw pd k place lo : Nat) : Fr → Prop
  | .ok a => w.heap[pw]? = some (.cells #[ptrV pd, n64 k, n64 place, n64 a, .nilIface] 197 (0, 0))
  | .error (b, s, x) => ∃ ph, w.heap[pw]? = some (.cells #[ptrV pd, n64 k, n64 place, n64 0, .iface 178 (ptrV ph)] 197 (0, 0)) ∧ w.heap[ph]? = some (.cells #[n64 2, n64 b, n64 s, n64 x] 181 (0, 0)) ∧ lo ≤ ph
set_option maxRecDepth 100000 in
set_option maxHeartbeats 4000000 in
theorem come_any (w : World) (pw pd k place a0 block slot lead wide : Nat) (h : w.heap[pw]? = some (.cells #[ptrV pd, n64 k, n64 place, n64 a0, .nilIface] 197 (0, 0))) (hw : 0 < wide) (hw2 : wide ≤ 1000000000) (hk : k < 1000000000) (hp : place ≤ k) :
    Calls Tryz.prog 94 #[ptrV pw, n64 block, n64 slot, n64 lead, n64 wide] w fun e w' => e = .returned (.tuple #[]) ∧ WkR w' pw pd k place w.heap.size (comeF k place block slot lead wide) ∧ Mods (fun g => g = pw) w w' := by
  have p3 : w.cell? ⟨pw, 3, none⟩ = some (n64 a0) := cell_of h rfl
  have f3 := froz_of h 3
  unfold comeF
  by_cases h0 : lead = 0
  · subst h0
    rw [if_pos rfl]
    have e1 : (place : Int).tmod (wide : Int) = ((place % wide : Nat) : Int) := by rw [Int.tmod_eq_emod_of_nonneg (by omega)]; rfl
    have hm : place % wide ≤ place := Nat.mod_le _ _
    have e2 : IntKind.i64.wrap ((k : Int) - ((place % wide : Nat) : Int)) = ((k - place % wide : Nat) : Int) := by rw [IntWalk.i64_in _ (by omega)]; omega
    have e3 : IntKind.i64.wrap (((k - place % wide : Nat) : Int) + (wide : Int)) = ((k - place % wide + wide : Nat) : Int) := by rw [IntWalk.i64_in _ (by omega)]; omega
    have hne : ¬ (wide : Int) = 0 := by omega
    have hne2 : ¬ wide = 0 := by omega
    have hne3 : ((wide : Int) == 0) = false := by simp; omega
    obtain ⟨u, hu⟩ : ∃ u, place % wide = u := ⟨_, rfl⟩
    rw [hu] at e1 e2 e3 ⊢
    obtain ⟨v, hv⟩ : ∃ v, k - u = v := ⟨_, rfl⟩
    rw [hv] at e2 e3 ⊢
    obtain ⟨z, hz⟩ : ∃ z, v + wide = z := ⟨_, rfl⟩
    rw [hz] at e3 ⊢
    have q1 : w.cell? ⟨pw, 1, none⟩ = some (n64 k) := cell_of h rfl
    have q2 : w.cell? ⟨pw, 2, none⟩ = some (n64 place) := cell_of h rfl
    have q4 : w.cell? ⟨pw, 4, none⟩ = some .nilIface := cell_of h rfl
    have f4 := froz_of h 4
    have hl : pw < w.heap.size := (Array.getElem?_eq_some_iff.1 h).1
    have H := hid h
    clear h hu hv hz hm hk hp hw hw2
    go_enter Tryz.func94, Tryz.ntmps94
    go_wp2_with fail
    go_region
    go_end0
    obtain ⟨X, hX⟩ : ∃ X, X = (w.setCell ⟨pw, 3, none⟩ (.int .i64 0)).setCell ⟨pw, 4, none⟩ (.iface 178 (.pointer (some ⟨w.heap.size, 0, none⟩))) := ⟨_, rfl⟩
    have hx : X.heap[pw]? = some (.cells #[ptrV pd, n64 k, n64 place, n64 0, .iface 178 (ptrV w.heap.size)] 197 (0, 0)) := by rw [hX]; exact setc (setc H.out 3 _) 4 _
    have hs : X.heap.size = w.heap.size := by rw [hX]; simp [World.setCell]
    have hm : Mods (fun g => g = pw) w X := by rw [hX]; exact ((Mods.refl (fun g => g = pw) w).setCell pw 3 _ rfl).setCell pw 4 _ rfl
    rw [← hX]
    refine ⟨rfl, ⟨w.heap.size, ?_, ?_, Nat.le_refl _⟩, (hm.alloc _).drew⟩
    · exact (Below.heap_alloc X _ pw (by omega)).trans hx
    · rw [← hs]; exact alloc_new X _
  · have h0' : ¬ (lead : Int) = 0 := by omega
    rw [if_neg h0]
    have h1 := setc h 3 (n64 lead)
    have m1 : Mods (fun g => g = pw) w (w.setCell ⟨pw, 3, none⟩ (n64 lead)) := (Mods.refl _ w).setCell pw 3 _ rfl
    have H1 := hid h1
    have M1 := hid m1
    clear h h1 m1
    go_enter Tryz.func94, Tryz.ntmps94
    go_wp2
    go_end0
    exact ⟨rfl, H1.out, M1.out⟩
theorem WkR.lt {w : World} {pw pd k place lo : Nat} {r : Fr} (h : WkR w pw pd k place lo r) : pw < w.heap.size := by
  match r, h with
  | .ok a, h => exact (Array.getElem?_eq_some_iff.1 h).1
  | .error (b, s, x), ⟨ph, h, _⟩ => exact (Array.getElem?_eq_some_iff.1 h).1
theorem WkR.mono {w : World} {pw pd k place lo lo' : Nat} {r : Fr} (h : WkR w pw pd k place lo r) (hl : lo' ≤ lo) : WkR w pw pd k place lo' r := by
  match r, h with
  | .ok a, h => exact h
  | .error (b, s, x), ⟨ph, h1, h2, h3⟩ => exact ⟨ph, h1, h2, Nat.le_trans hl h3⟩
set_option maxRecDepth 100000 in
set_option maxHeartbeats 4000000 in
/-- One pointer further. -/
theorem step_any {w : World} {pd n N : Nat} {S T : Nat → Prop} {i : Int} {base : Value} {P : Int → Option (List Int)} {bc c : Nat → List Int} (hD : Dw w pd S N i base T bc n P c) (pw k place lo : Nat) (r : Fr) (h : WkR w pw pd k place lo r) (hlo : lo ≤ w.heap.size) (wide : Nat) (hw : 0 < wide) (hw2 : wide ≤ 1000000000) (hk : k < 1000000000) (hp : place ≤ k) (ho : ∀ a, r = .ok a → a < N) :
    Calls Tryz.prog 96 #[ptrV pw, n64 wide] w fun e w' => e = .returned (.tuple #[]) ∧ WkR w' pw pd k place lo (stepF c k place r wide) ∧ Mods (fun g => g = pw) w w' := by
  match r, h, ho with
  | .error (b, s, x), h, _ =>
    have hE : stepF c k place (.error (b, s, x)) wide = .error (b, s, x) := rfl
    rw [hE]
    have H := hid h
    obtain ⟨ph, h1, h2, h3⟩ := h
    have p4 : w.cell? ⟨pw, 4, none⟩ = some (.iface 178 (ptrV ph)) := cell_of h1 rfl
    clear h1 h2 h3 hD hw hw2 hk hp hlo
    go_enter Tryz.func96, Tryz.ntmps96
    go_wp2
    refine bodyPost_ret (results_none rfl _ _ _) rfl ?_
    exact ⟨rfl, H.out, Mods.refl _ _⟩
  | .ok a, h, ho =>
    have ha := ho a rfl
    have h1 : w.heap[pw]? = some (.cells #[ptrV pd, n64 k, n64 place, n64 a, .nilIface] 197 (0, 0)) := h
    have HG := hid (fun (j : Nat) => (hD.later (w' := w.drewN j) (below_drewN (Below.refl _ _) j)).Get a ha)
    have HI := hid (hD.isB a ha)
    have HL := hid (hD.len a ha)
    obtain ⟨sl, hsl⟩ : ∃ sl, sl = place / wide % 128 := ⟨_, rfl⟩
    have hs128 : sl < 128 := by rw [hsl]; exact Nat.mod_lt _ (by decide)
    have hE : stepF c k place (.ok a) wide = comeF k place a sl (pAt (c a) sl) wide := by rw [hsl]; rfl
    rw [hE]
    have e1 : (place : Int).tdiv (wide : Int) = ((place / wide : Nat) : Int) := by rw [Int.tdiv_eq_ediv_of_nonneg (Int.natCast_nonneg _)]; rfl
    have e2 : ((place / wide : Nat) : Int).tmod 128 = (sl : Int) := by rw [Int.tmod_eq_emod_of_nonneg (Int.natCast_nonneg _), hsl]; rfl
    have e3 : IntKind.i64.wrap ((sl : Int) * 4) = ((sl * 4 : Nat) : Int) := by rw [IntWalk.i64_in _ (by omega)]; omega
    obtain ⟨qv, hqv⟩ : ∃ qv, place / wide = qv := ⟨_, rfl⟩
    rw [hqv] at e1 e2
    have e4 : IntKind.i64.wrap (qv : Int) = (qv : Int) := by
      have hq : qv ≤ place := by rw [← hqv]; exact Nat.div_le_self _ _
      rw [IntWalk.i64_in _ (by omega)]
    have hne : ¬ (wide : Int) = 0 := by omega
    have hne2 : ¬ wide = 0 := by omega
    have hne3 : ((wide : Int) == 0) = false := by simp; omega
    have p0 : w.cell? ⟨pw, 0, none⟩ = some (ptrV pd) := cell_of h1 rfl
    have p3 : w.cell? ⟨pw, 3, none⟩ = some (n64 a) := cell_of h1 rfl
    have p4 : w.cell? ⟨pw, 4, none⟩ = some .nilIface := cell_of h1 rfl
    have H1 := hid h1
    have HH := hid (And.intro hw (And.intro hw2 (And.intro hk (And.intro hp hlo))))
    clear hD h h1 hsl hE hw hw2 hk hp ho hqv hlo
    go_enter Tryz.func96, Tryz.ntmps96
    go_wp2_with fail
    go_region_held3 (fun w' => w'.cell? ⟨pw, 0, none⟩ = some (ptrV pd) ∧ w'.cell? ⟨pw, 3, none⟩ = some (n64 a)) ((first | exact ⟨p0, p3⟩ | exact HS2.out)) ((first | (go_at_call 33; refine (HG.out 1).mono ?_; rintro e w2 ⟨g2, c2, rfl, ho2, hb2⟩; have HS2 := hid (And.intro (cell_later hb2 p0) (cell_later hb2 p3)); have HB2 := hid hb2; have HO2 := hid ho2; clear ho2 hb2)))
    have hbw : Below w.heap.size w w2 := (below_drewN (Below.refl w.heap.size w) 1).trans HB2.out
    have h2 := (hbw.block pw (Array.getElem?_eq_some_iff.1 H1.out).1).trans H1.out
    have p2' : w2.cell? ⟨pw, 2, none⟩ = some (n64 place) := cell_of h2 rfl
    have p3' : w2.cell? ⟨pw, 3, none⟩ = some (n64 a) := cell_of h2 rfl
    obtain ⟨a', c', ea', hc', _, hy⟩ := By.of_owns (S := fun _ => True) HO2.out HI.out (fun _ _ => trivial)
    simp only [Value.slice.injEq, true_and] at ea'
    obtain ⟨rfl, rfl⟩ := ea'
    have HLE := le_at w2 (some ⟨g2, 0, none⟩) 512 c2 (sl * 4) 4 ((sl * 4 : Nat) : Int) 4 (c a) rfl rfl HL.out hc' (by decide) (.inl rfl) (by omega) hy.bytes
    have hbd := rdN_bd (c a) (sl * 4) 4 HI.out (by decide)
    have e5 : IntKind.i64.wrap (rdN (c a) (sl * 4) 4) = ((pAt (c a) sl : Nat) : Int) := by
      unfold pAt
      rw [IntWalk.i64_in _ (by omega)]; omega
    generalize rdN (c a) (sl * 4) 4 = R at *
    obtain ⟨L, hL⟩ : ∃ L, pAt (c a) sl = L := ⟨_, rfl⟩
    rw [hL] at e5
    have HLL := hid hL
    clear hL
    obtain ⟨hw, hw2, hk, hp, hlo⟩ := HH.out
    have HCO := hid (fun j => come_any (w2.drewN j) pw pd k place a a sl L wide h2 hw hw2 hk hp)
    replace HLE := hid HLE
    have HBW := hid hbw
    have HLO := hid hlo
    clear h2 p0 p3 p4 HO2 HB2 HS2 hy hbd hw hw2 hk hp hlo HH hbw H1 HG HL HI
    go_wp2_with fail
    refine HLE.out.mono ?_
    rintro e w3 ⟨rfl, q3, hw3⟩
    subst hw3
    clear HLE
    go_wp2_with fail
    refine (HCO.out q3).mono ?_
    rintro e w4 ⟨rfl, hk4, hm4⟩
    have HK4 := hid hk4
    have HM4 := hid hm4
    clear hk4 hm4 HCO
    go_wp2
    go_end0
    rw [HLL.out]
    refine ⟨rfl, HK4.out.mono (Nat.le_trans HLO.out HBW.out.size), ?_⟩
    exact (Mods.of_below (below_drewN HBW.out q3)).tr HM4.out
end Go.Proofs.YtaplmlldmhdhoaaGreatDoor
