/- The law's known. -/
import Derived.Test.YtgdajplloamjcaaPbC
namespace Go.Proofs.Ytgdajplloamjcaa
open Go.RowKit Go.Maps
set_option linter.unusedVariables false
theorem repl_getD (n i : Nat) : (List.replicate n (0 : Int)).getD i 0 = 0 := by
  simp only [List.getD, List.getElem?_replicate]; split <;> rfl
theorem get_map {L : List Px} {M : List Pk} (h : L.map Px.p = M) (i : Nat) (hi : i < L.length) (d : Pk) : (L.getD i default).p = M.getD i d := by
  rw [← h]; simp [List.getD, hi]
set_option maxRecDepth 100000 in
set_option maxHeartbeats 2000000 in
theorem known_any (w : World) : Calls Try.prog 7 #[] w fun e w' => e = .returned (.bool true) ∧ Below w.heap.size w w' := by
  have hmk : ∀ W : World, (Instr.makeSlice 22 (.int .i64 3000) (.int .i64 3000)).run Try.prog W = .ok (.slice (some ⟨W.heap.size, 0, none⟩) 3000 3000) (W.alloc (.cells (madeCells #[.int .u8 0] 3000) 5)) := run_make_row' (P := Try.prog) 22 5 (.int .u8 0) 1 Try.underlying22 info5 rfl .i64 .i64 3000 (by omega) (by omega)
  have hrm := World.rowIs_made w (.int .u8 0) 3000 5
  obtain ⟨W1, hW1⟩ : ∃ W1, W1 = w.alloc (.cells (madeCells #[.int .u8 0] 3000) 5) := ⟨_, rfl⟩
  rw [← hW1] at hrm
  have hb1 : Below w.heap.size w W1 := by rw [hW1]; exact (Below.refl _ _).alloc (Nat.le_refl _) _
  obtain ⟨l, hl⟩ : ∃ l : List Int, l = List.replicate 3000 0 := ⟨_, rfl⟩
  have hll : l.length = 3000 := by rw [hl]; simp
  have hby : Bytes W1 (some ⟨w.heap.size, 0, none⟩) l := Bytes.mk_ (fun x hx => by rw [hl] at hx; have := List.eq_of_mem_replicate hx; unfold IsB; omega) (fun i hi => by
    rw [Nat.zero_add, hrm.cell (by omega), hl, repl_getD])
  have hnum : numP 3000 1480 = 3 := by decide
  have hz : ((1500 - 20 : Int) / 8 * 8).toNat = 1480 := by decide
  have hcut : Hid (∀ W, Below W1.heap.size W1 W → Calls Try.prog 15 #[.agg (pkC 0 0 0 0 0 false false 0 (.slice (some ⟨w.heap.size, 0, none⟩) 3000 3000)), .int .i64 1500] W fun e w' => ∃ b off cap q0 q1 q2 q3, e = .returned (.tuple #[.slice (some ⟨b, off, none⟩) 3 cap, .int .i64 0]) ∧ w'.cell? ⟨b, off + 8, none⟩ = some (.slice q0 1480 q1) ∧ w'.cell? ⟨b, off + 26, none⟩ = some (.slice q2 40 q3) ∧ w'.cell? ⟨b, off + 13, none⟩ = some (.int .i64 1480) ∧ w'.cell? ⟨b, off + 23, none⟩ = some (.bool false) ∧ Below W.heap.size W w') := hid (fun W hW => by
    refine (Cut_any W 0 0 0 0 0 false false 0 (some ⟨w.heap.size, 0, none⟩) 3000 3000 l 1500 (by unfold II; omega) hll (by omega) (by omega) (hby.later hW)).mono ?_
    rintro e w' ⟨v, rfl, L, hp, hL, hb⟩
    obtain ⟨P, hP⟩ : ∃ P : Pk, P = ⟨0, 0, 0, 0, 0, false, false, 0, l⟩ := ⟨_, rfl⟩
    have e1 : cutP P 1500 = partsL P 1480 3 := by
      have hPl : P.body.length = 3000 := by rw [hP]; exact hll
      unfold cutP
      rw [if_neg (by omega), if_neg (by rw [hP]; simp), hPl, if_neg (by omega), hz, hnum]
    rw [← hP, e1] at hL
    have e0 : cutE P 1500 = 0 := by unfold cutE; rw [if_neg (by omega), if_neg (by rw [hP]; simp)]
    rw [← hP, e0]
    have h3 : L.length = 3 := by rw [← List.length_map (f := Px.p), hL, partsL_len]
    have hg : ∀ i, i < 3 → (L.getD i default).p = partAt P 1480 i := fun i hi => by
      rw [get_map hL i (by omega) default]
      simp [partsL, List.getD, hi]
    obtain ⟨b, off, cap, rfl, hc, _, k0, _⟩ := hp.at_ (i := 0) (by omega)
    obtain ⟨b', off', cap', e2, _, _, k1, _⟩ := hp.at_ (i := 1) (by omega)
    simp only [Value.slice.injEq, Option.some.injEq, Addr.mk.injEq, and_true, true_and] at e2
    obtain ⟨⟨rfl, rfl⟩, rfl⟩ := e2
    obtain ⟨b', off', cap', e2, _, _, k2, _⟩ := hp.at_ (i := 2) (by omega)
    simp only [Value.slice.injEq, Option.some.injEq, Addr.mk.injEq, and_true, true_and] at e2
    obtain ⟨⟨rfl, rfl⟩, rfl⟩ := e2
    have hPb : P.body.length = 3000 := by rw [hP]; exact hll
    have l0 : (partAt P 1480 0).body.length = 1480 := by simp [partAt, hPb]
    have l2 : (partAt P 1480 2).body.length = 40 := by simp [partAt, hPb]
    have r0 := k0 8 (.slice (L.getD 0 default).a (L.getD 0 default).p.body.length (L.getD 0 default).c) rfl
    have r2 := k2 8 (.slice (L.getD 2 default).a (L.getD 2 default).p.body.length (L.getD 2 default).c) rfl
    have r1 := k1 4 (.int .i64 (L.getD 1 default).p.off) rfl
    have r3 := k2 5 (.bool (L.getD 2 default).p.more) rfl
    rw [hg 0 (by omega), l0] at r0
    rw [hg 2 (by omega), l2] at r2
    rw [hg 1 (by omega)] at r1
    rw [hg 2 (by omega)] at r3
    have m2 : (partAt P 1480 2).more = false := by simp [partAt, hPb]
    rw [m2] at r3
    exact ⟨b, off, cap, _, _, _, _, by rw [h3], r0, r2, r1, r3, hb⟩)
  clear hby hll hl hnum hz
  have HB1 := hid hb1
  have HW := hW1.symm
  clear hb1 hrm hW1
  go_enter Try.func7, Try.ntmps7
  go_wp2_with (go_at_call 15; refine (hcut.out W1 (Below.refl _ _)).mono ?_; rintro e w2 ⟨b, off, cap, q0, q1, q2, q3, rfl, r0, r2, r1, r3, hb2⟩; have HB2 := hid (HB1.out.trans (hb2.mono HB1.out.size)); clear hb2 hcut)
  go_ret
  exact ⟨rfl, HB2.out⟩
end Go.Proofs.Ytgdajplloamjcaa
