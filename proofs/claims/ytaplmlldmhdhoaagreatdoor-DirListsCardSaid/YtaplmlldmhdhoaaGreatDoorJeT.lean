/- JeS, JeT in one text. -/
import Derived.Test.YtaplmlldmhdhoaaGreatDoorJeG
/- Find. -/
namespace Go.Proofs.YtaplmlldmhdhoaaGreatDoor
open Go.RowKit Go.Maps
set_option linter.unusedVariables false
variable {w : World} {pv n N D hi : Nat} {S T : Nat → Prop} {i : Int} {base : Value} {P : Int → Option (List Int)} {bc c : Nat → List Int} {ptr : Nat → Nat} {L : List Ln} {X : Array Value} {pe : Addr}
/-- What Find answers. -/
def FnA (L : List Ln) (nm : List Int) (e : Ending) : Prop :=
  (∃ p, p < L.length ∧ Has nm (L.getD p noLn) ∧ (∀ j, j < p → ¬ Has nm (L.getD j noLn)) ∧ e = .returned (.tuple #[lnV p (L.getD p noLn), .nilIface])) ∨
  ((∀ x ∈ L, ¬ Has nm x) ∧ e = .returned (.tuple #[.agg ln0, .iface 57 (n64 2)]))
set_option maxRecDepth 100000 in
set_option maxHeartbeats 4000000 in
theorem Find_any (hD : Dw w pv S N i base T bc n P c) (hd : Dd N D hi c ptr L) (hX : InoIs X ((L.length * 32 : Nat) : Int) ptr) (hGl : Gl w) (hE : En0 w pe) (hG : ¬ S 0 ∧ ¬ T 0) (nm : List Int) (hnm : ∀ y ∈ nm, IsB y) :
    Calls Tryz.prog 11 #[ptrV pv, .agg X, .string (strOfNums nm)] w fun e w' => Below w.heap.size w w' ∧ FnA L nm e := by
  obtain ⟨q0, hq0⟩ : ∃ q, q = w.heap.size := ⟨_, rfl⟩
  rw [← hq0]
  have HQ0 := hid hq0
  clear hq0
  have hXs := hX.sz
  obtain ⟨b, hb⟩ : ∃ b, w.heap.size = b := ⟨_, rfl⟩
  obtain ⟨W1, hW1⟩ : ∃ W, W = w.alloc (.cells X 31) := ⟨_, rfl⟩
  have b1 : Below w.heap.size w W1 := by rw [hW1]; exact (Below.refl _ _).alloc (Nat.le_refl _) _
  have s1 : W1.heap.size = b + 1 := by rw [hW1, ← hb]; exact Array.size_push _
  have k1 : W1.heap[b]? = some (.cells X 31 (0, 0)) := by rw [hW1, ← hb]; exact alloc_new w _
  obtain ⟨W2, hW2⟩ : ∃ W, W = W1.alloc (.cells ln0 42) := ⟨_, rfl⟩
  have b2 : Below W1.heap.size W1 W2 := by rw [hW2]; exact (Below.refl _ _).alloc (Nat.le_refl _) _
  have k2 : W2.heap[b + 1]? = some (.cells ln0 42 (0, 0)) := by rw [hW2, ← s1]; exact alloc_new W1 _
  have hB2 : Below w.heap.size w W2 := b1.trans (b2.mono b1.size)
  have x2 : W2.heap[b]? = some (.cells X 31 (0, 0)) := (b2.block b (by omega)).trans k1
  have HSR := hid (search_any (hD.later hB2) hd hX (hE.later hB2) hG nm hnm)
  have HX2 := hid x2
  have HK2 := hid k2
  have HB2 := hid hB2
  have HXS := hid hXs
  have HBB := hid hb
  have HGL := hid hGl
  clear hD hd hX hGl hE hG hXs b1 b2 k1 k2 hB2 x2 hnm
  go_enter Tryz.func11, Tryz.ntmps11
  go_wp2_with (first | (rw [← hW1]; clear hW1) | (rw [hb]; clear hb) | (rw [← hW2]; clear hW2) | (rw [s1]; clear s1) | (refine wpList_load_row rfl 31 _ rfl b rfl 31 X (0, 0) _ HX2.out Tryz.underlying31 rfl (by rw [HXS.out]; exact sizeIno) ?_))
  refine HSR.out.mono ?_
  rintro e w3 ⟨hb3, hsr⟩
  have hB3 : Below w.heap.size w w3 := HB2.out.trans (hb3.mono HB2.out.size)
  obtain ⟨l4, hl4⟩ : ∃ l, w3.heap.size = l := ⟨_, rfl⟩
  obtain ⟨W4, hW4⟩ : ∃ W, W = w3.alloc (.cells ln0 42) := ⟨_, rfl⟩
  have k4 : W4.heap[l4]? = some (.cells ln0 42 (0, 0)) := by rw [hW4, ← hl4]; exact alloc_new w3 _
  have b4 : Below w3.heap.size w3 W4 := by rw [hW4]; exact (Below.refl _ _).alloc (Nat.le_refl _) _
  have k3 : w3.heap[b + 1]? = some (.cells ln0 42 (0, 0)) := (hb3.block _ (Array.getElem?_eq_some_iff.1 HK2.out).1).trans HK2.out
  have lb3 : b + 1 < w3.heap.size := (Array.getElem?_eq_some_iff.1 k3).1
  have HK4 := hid k4
  rcases hsr with ⟨p, hp, hh, hfi, rfl⟩ | ⟨hno, pa, rfl, hpa, hpc⟩
  · obtain ⟨x, hx⟩ : ∃ x, x = L.getD p noLn := ⟨_, rfl⟩
    rw [← hx]
    have HFN : Hid (FnA L nm (.returned (.tuple #[lnV p x, .nilIface]))) := hid (.inl ⟨p, hp, hh, hfi, by rw [hx]⟩)
    obtain ⟨R, hR⟩ : ∃ R : Array Value, R = #[n64 p, n64 x.i, .string (strOfNums x.nm)] := ⟨_, rfl⟩
    have eR : lnV p x = .agg R := by rw [hR]; rfl
    rw [eR] at HFN ⊢
    have sR : R.size = 3 := by rw [hR]; rfl
    have oR : R.all (·.oneCell') = true := by rw [hR]; exact oneLn _ _ _
    obtain ⟨W5, hW5⟩ : ∃ W, W = W4.setRow l4 R := ⟨_, rfl⟩
    obtain ⟨t, ht⟩ : ∃ t, W5.heap.size = t := ⟨_, rfl⟩
    obtain ⟨W6, hW6⟩ : ∃ W, W = W5.alloc (.cells #[.pointer none] 63) := ⟨_, rfl⟩
    have b5 : Below w3.heap.size w3 W5 := by rw [hW5]; exact below_setRow b4 (by omega) _
    have b6 : Below w3.heap.size w3 W6 := by rw [hW6]; exact b5.alloc b5.size _
    have k5 : W5.heap[l4]? = some (.cells R 42 (0, 0)) := by rw [hW5]; exact setRow_heap W4 l4 _ R _ _ k4
    have k6 : W6.heap[l4]? = some (.cells R 42 (0, 0)) := by rw [hW6]; exact (Below.heap_alloc _ _ _ (Array.getElem?_eq_some_iff.1 k5).1).trans k5
    have r6 : W6.heap[b + 1]? = some (.cells ln0 42 (0, 0)) := (b6.block _ lb3).trans k3
    have hB6 : Below w.heap.size w W6 := hB3.trans (b6.mono hB3.size)
    obtain ⟨W8, hW8⟩ : ∃ W, W = W6.setRow (b + 1) R := ⟨_, rfl⟩
    have r8 : W8.heap[b + 1]? = some (.cells R 42 (0, 0)) := by rw [hW8]; exact setRow_heap W6 (b + 1) _ R _ _ r6
    have hB8 : Below w.heap.size w W8 := by rw [hW8]; exact below_setRow hB6 (by have := HBB.out; omega) _
    have HK6 := hid k6
    have HR6 := hid r6
    have HR8 := hid r8
    have HB8 := hid hB8
    have HS := hid (And.intro sR oR)
    clear hb3 hB3 k4 b4 k3 lb3 hp hh hfi hx hR eR sR oR b5 b6 k5 k6 r6 hB6 r8 hB8 HSR
    go_wp2_with (first | (rw [← hW4]; clear hW4) | (rw [hl4]; clear hl4) | (refine wpList_store_row rfl 42 _ _ rfl l4 R rfl rfl 42 _ HK4.out (by rw [HS.out.1]; exact sizeLn) (by rw [HS.out.1]; rfl) HS.out.2 ?_; rw [← hW5]; clear hW5) | (rw [← hW6]; clear hW6) | (rw [ht]; clear ht) | (go_at_call 21; refine (as_nil _ _).mono ?_; rintro e w7 ⟨rfl, hw7⟩; rw [hw7]; clear hw7) | (refine wpList_load_row rfl 42 _ rfl l4 rfl 42 R (0, 0) _ HK6.out Tryz.underlying42 rfl (by rw [HS.out.1]; exact sizeLn) ?_) | (refine wpList_store_row rfl 42 _ _ rfl (b + 1) R rfl rfl 42 _ HR6.out (by rw [HS.out.1]; exact sizeLn) (by rw [HS.out.1]; rfl) HS.out.2 ?_; rw [← hW8]; clear hW8))
    refine bodyPost_ret (results_ct (t := 6) (u := 7) rfl _ _ (b + 1) R _ _ rfl HR8.out Tryz.underlying42 (by rw [HS.out.1]; exact sizeLn)) rfl ⟨by rw [HQ0.out]; exact HB8.out, HFN.out⟩
  · have HFN : Hid (FnA L nm (.returned (.tuple #[.agg ln0, .iface 57 (n64 2)]))) := hid (.inr ⟨hno, rfl⟩)
    obtain ⟨W5, hW5⟩ : ∃ W, W = W4.setRow l4 ln0 := ⟨_, rfl⟩
    obtain ⟨t, ht⟩ : ∃ t, W5.heap.size = t := ⟨_, rfl⟩
    obtain ⟨W6, hW6⟩ : ∃ W, W = W5.alloc (.cells #[.pointer none] 63) := ⟨_, rfl⟩
    have b5 : Below w3.heap.size w3 W5 := by rw [hW5]; exact below_setRow b4 (by omega) _
    have b6 : Below w3.heap.size w3 W6 := by rw [hW6]; exact b5.alloc b5.size _
    have t6 : W6.heap[t]? = some (.cells #[.pointer none] 63 (0, 0)) := by rw [hW6, ← ht]; exact alloc_new W5 _
    have r6 : W6.heap[b + 1]? = some (.cells ln0 42 (0, 0)) := (b6.block _ lb3).trans k3
    have hpal := (Array.getElem?_eq_some_iff.1 hpc).1
    have p6 : W6.heap[pa]? = some (.cells #[n64 2, n64 (roomF L.length L)] 69 (0, 0)) := (b6.block pa hpal).trans hpc
    have hB6 : Below w.heap.size w W6 := hB3.trans (b6.mono hB3.size)
    have hst : w3.heap.size ≤ t := by rw [← ht]; exact b5.size
    have HT : Hid (w.heap.size ≤ t ∧ b + 1 ≠ t ∧ pa ≠ t) := hid ⟨by have := hB3.size; omega, by omega, by omega⟩
    have HPB : Hid (pa ≠ b + 1) := hid (by have := (Array.getElem?_eq_some_iff.1 HK2.out).1; omega)
    have HAS := hid (As_absent pa t (.pointer none) W6 (HGL.out.later hB6) (cell_of t6 rfl) (froz_of t6 0))
    have H6 := hid (And.intro hB6 (And.intro t6 (And.intro r6 p6)))
    clear hb3 hB3 k4 b4 k3 lb3 hno hpa hpc hpal b5 b6 t6 r6 p6 hB6 hst HSR
    go_wp2_with (first | (rw [← hW4]; clear hW4) | (rw [hl4]; clear hl4) | (refine wpList_store_row rfl 42 _ _ rfl l4 ln0 rfl rfl 42 _ HK4.out sizeLn rfl (oneLn _ _ _) ?_; rw [← hW5]; clear hW5) | (rw [← hW6]; clear hW6) | (rw [ht]; clear ht))
    refine HAS.out.mono ?_
    rintro e w7 ⟨rfl, w6, hb66, hw7⟩
    obtain ⟨hB6, t6, r6, p6⟩ := H6.out
    obtain ⟨n1, n2, n3⟩ := HT.out
    have hB66 : Below w.heap.size w w6 := hB6.trans (hb66.mono hB6.size)
    have hB7 : Below w.heap.size w w7 := by rw [hw7]; exact hB66.setCell n1 _
    have hk7 : ∀ g, g ≠ t → g < W6.heap.size → w7.heap[g]? = W6.heap[g]? := fun g h1 h2 => by
      rw [hw7, Below.heap_setCell _ _ _ _ (fun e => h1 e)]
      exact hb66.block g h2
    have c7 : w7.cell? ⟨t, 0, none⟩ = some (ptrV pa) := by rw [hw7]; exact cell_of (setc ((hb66.block t (Array.getElem?_eq_some_iff.1 t6).1).trans t6) 0 _) rfl
    have p7 : w7.heap[pa]? = some (.cells #[n64 2, n64 (roomF L.length L)] 69 (0, 0)) := (hk7 pa n3 (Array.getElem?_eq_some_iff.1 p6).1).trans p6
    have r7 : w7.heap[b + 1]? = some (.cells ln0 42 (0, 0)) := (hk7 (b + 1) n2 (Array.getElem?_eq_some_iff.1 r6).1).trans r6
    have HS7 : Hid (w7.drew.cell? ⟨t, 0, none⟩ = some (ptrV pa) ∧ w7.drew.cell? ⟨pa, 0, none⟩ = some (n64 2) ∧ w7.drew.heap[b + 1]? = some (.cells ln0 42 (0, 0))) := hid ⟨c7, cell_of p7 rfl, r7⟩
    have HS8 : Hid ((w7.drew.setRow (b + 1) ln0).cell? ⟨t, 0, none⟩ = some (ptrV pa) ∧ (w7.drew.setRow (b + 1) ln0).cell? ⟨pa, 0, none⟩ = some (n64 2) ∧ (w7.drew.setRow (b + 1) ln0).heap[b + 1]? = some (.cells ln0 42 (0, 0))) := hid ⟨(World.cell?_of_block (setRow_other _ _ _ _ (Ne.symm n2))).trans HS7.out.1, (World.cell?_of_block (setRow_other _ _ _ _ HPB.out)).trans HS7.out.2.1, setRow_heap _ (b + 1) _ ln0 _ _ HS7.out.2.2⟩
    have HB8 : Hid (Below w.heap.size w (w7.drew.setRow (b + 1) ln0)) := hid (below_setRow hB7.drew (by have := HBB.out; omega) _)
    clear hb66 hw7 hB6 t6 r6 p6 n1 n2 n3 hB66 hB7 hk7 c7 p7 r7 HAS H6 HK4
    go_upto_region 4 with fail
    refine wp_region_held_drew (S := fun w' => w'.cell? ⟨t, 0, none⟩ = some (ptrV pa) ∧ w'.cell? ⟨pa, 0, none⟩ = some (n64 2) ∧ w'.heap[b + 1]? = some (.cells ln0 42 (0, 0))) (by kernel_rfl) HS7.out (fun hS => ?_)
    refine nany_take 0 21 (.agg ln0) rfl rfl (by kernel_rfl) (by kernel_rfl) (by kernel_rfl) (fun _ _ _ h => h) (Or.inl ⟨by rfl, ?_⟩) hS ?_
    · rintro w' hS'
      go_simp
    simp only [List.setIfInBounds_toArray, List.set_cons_zero, List.set_cons_succ]
    refine nany_take 1 22 (ptrV pa) rfl rfl (by kernel_rfl) (by kernel_rfl) (by kernel_rfl) (fun _ _ _ h => h) (Or.inl ⟨by rfl, ?_⟩) hS ?_
    · rintro w' hS'
      obtain ⟨x1, x2, _⟩ := hS'; go_simp
    simp only [List.setIfInBounds_toArray, List.set_cons_zero, List.set_cons_succ]
    refine nany_take 2 23 (ptrV pa) rfl rfl (by kernel_rfl) (by kernel_rfl) (by kernel_rfl) (fun _ _ _ h => h) (Or.inl ⟨by rfl, ?_⟩) hS ?_
    · rintro w' hS'
      obtain ⟨x1, x2, _⟩ := hS'; go_simp
    simp only [List.setIfInBounds_toArray, List.set_cons_zero, List.set_cons_succ]
    refine nany_take 3 24 (.pointer (some ⟨pa, 0, none⟩)) rfl rfl (by kernel_rfl) (by kernel_rfl) (by kernel_rfl) (fun _ _ _ h => h) (Or.inl ⟨by rfl, ?_⟩) hS ?_
    · rintro w' hS'
      obtain ⟨x1, x2, _⟩ := hS'; go_simp
    simp only [List.setIfInBounds_toArray, List.set_cons_zero, List.set_cons_succ]
    refine nany_take 4 25 (n64 2) rfl rfl (by kernel_rfl) (by kernel_rfl) (by kernel_rfl) (fun _ _ _ h => h) (Or.inl ⟨by rfl, ?_⟩) hS ?_
    · rintro w' hS'
      obtain ⟨x1, x2, _⟩ := hS'; go_simp
    simp only [List.setIfInBounds_toArray, List.set_cons_zero, List.set_cons_succ]
    refine nany_take 5 26 (.iface 57 (n64 2)) rfl rfl (by kernel_rfl) (by kernel_rfl) (by kernel_rfl) (fun _ _ _ h => h) (Or.inl ⟨by rfl, ?_⟩) hS ?_
    · rintro w' hS'
      go_simp
    simp only [List.setIfInBounds_toArray, List.set_cons_zero, List.set_cons_succ]
    refine nany_one 6 (by kernel_rfl) ?_
    refine nop_skip (w' := w7.drew.setRow (b + 1) ln0) rfl (by rfl) rfl (ex_store 42 (.tmp 6) (.tmp 21) rfl (b + 1) ln0 rfl rfl 42 ln0 HS7.out.2.2 sizeLn rfl (oneLn _ _ _)) ?_
    refine ⟨HS8.out, ?_⟩
    refine nany_take 7 7 (.iface 57 (n64 2)) rfl rfl (by kernel_rfl) (by kernel_rfl) (by kernel_rfl) (fun _ _ _ h => h) (Or.inl ⟨by rfl, ?_⟩) HS8.out ?_
    · rintro w' hS'
      go_simp
    simp only [List.setIfInBounds_toArray, List.set_cons_zero, List.set_cons_succ]
    refine wpAnyH_done (by kernel_rfl) ?_ _
    clear hS
    go_wp2
    refine bodyPost_ret (results_ct (t := 6) (u := 7) rfl _ _ (b + 1) ln0 _ _ rfl HS8.out.2.2 Tryz.underlying42 sizeLn) rfl ⟨by rw [HQ0.out]; exact HB8.out, HFN.out⟩
end Go.Proofs.YtaplmlldmhdhoaaGreatDoor

/- Add of a name that is there; within. -/
namespace Go.Proofs.YtaplmlldmhdhoaaGreatDoor
open Go.RowKit Go.Maps
set_option linter.unusedVariables false
set_option maxHeartbeats 400000 in
theorem within11 (x n : Int) (h0 : 0 < n) (hn : n < 1099511627776) (w : World) : Calls Tryz.prog 7 #[n64 x, n64 n] w fun e w' => e = .returned (n64 (wi x n)) ∧ w' = w := by
  have hne : ¬ (n = 0) := by omega
  have hne' : n ≠ 0 := by omega
  by_cases h : x.tmod n < 0
  · have hw := wrap_wi h0 hn h
    have e : wi x n = x.tmod n + n := by unfold wi; rw [if_pos h]
    rw [e]
    go_enter Tryz.func7, Tryz.ntmps7
    go_wp2
    go_ret
    exact ⟨rfl, rfl⟩
  · have e : wi x n = x.tmod n := by unfold wi; rw [if_neg h]
    rw [e]
    go_enter Tryz.func7, Tryz.ntmps7
    go_wp2
    go_ret
    exact ⟨rfl, rfl⟩
variable {w : World} {pv n N D hi : Nat} {S T : Nat → Prop} {i : Int} {base : Value} {P : Int → Option (List Int)} {bc c : Nat → List Int} {ptr : Nat → Nat} {L : List Ln} {X : Array Value} {pe : Addr}
set_option maxRecDepth 100000 in
set_option maxHeartbeats 4000000 in
theorem Add_busy (hD : Dw w pv S N i base T bc n P c) (hd : Dd N D hi c ptr L) (hX : InoIs X ((L.length * 32 : Nat) : Int) ptr) (hE : En0 w pe) (hG : ¬ S 0 ∧ ¬ T 0) (x : Ln) (hx : LnOk x) (h1 : 1 ≤ x.i) (hp : 0 < x.nm.length) (hnm : ∀ y ∈ x.nm, y ≠ 47 ∧ y ≠ 0) (hyes : ∃ y ∈ L, Has x.nm y) :
    Calls Tryz.prog 9 #[ptrV pv, .agg X, .string (strOfNums x.nm), n64 x.i] w fun e w' => (∃ Y, e = .returned (.tuple #[.agg Y, n64 0, .iface 57 (n64 8)])) ∧ Below w.heap.size w w' := by
  obtain ⟨q0, hq0⟩ : ∃ q, q = w.heap.size := ⟨_, rfl⟩
  rw [← hq0]
  have HQ0 := hid hq0
  clear hq0
  have hXs := hX.sz
  obtain ⟨z23, hz23⟩ : ∃ z : Array Value, z = #[.int .i64 0, .int .i64 0, .int .i64 0, .int .u32 0, .int .u32 0, .int .u32 0, .int .u64 0, .int .u64 0, .int .u32 0, .int .u32 0, .int .u32 0, .int .u32 0, .int .u32 0, .int .u32 0, .int .i64 0, .int .i64 0, .int .i64 0, .int .i64 0, .int .i64 0, .int .i64 0, .int .i64 0, .int .i64 0, .int .i64 0] := ⟨_, rfl⟩
  obtain ⟨b, hb⟩ : ∃ b, w.heap.size = b := ⟨_, rfl⟩
  obtain ⟨W1, hW1⟩ : ∃ W, W = w.alloc (.cells X 31) := ⟨_, rfl⟩
  obtain ⟨W2, hW2⟩ : ∃ W, W = W1.alloc (.cells #[.int .i64 0, .int .i64 0, .int .i64 0, .int .u32 0, .int .u32 0, .int .u32 0, .int .u64 0, .int .u64 0, .int .u32 0, .int .u32 0, .int .u32 0, .int .u32 0, .int .u32 0, .int .u32 0, .int .i64 0, .int .i64 0, .int .i64 0, .int .i64 0, .int .i64 0, .int .i64 0, .int .i64 0, .int .i64 0, .int .i64 0] 31) := ⟨_, rfl⟩
  have s1 : W1.heap.size = b + 1 := by rw [hW1, ← hb]; exact Array.size_push _
  have b1 : Below w.heap.size w W1 := by rw [hW1]; exact (Below.refl _ _).alloc (Nat.le_refl _) _
  have b2 : Below W1.heap.size W1 W2 := by rw [hW2]; exact (Below.refl _ _).alloc (Nat.le_refl _) _
  have b12 := b1.trans (b2.mono b1.size)
  have k0 : W2.heap[b]? = some (.cells X 31 (0, 0)) := (b2.block b (by omega)).trans (by rw [hW1, ← hb]; exact alloc_new w _)
  have k1 : W2.heap[b + 1]? = some (.cells z23 31 (0, 0)) := by rw [hW2, ← s1, hz23]; exact alloc_new W1 _
  have HNA := Name_any (strOfNums x.nm) W2
  rw [nameS_ok hp hx.len hx.isB hnm] at HNA
  replace HNA := hid HNA
  have HIS := hid (isInode_yes W2 x.i h1 hx.i1)
  have HSR := hid (search_any (hD.later b12) hd hX (hE.later b12) hG x.nm hx.isB)
  have HYES := hid hyes
  have HXS := hid hXs
  have HZI : Hid (z23.size = 23 ∧ z23.all (·.oneCell') = true) := hid (by rw [hz23]; exact ⟨rfl, by kernel_rfl⟩)
  have HZ23 := hid hz23
  have HBB := hid hb
  have HK := hid (And.intro k0 k1)
  have HB2 := hid b12
  clear hD hd hX hE hG hx h1 hp hnm hyes hXs hz23 b1 b2 b12 k0 k1
  go_enter Tryz.func9, Tryz.ntmps9
  go_wp2_with (first | (rw [← hW1]; clear hW1) | (rw [hb]; clear hb) | (rw [← hW2]; clear hW2) | (rw [s1]; clear s1) | (go_at_call 18; refine HNA.out.mono ?_; rintro e w9 ⟨rfl, hw9⟩; rw [hw9]; clear hw9) | (go_at_call 19; refine HIS.out.mono ?_; rintro e w9 ⟨rfl, hw9⟩; rw [hw9]; clear hw9) | (refine wpList_load_row rfl 31 _ rfl b rfl 31 X (0, 0) _ HK.out.1 Tryz.underlying31 rfl (by rw [HXS.out]; exact sizeIno) ?_))
  refine HSR.out.mono ?_
  rintro e w3 ⟨hb3, hsr⟩
  rcases hsr with ⟨p, hp, hh, hfi, rfl⟩ | ⟨hno, _⟩
  rotate_left
  · obtain ⟨y, hy, hh⟩ := HYES.out
    exact absurd hh (hno y hy)
  have hB3 : Below w.heap.size w w3 := HB2.out.trans (hb3.mono HB2.out.size)
  obtain ⟨l4, hl4⟩ : ∃ l, w3.heap.size = l := ⟨_, rfl⟩
  obtain ⟨W4, hW4⟩ : ∃ W, W = w3.alloc (.cells ln0 42) := ⟨_, rfl⟩
  have k4 : W4.heap[l4]? = some (.cells ln0 42 (0, 0)) := by rw [hW4, ← hl4]; exact alloc_new w3 _
  have b4 : Below w3.heap.size w3 W4 := by rw [hW4]; exact (Below.refl _ _).alloc (Nat.le_refl _) _
  have k3 : w3.heap[b + 1]? = some (.cells z23 31 (0, 0)) := (hb3.block _ (Array.getElem?_eq_some_iff.1 HK.out.2).1).trans HK.out.2
  have lb3 : b + 1 < w3.heap.size := (Array.getElem?_eq_some_iff.1 k3).1
  have HK4 := hid k4
  obtain ⟨x0, hx0⟩ : ∃ x, x = L.getD p noLn := ⟨_, rfl⟩
  rw [← hx0]
  obtain ⟨R, hR⟩ : ∃ R : Array Value, R = #[n64 p, n64 x0.i, .string (strOfNums x0.nm)] := ⟨_, rfl⟩
  have eR : lnV p x0 = .agg R := by rw [hR]; rfl
  rw [eR]
  have sR : R.size = 3 := by rw [hR]; rfl
  have oR : R.all (·.oneCell') = true := by rw [hR]; exact oneLn _ _ _
  obtain ⟨W5, hW5⟩ : ∃ W, W = W4.setRow l4 R := ⟨_, rfl⟩
  obtain ⟨t, ht⟩ : ∃ t, W5.heap.size = t := ⟨_, rfl⟩
  obtain ⟨W6, hW6⟩ : ∃ W, W = W5.alloc (.cells #[.pointer none] 63) := ⟨_, rfl⟩
  have b5 : Below w3.heap.size w3 W5 := by rw [hW5]; exact below_setRow b4 (by omega) _
  have b6 : Below w3.heap.size w3 W6 := by rw [hW6]; exact b5.alloc b5.size _
  have r6 : W6.heap[b + 1]? = some (.cells z23 31 (0, 0)) := (b6.block _ lb3).trans k3
  have hB6 : Below w.heap.size w W6 := hB3.trans (b6.mono hB3.size)
  obtain ⟨W8, hW8⟩ : ∃ W, W = W6.setRow (b + 1) z23 := ⟨_, rfl⟩
  have r8 : W8.heap[b + 1]? = some (.cells z23 31 (0, 0)) := by rw [hW8]; exact setRow_heap W6 (b + 1) _ z23 _ _ r6
  have hB8 : Below w.heap.size w W8 := by rw [hW8]; exact below_setRow hB6 (by have := HBB.out; omega) _
  have HR6 := hid r6
  have HR8 := hid r8
  have HB8 := hid hB8
  have HS := hid (And.intro sR oR)
  clear hb3 hB3 k4 b4 k3 lb3 hp hh hfi hx0 hR eR sR oR b5 b6 r6 hB6 r8 hB8 HSR
  go_wp2_with (first | (rw [← hW4]; clear hW4) | (rw [hl4]; clear hl4) | (refine wpList_store_row rfl 42 _ _ rfl l4 R rfl rfl 42 _ HK4.out (by rw [HS.out.1]; exact sizeLn) (by rw [HS.out.1]; rfl) HS.out.2 ?_; rw [← hW5]; clear hW5) | (rw [← hW6]; clear hW6) | (rw [ht]; clear ht) | (rw [← HZ23.out]; refine wpList_store_row rfl 31 _ _ rfl (b + 1) z23 rfl rfl 31 _ HR6.out (by rw [HZI.out.1]; exact sizeIno) rfl HZI.out.2 ?_; rw [← hW8]; clear hW8))
  refine bodyPost_ret (results_ctt (t := 8) (u := 9) (v := 10) rfl _ _ (b + 1) z23 _ _ rfl HR8.out Tryz.underlying31 (by rw [HZI.out.1]; exact sizeIno)) rfl ⟨⟨z23, rfl⟩, by rw [HQ0.out]; exact HB8.out⟩
end Go.Proofs.YtaplmlldmhdhoaaGreatDoor
