/- Inodes, NewView, Over, Fresh. -/
import Derived.Test.YtaplmlldmhdhoaaGreatDoorVfG
import Derived.BigQuiet
namespace Go.Proofs.YtaplmlldmhdhoaaGreatDoor
open Go.RowKit Go.Maps
set_option linter.unusedVariables false

theorem Vw.weak {w : World} {pv n : Nat} {S S' : Nat → Prop} {b i : Int} {base : Value} {P : Int → Option (List Int)} (h : Vw w pv S b i base n P) (hk : ∀ g, S g → g < w.heap.size → S' g) : Vw w pv S' b i base n P := by
  obtain ⟨m, MV, h1, s1, s2, h2, h3⟩ := h
  refine ⟨m, MV, h1, hk _ s1 (Array.getElem?_eq_some_iff.1 h1).1, hk _ s2 h2.lt, h2, fun k hkI => ?_⟩
  rcases h3 k hkI with h4 | ⟨l, a, c, h4, h5, h6, h7, h8⟩
  · exact .inl h4
  · exact .inr ⟨l, a, c, h4, h5, h6, h7.weak hk, h8⟩
set_option maxRecDepth 100000 in
set_option maxHeartbeats 1000000 in
theorem Made_no (w : World) (b i s ns : Int) (h : planE b i ≠ 0) :
    Calls Tryz.prog 29 #[n64 b, n64 i, .agg #[.int .u32 s, .int .u32 ns]] w fun e w' => e = .returned (.pointer none) ∧ Below w.heap.size w w' := by
  obtain ⟨W0, hW0⟩ : ∃ W0, W0 = w.alloc (.cells #[.int .u32 s, .int .u32 ns] 28) := ⟨_, rfl⟩
  have hb0 : Below w.heap.size w W0 := by rw [hW0]; exact (Below.refl _ _).alloc (Nat.le_refl _) _
  have hh0 : W0.heap[w.heap.size]? = some (.cells #[.int .u32 s, .int .u32 ns] 28 (0, 0)) := by rw [hW0]; exact alloc_new w _
  have t0 : W0.cell? ⟨w.heap.size, 0, none⟩ = some (.int .u32 s) := cell_of hh0 rfl
  have t1 : W0.cell? ⟨w.heap.size, 1, none⟩ = some (.int .u32 ns) := cell_of hh0 rfl
  have HC := hid (rMkfs_no W0 b i s ns h)
  generalize planE b i = E at *
  have hE : (E != 0) = true := by simpa using h
  have HB0 := hid hb0
  clear hb0 hh0
  go_enter Tryz.func29, Tryz.ntmps29
  go_wp2_with (rw [← hW0]; clear hW0)
  refine HC.out.mono ?_
  rintro e w1 ⟨rfl, hb1⟩
  have HB1 : Hid (Below w.heap.size w w1) := hid (HB0.out.trans (hb1.mono HB0.out.size))
  clear hb1 HC t0 t1
  go_wp2
  go_ret
  exact ⟨rfl, HB1.out⟩
theorem enc_12 (b i : Int) : (encL b i).getD 12 0 = i % 256 ∧ (encL b i).getD 13 0 = i / 256 % 256 := by
  have e : ∀ k, k < 16 → (encL b i).getD k 0 = (supB b i).getD k 0 := fun k hk => by
    unfold encL
    rw [getD_app, if_pos (by rw [encP_len]; omega)]
    unfold encP
    rw [pad_getD]
  rw [e 12 (by omega), e 13 (by omega)]
  unfold supB
  have hl : (supW ++ bytesLe 4 b).length = 12 := by simp [supW, len_le]
  constructor
  · rw [getD_app, hl, if_neg (by omega), getD_le 4 i _ (by omega)]
    simp
  · rw [getD_app, hl, if_neg (by omega), getD_le 4 i _ (by omega)]
    simp
theorem enc_head (b i : Int) : (encL b i).getD 0 0 = 85 := by
  unfold encL
  rw [getD_app, if_pos (by rw [encP_len]; omega)]
  unfold encP
  rw [pad_getD]
  rfl
set_option maxRecDepth 100000 in
set_option maxHeartbeats 1000000 in
theorem Inodes_any (w : World) (q N : Nat) (T : Nat → Prop) (bc : Nat → List Int) (lk : Nat → Bool) (h : Bs w q T N bc lk) (hN : 0 < N) (hN2 : N ≤ 100000) (b i : Int) (h0 : bc 0 = encL b i) (hi0 : 0 ≤ i) (hi1 : i < 65536) :
    Calls Tryz.prog 53 #[.pointer (some ⟨q, 0, none⟩)] w fun e w' => e = .returned (n64 i) ∧ Below w.heap.size w w' := by
  obtain ⟨gB, gL, cB, cL, h1, h2, h3, _, _, _, h4, h5⟩ := h
  have q0 : w.cell? ⟨q, 0, none⟩ = some (.slice (some ⟨gB, 0, none⟩) N N) := cell_of h1 rfl
  have hN0 : (0 : Int) < N := by omega
  rcases h5 0 hN with ⟨_, e⟩ | ⟨a, c, e0, hc, hlen, hy⟩
  · exfalso
    rw [h0] at e
    have := enc_head b i
    rw [e] at this
    unfold zeros512 at this
    simp [List.getD] at this
  · rw [h0] at hy
    obtain ⟨gb, go, ea, _, hcell⟩ := hy.at_ (by rw [encL_len]; decide)
    simp only [Option.some.injEq] at ea
    subst ea
    have k12 := hcell 12 (by rw [encL_len]; decide)
    have k13 := hcell 13 (by rw [encL_len]; decide)
    rw [(enc_12 b i).1] at k12
    rw [(enc_12 b i).2] at k13
    have b0 : w.cell? ⟨gB, 0, none⟩ = some (.slice (some ⟨gb, go, none⟩) 512 c) := cell_of h2 e0
    have HI : Hid (i % 256 + i / 256 % 256 * 256 = i) := hid (by omega)
    obtain ⟨u, hu⟩ : ∃ u, u = i % 256 := ⟨_, rfl⟩
    obtain ⟨v, hv⟩ : ∃ v, v = i / 256 % 256 := ⟨_, rfl⟩
    rw [← hu] at k12
    rw [← hv] at k13
    rw [← hu, ← hv] at HI
    have u0 : 0 ≤ u ∧ u < 256 := by omega
    have v0 : 0 ≤ v ∧ v < 256 := by omega
    obtain ⟨u0, u1⟩ := u0
    obtain ⟨v0, v1⟩ := v0
    have hwu : IntKind.i64.wrap u = u := IntWalk.i64_in _ (by omega)
    have hwv : IntKind.i64.wrap v = v := IntWalk.i64_in _ (by omega)
    have hwv2 : IntKind.i64.wrap (v * 2 ^ 8) = v * 256 := by rw [IntWalk.i64_in _ (by omega)]; omega
    have hwv3 : IntKind.i64.wrap (v * 256) = v * 256 := IntWalk.i64_in _ (by omega)
    have hws : IntKind.i64.wrap (u + v * 256) = i := by rw [IntWalk.i64_in _ (by omega)]; exact HI.out
    clear h1 h2 h3 h4 h5 hcell hy e0 hlen hu hv HI
    go_enter Tryz.func53, Tryz.ntmps53
    go_wp2
    go_quiet (fail)
    go_wp2
    go_ret
    exact ⟨rfl, below_drewN (Below.refl _ _) _⟩
set_option maxRecDepth 100000 in
set_option maxHeartbeats 1000000 in
theorem NewView_any (w : World) (b i : Int) (hp : PlanOk b i) (t : TypeId) (v : Value) :
    Calls Tryz.prog 54 #[.agg (supC b i), .iface t v] w fun e w' => ∃ pv, e = .returned (.pointer (some ⟨pv, 0, none⟩)) ∧ Vw w' pv (fun g => w.heap.size ≤ g ∧ g < w'.heap.size) b i (.iface t v) 0 (fun _ => none) ∧ Below w.heap.size w w' := by
  have HC := hid (Plan_any b i)
  rw [supA_ok hp.e, hp.e] at HC
  unfold supC at HC ⊢
  have hmm := @run_makeMap Tryz.prog
  obtain ⟨W0, hW0⟩ : ∃ W, W = w.alloc (.cells #[n64 b, n64 i, n64 1, n64 2, n64 68, n64 69, n64 (planT b), n64 (planD b i)] 115) := ⟨_, rfl⟩
  obtain ⟨W1, hW1⟩ : ∃ W, W = W0.alloc (.map #[] 0) := ⟨_, rfl⟩
  have hb0 : Below w.heap.size w W0 := by rw [hW0]; exact (Below.refl _ _).alloc (Nat.le_refl _) _
  have hb1 : Below W0.heap.size W0 W1 := by rw [hW1]; exact (Below.refl _ _).alloc (Nat.le_refl _) _
  have hh0 : W0.heap[w.heap.size]? = some (.cells #[n64 b, n64 i, n64 1, n64 2, n64 68, n64 69, n64 (planT b), n64 (planD b i)] 115 (0, 0)) := by rw [hW0]; exact alloc_new w _
  have hh1 := (hb1.block _ (Array.getElem?_eq_some_iff.1 hh0).1).trans hh0
  obtain ⟨d0, d1, d2, d3, d4, d5, d6, d7⟩ := cells8 hh1
  obtain ⟨W2, hW2⟩ : ∃ W, W = W1.alloc (.cells #[.iface t v, .map (some W0.heap.size), n64 b, n64 i, n64 1, n64 2, n64 68, n64 69, n64 (planT b), n64 (planD b i), .int .i64 0, .int .i64 0, .int .i64 0, .int .i64 0, .int .i64 0, .int .i64 0] 129) := ⟨_, rfl⟩
  have hb2 : Below W1.heap.size W1 W2 := by rw [hW2]; exact (Below.refl _ _).alloc (Nat.le_refl _) _
  have hh2 : W2.heap[W1.heap.size]? = some (.cells #[.iface t v, .map (some W0.heap.size), n64 b, n64 i, n64 1, n64 2, n64 68, n64 69, n64 (planT b), n64 (planD b i), .int .i64 0, .int .i64 0, .int .i64 0, .int .i64 0, .int .i64 0, .int .i64 0] 129 (0, 0)) := by rw [hW2]; exact alloc_new W1 _
  have hs2 := (hb2.block _ (Array.getElem?_eq_some_iff.1 hh1).1).trans hh1
  have c0 : W2.cell? ⟨w.heap.size, 0, none⟩ = some (n64 b) := cell_of hs2 rfl
  have c1 : W2.cell? ⟨w.heap.size, 1, none⟩ = some (n64 i) := cell_of hs2 rfl
  have hm1 : MapIs W1 W0.heap.size 0 (fun _ => none) := by rw [hW1]; exact MapIs.made W0
  have HX := hid (And.intro hs2 (And.intro hh2 (And.intro (hb0.trans ((hb1.trans (hb2.mono hb1.size)).mono hb0.size)) (And.intro (hm1.keep (hb2.block _ hm1.lt)) (And.intro hb0.size (Nat.le_trans hb0.size hb1.size))))))
  have HLT : Hid (w.heap.size < W1.heap.size) := hid (Array.getElem?_eq_some_iff.1 hh1).1
  clear hb0 hb1 hh0 hh1 hb2 hh2 hs2 hm1
  go_enter Tryz.func54, Tryz.ntmps54
  go_wp2_with (first | (rw [← hW0]; clear hW0) | (rw [← hW1]; clear hW1) | (rw [← hW2]; clear hW2))
  refine (HC.out W2).mono ?_
  rintro e w3 ⟨rfl, hb3⟩
  obtain ⟨W4, hW4⟩ : ∃ W, W = w3.alloc (.cells #[n64 b, n64 i, n64 1, n64 2, n64 68, n64 69, n64 (planT b), n64 (planD b i)] 115) := ⟨_, rfl⟩
  have hb4 : Below w3.heap.size w3 W4 := by rw [hW4]; exact (Below.refl _ _).alloc (Nat.le_refl _) _
  have hb24 : Below W2.heap.size W2 W4 := hb3.trans (hb4.mono hb3.size)
  have ht4 : W4.heap[w3.heap.size]? = some (.cells #[n64 b, n64 i, n64 1, n64 2, n64 68, n64 69, n64 (planT b), n64 (planD b i)] 115 (0, 0)) := by rw [hW4]; exact alloc_new w3 _
  have hs4 := (hb24.block _ (Array.getElem?_eq_some_iff.1 HX.out.1).1).trans HX.out.1
  have hp4 := (hb24.block _ (Array.getElem?_eq_some_iff.1 HX.out.2.1).1).trans HX.out.2.1
  obtain ⟨s0, s1, s2, s3, s4, s5, s6, s7⟩ := cells8 hs4
  obtain ⟨t0, t1, t2, t3, t4, t5, t6, t7⟩ := cells8 ht4
  have p10 : W4.cell? ⟨W1.heap.size, 10, none⟩ = some (.int .i64 0) := cell_of hp4 rfl
  have p11 : W4.cell? ⟨W1.heap.size, 11, none⟩ = some (.int .i64 0) := cell_of hp4 rfl
  have p12 : W4.cell? ⟨W1.heap.size, 12, none⟩ = some (.int .i64 0) := cell_of hp4 rfl
  have pf := fun k => froz_of hp4 k
  obtain ⟨W5, hW5⟩ : ∃ W, W = ((W4.setCell ⟨W1.heap.size, 10, none⟩ (n64 69)).setCell ⟨W1.heap.size, 11, none⟩ (n64 (planD b i))).setCell ⟨W1.heap.size, 12, none⟩ (n64 b) := ⟨_, rfl⟩
  have k0 := setc hp4 10 (n64 69)
  have k1 := setc k0 11 (n64 (planD b i))
  have k2 := setc k1 12 (n64 b)
  rw [← hW5] at k2
  have hm5 : Mods (fun g => g = W1.heap.size) W4 W5 := by rw [hW5]; exact ((((Mods.refl (fun g => g = W1.heap.size) W4).setCell _ _ _ rfl).setCell _ _ _ rfl).setCell _ _ _ rfl)
  have hne : w.heap.size ≠ W1.heap.size := by have := HLT.out; omega
  have hs5 := (hm5.block _ (Array.getElem?_eq_some_iff.1 hs4).1 hne).trans hs4
  have r1 : W5.cell? ⟨w.heap.size, 1, none⟩ = some (n64 i) := cell_of hs5 rfl
  have r4 : W5.cell? ⟨w.heap.size, 4, none⟩ = some (n64 68) := cell_of hs5 rfl
  have p13 : W5.cell? ⟨W1.heap.size, 13, none⟩ = some (.int .i64 0) := cell_of k2 rfl
  have p14 : W5.cell? ⟨W1.heap.size, 14, none⟩ = some (.int .i64 0) := cell_of k2 rfl
  have p15 : W5.cell? ⟨W1.heap.size, 15, none⟩ = some (.int .i64 0) := cell_of k2 rfl
  have pf5 := fun k => froz_of k2 k
  have j0 := setc k2 13 (n64 68)
  have j1 := setc j0 14 (n64 2)
  have j2 := setc j1 15 (n64 i)
  have HJ := hid j2
  have HM5 := hid hm5
  have HB24 := hid hb24
  clear hb3 hb4 hb24 ht4 hs4 hp4 k0 k1 k2 hm5 hs5 j0 j1 j2 hne HC d0 d1 d2 d3 d4 d5 d6 d7 c0 c1 hmm
  go_wp2_with (first | (rw [← hW4]; clear hW4) | (rw [← hW5]; clear hW5))
  go_ret
  have hm6 := ((HM5.out.setCell W1.heap.size 13 (n64 68) rfl).setCell W1.heap.size 14 (n64 2) rfl).setCell W1.heap.size 15 (n64 i) rfl
  have hB4 : Below w.heap.size w W4 := HX.out.2.2.1.trans (HB24.out.mono HX.out.2.2.1.size)
  have hB6 := hm6.to_below hB4 hB4.size (fun g hg => by subst hg; exact HX.out.2.2.2.2.2)
  have hmap4 := HX.out.2.2.2.1.keep (HB24.out.block _ HX.out.2.2.2.1.lt)
  have hmap6 := hmap4.keep (hm6.block _ hmap4.lt (fun e => map_block HX.out.2.2.2.1 (by rw [e]; exact HX.out.2.1)))
  exact ⟨W1.heap.size, rfl, ⟨W0.heap.size, fun _ => none, HJ.out, ⟨HX.out.2.2.2.2.2, (Array.getElem?_eq_some_iff.1 HJ.out).1⟩, ⟨HX.out.2.2.2.2.1, hmap6.lt⟩, hmap6, fun k _ => .inl ⟨rfl, rfl⟩⟩, hB6⟩
end Go.Proofs.YtaplmlldmhdhoaaGreatDoor
