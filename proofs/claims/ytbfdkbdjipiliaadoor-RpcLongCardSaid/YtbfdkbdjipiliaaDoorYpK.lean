/- RpcLong: its walk. -/
import Derived.Test.YtbfdkbdjipiliaaDoorYpJ
import Derived.Test.YtbfdkbdjipiliaaDoorYjA
import Derived.BigQuiet
namespace Go.Proofs.YtbfdkbdjipiliaaDoor
open Go.RowKit Go.Maps
set_option linter.unusedVariables false

/-- Records since w, in a state that tells r. -/
structure LgS (w W : World) (p : Nat) (S : Nat → Prop) (r : Rc) : Prop where
  rc : ∃ s, RcAt W p S s ∧ SR s r
  below : Below w.heap.size w W
  ge : ∀ b, S b → w.heap.size ≤ b
section
variable {w W W' : World} {p : Nat} {S : Nat → Prop} {r : Rc}
theorem LgS.slt (h : LgS w W p S r) : ∀ b, S b → b < W.heap.size := fun b hb => by obtain ⟨s, ⟨_, _, hx⟩, _⟩ := h.rc; exact hx.slt b hb
theorem LgS.keep (h : LgS w W p S r) (hm : Mods (fun b => W.heap.size ≤ b) W W') : LgS w W' p S r := by
  obtain ⟨s, h1, h2⟩ := h.rc
  exact ⟨⟨s, h1.keep (fun b hb => hm.block b (h.slt b hb) (fun e => by have := h.slt b hb; omega)) hm.size, h2⟩, hm.to_below h.below h.below.size (fun b hb => Nat.le_trans h.below.size hb), h.ge⟩
theorem LgS.later (h : LgS w W p S r) (hb : Below W.heap.size W W') : LgS w W' p S r := h.keep (Mods.of_below hb)
theorem LgS.begin_ (hb : Below w.heap.size w W) (hp : w.heap.size ≤ p) (h : RcAt W p (fun b => b = p) Pc0) : LgS w W p (fun b => b = p) Rc0 := ⟨⟨Pc0, h, SR.zero⟩, hb, fun b hb2 => by have h1 : b = p := hb2; omega⟩
end
/-- A row of one's own, to be taken. -/
theorem left_of {W : World} {a : Option Addr} {n c : Nat} {d : List Int} (h : RW W 5 1 (.slice a n c) n (u8s d)) (hd : ∀ x ∈ d, IsB x) (hn : 0 < n) : ∃ b, blkV (.slice a n c) = some b ∧ b < W.heap.size ∧ LeftA b W a n c d := by
  have hl : d.length = n := by have := h.1; rw [u8s_len] at this; omega
  have hb := RW.bytes h hd
  obtain ⟨b, off, cap, e, h1, h2, _⟩ := h.at_ hn
  simp only [Value.slice.injEq, true_and] at e
  obtain ⟨rfl, rfl⟩ := e
  have hm : c ≤ maxLen := by
    rcases h.2 with ⟨e, h0⟩ | ⟨b', off', cap', cur, e, _, _, hm, _⟩
    · omega
    · simp only [Value.slice.injEq, true_and] at e
      rw [e.2]; exact hm
  exact ⟨b, rfl, h.lt rfl, hb, hl, fun _ => ⟨off, rfl⟩, h1, hm⟩
/-- What Add answers where its bytes are of one's own. -/
def LgP (w : World) (p : Nat) (S : Nat → Prop) (W : World) (o : List (List Int)) (ec : Int) (r' : Rc) (e : Ending) (w' : World) : Prop :=
  ∃ v S' T, e = .returned (.tuple #[v, .int .i64 ec]) ∧ LgS w w' p S' r' ∧ Kp S W S' w' ∧ OutL w' T v o ∧ ∀ b, T b → ¬ S' b ∧ b < w'.heap.size
theorem LgS.add {w W : World} {p : Nat} {S : Nat → Prop} {r : Rc} (h : LgS w W p S r) (b0 : Nat) (a : Option Addr) (n c : Nat) (l : List Int) (hl : LeftA b0 W a n c l) (hnm : n ≤ 800000) (hb0 : b0 < W.heap.size ∧ ¬ S b0) (o : List (List Int)) (ec : Int) (r' : Rc) (he : addR r l = (o, ec, r')) :
    Calls Tryd.prog 8 #[.pointer (some ⟨p, 0, none⟩), .slice a n c] W (LgP w p S W o ec r') := by
  obtain ⟨s, h1, h2⟩ := h.rc
  refine (Add_any W p S s r h1 h2 b0 a n c l hl hnm (fun _ => hb0)).mono ?_
  rintro e w' ⟨v, S', s', T, g1, g2, g3, g4, g5, g6⟩
  rw [he] at g1 g3 g5
  obtain ⟨k1, k2⟩ := Kp.below0 g4 h.below h.ge
  exact ⟨v, S', T, g1, ⟨⟨s', g2, g3⟩, k1, k2⟩, g4, g5, fun b hb => (g6 b hb).2⟩
/-- One row told, and where it lies. -/
theorem OutL.one {w : World} {T : Nat → Prop} {v : Value} {l : List Int} (h : OutL w T v [l]) : ∃ g og c a ca, v = .slice (some ⟨g, og, none⟩) 1 c ∧ 1 ≤ c ∧ w.cell? ⟨g, og, none⟩ = some (.slice a l.length ca) ∧ Bytes w a l := by
  obtain ⟨M, h1, h2, h3, h4⟩ := h
  match M, h1 with
  | [x], h1 =>
    simp only [List.map_cons, List.map_nil, List.cons.injEq, and_true] at h1
    subst h1
    obtain ⟨b, off, cap, e, q1, q2, q3, _⟩ := h2.at_ (by simp)
    refine ⟨b, off, cap, x.a, x.c, e, q1, ?_, (h4 x (by simp)).1.bytes⟩
    have := q3 0 (owV x) rfl
    simpa [owV] using this
theorem OutL.zero {w : World} {T : Nat → Prop} {v : Value} (h : OutL w T v []) : ∃ a c, v = .slice a 0 c := h.len
set_option maxRecDepth 100000 in
set_option maxHeartbeats 4000000 in
theorem RpcLong_short (w : World) (hG : Gl w) (n0 f0 : Int) (ab : Option Addr) (nb cb : Nat) (hs : 1000 < nb) :
    Calls Tryd.prog 5 #[.int .i64 n0, .int .i64 f0, .slice ab nb cb] w fun e w' => e = .returned (.bool true) ∧ Below w.heap.size w w' := by
  have HKN := hid (known17 w hG)
  have q1 : (1000 : Int) < (nb : Nat) := by omega
  clear hG hs
  go_enter Tryd.func5, Tryd.ntmps5
  go_wp2_with (go_at_call 6; refine HKN.out.mono ?_; rintro e w2 ⟨rfl, hb2⟩; have HB2 := hid hb2; clear hb2 HKN)
  go_ret
  exact ⟨rfl, HB2.out⟩
set_option maxRecDepth 100000 in
set_option maxHeartbeats 16000000 in
theorem RpcLong_main (w : World) (hG : Gl w) (n0 f0 : Int) (ab : Option Addr) (nb cb : Nat) (bl : List Int) (hnb : bl.length = nb) (hb : Bytes w ab bl) (hs : nb ≤ 1000) :
    Calls Tryd.prog 5 #[.int .i64 n0, .int .i64 f0, .slice ab nb cb] w fun e w' => e = .returned (.bool true) ∧ Below w.heap.size w w' := by
  have HKN := hid (known17 w hG)
  have q1 : ¬ (1000 : Int) < (nb : Nat) := by omega
  have hw1 := wi_bd n0 200 (by decide)
  have HW1 := hid (within17 n0 200 (by decide) (by decide))
  obtain ⟨x, hx⟩ : ∃ x, wi n0 200 = x := ⟨_, rfl⟩
  rw [hx] at hw1 HW1
  obtain ⟨N, hN⟩ : ∃ N : Nat, 16284 + x = (N : Int) := ⟨(16284 + x).toNat, by omega⟩
  have hN1 : 16284 ≤ N := by omega
  have hN2 : N < 16484 := by omega
  obtain ⟨M, hM⟩ : ∃ M : Nat, min (N : Int) 16384 = (M : Int) := ⟨(min (N : Int) 16384).toNat, by omega⟩
  have hM1 : M ≤ N ∧ M ≤ 16384 ∧ 0 < M := by omega
  have hw2 := wi_bd f0 (M : Int) (by omega)
  have HW2 := hid (within17 f0 (M : Int) (by omega) (by omega))
  obtain ⟨F, hF⟩ : ∃ F : Nat, wi f0 (M : Int) = (F : Int) := ⟨(wi f0 (M : Int)).toNat, by omega⟩
  rw [hF] at hw2 HW2
  obtain ⟨K, hK⟩ : ∃ K : Nat, (N : Int) - (F : Int) = (K : Int) := ⟨N - F, by omega⟩
  have hFK : F + K = N := by omega
  have hFM : F < M := by omega
  have HG := hid hG
  have HB := hid hb
  have HNB := hid hnb
  have HNR : Hid (∀ w, Calls Tryd.prog 7 #[] w fun e w' => e = .returned (.pointer (some ⟨w.heap.size, 0, none⟩)) ∧ RcAt w' w.heap.size (fun b => b = w.heap.size) Pc0 ∧ Below w.heap.size w w') := hid NewRecords_any
  obtain ⟨z, hz⟩ : ∃ z, List.replicate F (0 : Int) = z := ⟨_, rfl⟩
  obtain ⟨y, hy⟩ : ∃ y, List.replicate K (0 : Int) = y := ⟨_, rfl⟩
  have HZ := hid hz
  have HY := hid hy
  have HZL : Hid (z.length = F) := hid (by rw [← hz]; simp)
  have HYL : Hid (y.length = K) := hid (by rw [← hy]; simp)
  clear hG hb hnb hz hy hx hF hw1 hw2
  go_enter Tryd.func5, Tryd.ntmps5
  go_upto_region 10 with (first
    | (go_at_call 6; refine HKN.out.mono ?_; rintro e w1 ⟨rfl, hb1⟩; have HB1 := hid hb1; clear hb1 HKN)
    | (go_at_call 11; refine (HW1.out _).mono ?_; rintro e w9 ⟨rfl, h9⟩; rw [h9]; clear h9 w9 HW1)
    | (go_at_call 11; refine (HW2.out _).mono ?_; rintro e w9 ⟨rfl, h9⟩; rw [h9]; clear h9 w9 HW2)
    | (go_at_call 7; refine (HNR.out _).mono ?_; rintro e w2 ⟨rfl, hr2, hb2⟩; have HL2 := hid (LgS.begin_ (HB1.out.trans (hb2.mono HB1.out.size)) HB1.out.size hr2); have HPE := hid (Eq.refl w1.heap.size); clear hr2 hb2 HNR))
  obtain ⟨p, hp⟩ : ∃ p, w1.heap.size = p := ⟨_, rfl⟩
  rw [hp] at HL2 ⊢
  clear HPE hp HB1
  obtain ⟨W3, hW3⟩ : ∃ W, W = w2.alloc (.cells (madeCells #[.int .u8 0] F) 5) := ⟨_, rfl⟩
  have hmk : (Instr.makeSlice 27 (.int .i64 (F : Int)) (.int .i64 (F : Int))).run Tryd.prog w2 = .ok (.slice (some ⟨w2.heap.size, 0, none⟩) F F) W3 := by rw [hW3]; exact run_zeros w2 F (by omega)
  have b3 : Below w2.heap.size w2 W3 := by rw [hW3]; exact below_alloc (Below.refl _ _) (Nat.le_refl _) _
  have hz3 : Bytes W3 (some ⟨w2.heap.size, 0, none⟩) z := by rw [hW3, ← HZ.out]; exact make_zeros w2 F
  have HL3 := hid (HL2.out.later b3)
  have HMA := hid (Mark_any W3 (some ⟨w2.heap.size, 0, none⟩) F F z HZL.out (by omega) hz3)
  clear b3 hz3 hW3 HL2
  go_upto_region 11 with (go_at_call 10; refine HMA.out.mono ?_; rintro e w4 ⟨a4, c4, rfl, hr4, hi4, hk4, hb4⟩; have HR4 := hid hr4; have HI4 := hid hi4; have HK4 := hid hk4; have HB4 := hid hb4; clear hr4 hi4 hk4 hb4 HMA)
  clear hmk
  obtain ⟨b4, o4, cp4, e4, _, hbk4, _⟩ := HR4.out.at_ (by omega)
  simp only [Value.slice.injEq, true_and] at e4
  obtain ⟨rfl, rfl⟩ := e4
  have hge4 := HK4.out b4 rfl
  have hlt4 := HR4.out.lt (b := b4) rfl
  obtain ⟨x0, hx0⟩ : ∃ x, (mkL z).getD 0 0 = x := ⟨_, rfl⟩
  have hIx0 : IsB x0 := by rw [← hx0]; exact mem_getD _ IsB HI4.out 0 (by rw [mkL_len]; omega)
  have hand := u8_and127 x0 hIx0
  obtain ⟨k1, k2, k3, k4⟩ := RW.poke HR4.out (j := 0) (by omega) (x0 % 128)
  rw [Nat.add_zero] at k1 k2 k3 k4
  rw [hx0] at k1
  have hset := mkL_half z (by rw [HZL.out]; omega)
  rw [hx0] at hset
  rw [hset] at k3
  obtain ⟨W5, hW5⟩ : ∃ W, W = w4.setCell ⟨b4, o4, none⟩ (.int .u8 (x0 % 128)) := ⟨_, rfl⟩
  rw [← hW5] at k3 k4
  have hI5 : ∀ v ∈ mkH z, IsB v := by rw [← hset]; intro v hv; rcases List.mem_or_eq_of_mem_set hv with h1 | h1; exact HI4.out v h1; (rw [h1]; unfold IsB; omega)
  obtain ⟨b5, hb5, hl5, hleft5⟩ := left_of k3 hI5 (by omega)
  obtain rfl : b4 = b5 := by simpa [blkV] using hb5
  have hpl := HL3.out.slt p rfl
  have hL5 : LgS w W5 p (fun b => b = p) Rc0 := HL3.out.keep ((Mods.of_below HB4.out).tr (k4.weak (fun b hb => .inl (by rw [hb]; exact hge4))))
  have HA5 := hid (hL5.add b4 _ (F + 4) c4 (mkH z) hleft5 (by omega) ⟨hl5, fun e => by have h1 : b4 = p := e; omega⟩ [] 0 _ (long_1 z (by rw [HZL.out]; omega)))
  have HW5 := hid hW5.symm
  clear HL3 HR4 HI4 HK4 HB4 hbk4 hge4 hlt4 hx0 hIx0 k3 k4 hset hW5 hI5 hb5 hl5 hleft5 hpl hL5
  go_upto_region 12 with fail
  rw [HW5.out]
  clear k1 k2 hand HW5
  go_upto_region 13 with (go_at_call 8; refine HA5.out.mono ?_; rintro e w6 ⟨v6, S6, T6, rfl, hg6, _, ho6, _⟩; have HL6 := hid hg6; have HO6 := hid ho6; clear hg6 ho6 HA5)
  obtain ⟨a6, c6, rfl⟩ := HO6.out.zero
  clear HO6
  go_upto_region 15 with fail
  obtain ⟨W7, hW7⟩ : ∃ W, W = w6.alloc (.cells (madeCells #[.int .u8 0] K) 5) := ⟨_, rfl⟩
  have hmk : (Instr.makeSlice 27 (.int .i64 (K : Int)) (.int .i64 (K : Int))).run Tryd.prog w6 = .ok (.slice (some ⟨w6.heap.size, 0, none⟩) K K) W7 := by rw [hW7]; exact run_zeros w6 K (by omega)
  have b7 : Below w6.heap.size w6 W7 := by rw [hW7]; exact below_alloc (Below.refl _ _) (Nat.le_refl _) _
  have hz7 : Bytes W7 (some ⟨w6.heap.size, 0, none⟩) y := by rw [hW7, ← HY.out]; exact make_zeros w6 K
  have HL7 := hid (HL6.out.later b7)
  have HMA := hid (Mark_any W7 (some ⟨w6.heap.size, 0, none⟩) K K y HYL.out (by omega) hz7)
  obtain ⟨o2, ec2, r2, he2, hcase⟩ : ∃ o ec r, addR ⟨[], 0, false, false, z, false⟩ (mkL y) = (o, ec, r) ∧ ((16384 < N ∧ ec = 5 ∧ o = [] ∧ r.dd = true) ∨ (N ≤ 16384 ∧ ec = 0 ∧ o = [z ++ y] ∧ r = ⟨[], 0, true, false, [], false⟩)) := by
    have h1 := HZL.out
    have h2 := HYL.out
    by_cases hbig : 16384 < N
    · obtain ⟨r, h3, h4⟩ := long_d z y (by omega) (by omega)
      exact ⟨_, _, _, h4, .inl ⟨hbig, rfl, rfl, h3⟩⟩
    · exact ⟨_, _, _, long_2 z y (by omega), .inr ⟨by omega, rfl, rfl, rfl⟩⟩
  obtain ⟨o3, ec3, r3, he3, hcase3⟩ : ∃ o ec r, addR r2 (mkL bl) = (o, ec, r) ∧ ((16384 < N ∧ ec = 5 ∧ o = []) ∨ (N ≤ 16384 ∧ ec = 0 ∧ o = [bl])) := by
    rcases hcase with ⟨h1, _, _, h4⟩ | ⟨h1, _, _, h4⟩
    · exact ⟨_, _, _, long_e r2 h4 _, .inl ⟨h1, rfl, rfl⟩⟩
    · rw [h4]; exact ⟨_, _, _, long_3 bl (by rw [HNB.out]; omega), .inr ⟨h1, rfl, rfl⟩⟩
  have HC2 := hid hcase
  have HC3 := hid hcase3
  have HE2 := hid he2
  have HE3 := hid he3
  clear b7 hz7 hW7 HL6 hcase hcase3 he2 he3
  go_upto_region 16 with (first
    | (go_at_call 10
       refine HMA.out.mono ?_
       rintro e w8 ⟨a8, c8, rfl, hr8, hi8, hk8, hb8⟩
       obtain ⟨b8, hq8, hl8, hleft8⟩ := left_of hr8 hi8 (by omega)
       have hge8 := hk8 b8 hq8
       have HA8 := hid ((HL7.out.later hb8).add b8 a8 (K + 4) c8 (mkL y) hleft8 (by omega) ⟨hl8, fun e => by have := HL7.out.slt b8 e; omega⟩ o2 ec2 r2 HE2.out)
       clear hr8 hi8 hk8 hb8 hq8 hl8 hleft8 hge8 HMA HL7)
    | (go_at_call 8; refine HA8.out.mono ?_; rintro e w9 ⟨v9, S9, T9, rfl, hg9, _, ho9, ht9⟩; have HL9 := hid hg9; have HO9 := hid ho9; have HT9 := hid ht9; clear hg9 ho9 ht9 HA8))
  clear hmk
  have HMB := hid (Mark_any w9 ab nb cb bl HNB.out (by omega) (HB.out.later HL9.out.below))
  go_upto_region 17 with (first
    | (go_at_call 10
       refine HMB.out.mono ?_
       rintro e w10 ⟨a10, c10, rfl, hr10, hi10, hk10, hb10⟩
       obtain ⟨b10, hq10, hl10, hleft10⟩ := left_of hr10 hi10 (by omega)
       have hge10 := hk10 b10 hq10
       have HA10 := hid ((HL9.out.later hb10).add b10 a10 (nb + 4) c10 (mkL bl) hleft10 (by omega) ⟨hl10, fun e => by have := HL9.out.slt b10 e; omega⟩ o3 ec3 r3 HE3.out)
       have HO10 := hid (HO9.out.later hb10)
       have HT10 : Hid (∀ b, T9 b → ¬ S9 b ∧ b < w10.heap.size) := hid (fun b hb => ⟨(HT9.out b hb).1, Nat.lt_of_lt_of_le (HT9.out b hb).2 hb10.size⟩)
       clear hr10 hi10 hk10 hb10 hq10 hl10 hleft10 hge10 HMB HL9 HO9 HT9)
    | (go_at_call 8; refine HA10.out.mono ?_; rintro e w11 ⟨v11, S11, T11, rfl, hg11, hk11, ho11, ht11⟩; have HB11 := hid hg11.below; have HO11 := hid ho11; have HOX := hid (HO10.out.keep (fun b hb hl => hk11.block hl (HT10.out b hb).1)); clear hg11 hk11 ho11 ht11 HA10 HO10))
  rcases HC3.out with ⟨hbig, rfl, rfl⟩ | ⟨hbig, rfl, rfl⟩
  · obtain ⟨e2, e3⟩ : ec2 = 5 ∧ o2 = [] := by
      rcases HC2.out with h | h
      · exact ⟨h.2.1, h.2.2.1⟩
      · omega
    subst e2 e3
    obtain ⟨a9, c9, rfl⟩ := HOX.out.zero
    obtain ⟨a11, c11, rfl⟩ := HO11.out.zero
    have hq : (16384 : Int) < (N : Int) := by omega
    go_wp2
    go_ret
    exact ⟨rfl, HB11.out⟩
  · obtain ⟨e2, e3⟩ : ec2 = 0 ∧ o2 = [z ++ y] := by
      rcases HC2.out with h | h
      · omega
      · exact ⟨h.2.1, h.2.2.1⟩
    subst e2 e3
    obtain ⟨g9, og9, c9, a9, ca9, rfl, hc9, hx9, hy9⟩ := HOX.out.one
    obtain ⟨g11, og11, c11, a11, ca11, rfl, hc11, hx11, hy11⟩ := HO11.out.one
    have e5 : (z ++ y).length = N := by rw [List.length_append, HZL.out, HYL.out]; omega
    rw [e5] at hx9
    rw [HNB.out] at hx11
    have hq : ¬ (16384 : Int) < (N : Int) := by omega
    have hcv1 : ∀ q, (convert 27 9 (.slice a11 nb ca11)).run Tryd.prog (w11.drewN q) = .ok (.string (strOfNums bl)) (w11.drewN q) := fun q => conv0 (hy11.drewN q) HNB.out
    have hcv2 : ∀ q, (convert 27 9 (.slice ab nb cb)).run Tryd.prog (w11.drewN q) = .ok (.string (strOfNums bl)) (w11.drewN q) := fun q => conv0 ((HB.out.later HB11.out).drewN q) HNB.out
    have hx9q : ∀ q, (w11.drewN q).cell? ⟨g9, og9, none⟩ = some (.slice a9 N ca9) := fun q => hx9
    have hx11q : ∀ q, (w11.drewN q).cell? ⟨g11, og11, none⟩ = some (.slice a11 nb ca11) := fun q => hx11
    clear e5 hy9 hy11
    go_wp2_with fail
    go_quiet (fail)
    go_wp2
    go_ret
    have hfin := below_drewN HB11.out nq
    refine ⟨?_, hfin⟩
    simp
/-- The law. -/
theorem RpcLong_walk (w : World) (hG : Gl w) (n0 f0 : Int) (ab : Option Addr) (nb cb : Nat) (bl : List Int) (hnb : bl.length = nb) (hb : Bytes w ab bl) :
    Calls Tryd.prog 5 #[.int .i64 n0, .int .i64 f0, .slice ab nb cb] w fun e w' => e = .returned (.bool true) ∧ Below w.heap.size w w' := by
  by_cases hs : nb ≤ 1000
  · exact RpcLong_main w hG n0 f0 ab nb cb bl hnb hb hs
  · exact RpcLong_short w hG n0 f0 ab nb cb (by omega)
end Go.Proofs.YtbfdkbdjipiliaaDoor
