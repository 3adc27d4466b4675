/- TcpWindow's walk. -/
import Derived.Test.YtmmijbiapflneaaTjB
namespace Go.Proofs.Ytmmijbiapflneaa
open Go.RowKit Go.Maps
set_option linter.unusedVariables false
/-- A number modulo n, from 0 on. -/
def wi (at_ n : Int) : Int := if at_.tmod n < 0 then at_.tmod n + n else at_.tmod n
theorem wi_bd (at_ n : Int) (h : 0 < n) : 0 ≤ wi at_ n ∧ wi at_ n < n := by
  unfold wi
  have h1 := Int.tmod_lt_of_pos at_ h
  have h2 : -n < at_.tmod n := by
    rcases Int.lt_or_le at_ 0 with h3 | h3
    · have h4 := Int.neg_tmod (-at_) n
      rw [Int.neg_neg] at h4
      rw [h4]
      have := Int.tmod_lt_of_pos (-at_) h
      omega
    · have := Int.tmod_nonneg n h3
      omega
  split <;> omega
theorem wrap_wi {x n : Int} (h0 : 0 < n) (hn : n < 1099511627776) (h : x.tmod n < 0) : IntKind.i64.wrap (x.tmod n + n) = x.tmod n + n := by
  have h1 := wi_bd x n h0
  unfold wi at h1
  rw [if_pos h] at h1
  exact IntWalk.i64_in _ (by omega)
set_option maxHeartbeats 400000 in
theorem lwithin_any (x n : Int) (h0 : 0 < n) (hn : n < 1099511627776) (w : World) : Calls Try.prog 11 #[.int .i64 x, .int .i64 n] w fun e w' => e = .returned (.int .i64 (wi x n)) ∧ w' = w := by
  have hne : ¬ (n = 0) := by omega
  have hne' : n ≠ 0 := by omega
  by_cases h : x.tmod n < 0
  · have hw := wrap_wi h0 hn h
    have e : wi x n = x.tmod n + n := by unfold wi; rw [if_pos h]
    rw [e]
    go_enter Try.func11, Try.ntmps11
    go_wp2
    go_ret
    exact ⟨rfl, rfl⟩
  · have e : wi x n = x.tmod n := by unfold wi; rw [if_neg h]
    rw [e]
    go_enter Try.func11, Try.ntmps11
    go_wp2
    go_ret
    exact ⟨rfl, rfl⟩
theorem make_zeros (W : World) (N : Nat) : Bytes (W.alloc (.cells (madeCells #[.int .u8 0] N) 5)) (some ⟨W.heap.size, 0, none⟩) (List.replicate N 0) :=
  Bytes.mk_ (fun x hx => by rw [List.eq_of_mem_replicate hx]; unfold IsB; omega) (fun i hi => by
    have hi2 : i < N := by simpa using hi
    refine cell_of (alloc_new W _) ?_
    rw [Nat.zero_add, ← Array.getElem?_toList, toList_madeCells_one]
    simp [hi2])
theorem Bytes.kp {W W' : World} {S S' : Nat → Prop} {g o : Nat} {l : List Int} (h : Bytes W (some ⟨g, o, none⟩) l) (hg : g < W.heap.size) (hn : ¬ S g) (hk : Kp S W S' W') : Bytes W' (some ⟨g, o, none⟩) l := by
  intro i hi
  obtain ⟨b, off, e, h1, h2⟩ := h i hi
  obtain ⟨rfl, rfl, _⟩ : g = b ∧ o = off ∧ True := by simpa using e
  exact ⟨g, o, rfl, (World.cell?_of_block (hk.block hg hn)).trans h1, h2⟩
theorem far_arith {R : Int} {G F : Nat} (h1 : G ≤ 16384) (h2 : 16384 ≤ F) (h3 : F < 16500) : 16384 - (G : Int) ≤ s32 (a32 R F) (a32 R G) ∧ ((3 : Int) ≤ s32 (a32 R G) (a32 R F) ∨ G = 16384) := by
  unfold s32 a32
  constructor
  · omega
  · by_cases h : G = 16384
    · exact .inr h
    · left; omega
theorem zeros_clip (G K : Nat) : List.replicate G (0 : Int) ++ (List.replicate K 0).take (16384 - G) = List.replicate (G + min (16384 - G) K) 0 := by
  rw [List.take_replicate, ← List.replicate_append_replicate]
theorem a32_a32 (a : Int) (m n : Nat) : a32 (a32 a m) n = a32 a ((m + n : Nat) : Int) := by unfold a32; omega
set_option maxRecDepth 100000 in
set_option maxHeartbeats 32000000 in
theorem TcpWindow_walk (w : World) (seq n : Int) (recv : Bool) (bey : Int) (hs : IsU seq) :
    Calls Try.prog 3 #[.int .u32 seq, .int .i64 n, .bool recv, .int .i64 bey] w fun e w' => e = .returned (.bool true) ∧ Below w.heap.size w w' := by
  have HKN := hid (known_any w)
  have hOP : ∀ W, Calls Try.prog 10 #[.int .u32 seq, .int .u32 9, .int .i64 4000] W fun e w' => ∃ p S, e = .returned (.pointer (some ⟨p, 0, none⟩)) ∧ CnAt w' p S (sC (a32 seq 1) 10 [] 4000 false) ∧ Below W.heap.size W w' ∧ ∀ b, S b → W.heap.size ≤ b := fun W => opened_any W seq 9 4000 hs (by unfold IsU; omega)
  obtain ⟨R, hR⟩ : ∃ x, a32 seq 1 = x := ⟨_, rfl⟩
  have hRu : IsU R := by rw [← hR]; exact a32_u _ _
  have q1 := wrapU_add seq 1
  rw [hR] at hOP q1
  have HOP := hid hOP
  obtain ⟨n0, hn0⟩ : ∃ m : Nat, wi n 17000 = m := ⟨(wi n 17000).toNat, by have := wi_bd n 17000 (by omega); omega⟩
  have hnb : n0 < 17000 := by have := wi_bd n 17000 (by omega); omega
  have HW1 : Hid (∀ W, Calls Try.prog 11 #[.int .i64 n, .int .i64 17000] W fun e w' => e = .returned (.int .i64 (n0 : Int)) ∧ w' = W) := hid (fun W => by have := lwithin_any n 17000 (by omega) (by omega) W; rwa [hn0] at this)
  obtain ⟨f0, hf0⟩ : ∃ m : Nat, wi bey 100 = m := ⟨(wi bey 100).toNat, by have := wi_bd bey 100 (by omega); omega⟩
  have hfb : f0 < 100 := by have := wi_bd bey 100 (by omega); omega
  have HW2 : Hid (∀ W, Calls Try.prog 11 #[.int .i64 bey, .int .i64 100] W fun e w' => e = .returned (.int .i64 (f0 : Int)) ∧ w' = W) := hid (fun W => by have := lwithin_any bey 100 (by omega) (by omega) W; rwa [hf0] at this)
  have HRu := hid hRu
  have kc := fun (w : World) (C : Array Value) (n c : Nat) => Lib.run_convert_bytes_const (P := Try.prog) w 28 5 C n c Try.underlying28 Try.underlying5
  clear hOP hR hs hn0 hf0
  go_enter Try.func3, Try.ntmps3
  go_wp2_with (first
    | (go_at_call 9; refine HKN.out.mono ?_; rintro e w1 ⟨rfl, hb1⟩; have HB1 := hid hb1; clear hb1 HKN)
    | (go_at_call 10; refine (HOP.out _).mono ?_; rintro e w2 ⟨p, S2, rfl, hx2, hb2, hs2⟩
       have HX2 := hid hx2
       have HB2 : Hid (Below w.heap.size w w2 ∧ ∀ b, S2 b → w.heap.size ≤ b) := hid ⟨HB1.out.trans (hb2.mono HB1.out.size), fun b hb => Nat.le_trans HB1.out.size (hs2 b hb)⟩
       clear hx2 hb2 hs2 HOP HB1)
    | (go_at_call 11; refine (HW1.out _).mono ?_; rintro e w5 ⟨rfl, hw5⟩; subst hw5; clear HW1))
  go_loopw [10, 11, 12, 13] (fun z10 z11 _ _ wr => ∃ (A G : Nat) (Sj : Nat → Prop), A % 1000 = 0 ∧ A < n0 + 1000 ∧ G = min 16384 (min A n0) ∧ z10 = .int .i64 (G : Int) ∧ z11 = .int .i64 (A : Int) ∧ CnAt wr p Sj (sC (a32 R G) 10 (List.replicate G 0) 4000 false) ∧ Below w.heap.size w wr ∧ ∀ b, Sj b → w.heap.size ≤ b) (fun _ z11 _ _ _ => n0 - (RowKit.intOf z11).toNat)
  case atStart => exact ⟨0, 0, S2, rfl, by omega, by simp, rfl, rfl, by rw [show ((0 : Nat) : Int) = 0 from rfl, a32_0 HRu.out]; exact HX2.out, HB2.out.1, HB2.out.2⟩
  case round =>
    obtain ⟨A, G, Sj, hA, hAn, hG, rfl, rfl, hx, hb, hsj⟩ := hrel
    clear HX2 HB2
    have HXj := hid hx
    have HBj := hid (And.intro hb hsj)
    have HGE := hid hG
    clear hx hb hsj
    by_cases hlt : A < n0
    · have hlti : (A : Int) < n0 := by omega
      have hGA : G = A := by omega
      subst hGA
      obtain ⟨K, hK⟩ : ∃ K, K = min 1000 (n0 - G) := ⟨_, rfl⟩
      obtain ⟨D, hD⟩ : ∃ D, D = n0 - G := ⟨_, rfl⟩
      obtain ⟨GK, hGK⟩ : ∃ x, x = G + K := ⟨_, rfl⟩
      obtain ⟨G2, hG2⟩ : ∃ x, x = min 16384 GK := ⟨_, rfl⟩
      obtain ⟨A2, hA2⟩ : ∃ x, x = G + 1000 := ⟨_, rfl⟩
      have w1 : IntKind.i64.wrap ((n0 : Int) - (G : Int)) = (D : Int) := by rw [IntWalk.i64_in _ (by omega)]; omega
      have w2' : IntKind.i64.wrap ((G : Int) + (K : Int)) = (GK : Int) := by rw [IntWalk.i64_in _ (by omega)]; omega
      have w3' : IntKind.i64.wrap ((G : Int) + 1000) = (A2 : Int) := by rw [IntWalk.i64_in _ (by omega)]; omega
      have m1 : ∀ ats ty W, (Builtin.min_ ats ty #[.int .i64 1000, .int .i64 (D : Int)]).run Try.prog W = .ok (.int .i64 (K : Int)) W := fun ats ty W => by
        rw [min_run]
        have : min (1000 : Int) (D : Int) = (K : Int) := by omega
        rw [this]
      have m2 : ∀ ats ty W, (Builtin.min_ ats ty #[.int .i64 16384, .int .i64 (GK : Int)]).run Try.prog W = .ok (.int .i64 (G2 : Int)) W := fun ats ty W => by
        rw [min_run]
        have : min (16384 : Int) (GK : Int) = (G2 : Int) := by omega
        rw [this]
      have u1 := wrapU_nat G (by omega)
      have u2 := wrapU_nat G2 (by omega)
      have u3 := wrapU_add R G
      have u4 := wrapU_add R G2
      have w4' : IntKind.i64.wrap (16384 - (G2 : Int)) = 16384 - (G2 : Int) := IntWalk.i64_in _ (by omega)
      obtain ⟨RA, hRA⟩ : ∃ x, a32 R G = x := ⟨_, rfl⟩
      obtain ⟨RB_, hRB⟩ : ∃ x, a32 R G2 = x := ⟨_, rfl⟩
      obtain ⟨W3, hW3⟩ : ∃ W, W = wr.alloc (.cells (madeCells #[.int .u8 0] K) 5) := ⟨_, rfl⟩
      have hmk : (Instr.makeSlice 28 (.int .i64 (K : Int)) (.int .i64 (K : Int))).run Try.prog wr = .ok (.slice (some ⟨wr.heap.size, 0, none⟩) K K) W3 := by
        rw [hW3]
        exact run_make_row' (P := Try.prog) 28 5 (.int .u8 0) 1 Try.underlying28 info5 rfl .i64 .i64 K (by omega) (by omega) wr
      have b3 : Below wr.heap.size wr W3 := by rw [hW3]; exact below_alloc (Below.refl _ _) (Nat.le_refl _) _
      have hyz : Bytes W3 (some ⟨wr.heap.size, 0, none⟩) (List.replicate K 0) := by rw [hW3]; exact make_zeros wr K
      have hsz3 : wr.heap.size < W3.heap.size := by rw [hW3]; simp
      have HYZ : Hid (∀ W', Kp Sj W3 Sj W' → Bytes W' (some ⟨wr.heap.size, 0, none⟩) (List.replicate K 0)) := hid (fun W' hk => hyz.kp hsz3 (fun e => by have := HXj.out.lt _ e; omega) hk)
      have HX3 := hid (HXj.out.later b3)
      have HB3 : Hid (Below w.heap.size w W3 ∧ ∀ b, Sj b → w.heap.size ≤ b) := hid ⟨HBj.out.1.trans (b3.mono HBj.out.1.size), HBj.out.2⟩
      clear b3 hyz hsz3 hW3
      have hRAu : IsU RA := by rw [← hRA]; exact a32_u _ _
      have HT : Hid (∀ W a, CnAt W p Sj (sC RA 10 (List.replicate G 0) 4000 false) → (∀ W', Kp Sj W Sj W' → Bytes W' a (List.replicate K 0)) → Calls Try.prog 12 #[.pointer (some ⟨p, 0, none⟩), .agg (sgC 0 0 RA 10 16 4000 0 (.slice a K K))] W fun e w' => e = .returned undef ∧ ∃ S', CnAt w' p S' (sC RB_ 10 (List.replicate G2 0) 4000 true) ∧ Kp Sj W S' w') := hid (fun W a h hb => sC_Take h hRAu (by simp; omega) 0 0 RA 4000 0 (List.replicate K 0) a K K hRAu (by simp) (by omega) (Nat.le_refl _) hb _ (by
        rw [sC_ord RA 10 (List.replicate G 0) 4000 false 0 0 4000 0 (List.replicate K 0) (by simp; omega)]
        have e1 : (List.replicate G (0 : Int)).length = G := by simp
        rw [e1, zeros_clip]
        have e2 : ((List.replicate K (0 : Int)).take (16384 - G)).length = min (16384 - G) K := by simp
        rw [e2, ← hRA, a32_a32]
        have e3 : G + min (16384 - G) K = G2 := by omega
        rw [e3, hRB]
        have e4 : (List.replicate K (0 : Int)).isEmpty = false := by
          obtain ⟨j, rfl⟩ : ∃ j, K = j + 1 := ⟨K - 1, by omega⟩
          rfl
        rw [e4]
        rfl))
      have HO : Hid (∀ W S', CnAt W p S' (sC RB_ 10 (List.replicate G2 0) 4000 true) → Calls Try.prog 13 #[.pointer (some ⟨p, 0, none⟩)] W fun e w' => ∃ b off cap, e = .returned (.slice (some ⟨b, off, none⟩) 1 cap) ∧ 1 ≤ cap ∧ w'.cell? ⟨b, off + 3, none⟩ = some (.int .u32 RB_) ∧ w'.cell? ⟨b, off + 5, none⟩ = some (.int .i64 (16384 - (G2 : Int))) ∧ CnAt w' p S' (sC RB_ 10 (List.replicate G2 0) 4000 false) ∧ Kp S' W S' w') := hid (fun W S' h => by
        have := sC_Out1 h (by simp; omega)
        rwa [List.length_replicate] at this)
      have hrr : (RB_ != RB_) = false := by simp
      have HREL : Hid (A2 % 1000 = 0 ∧ A2 < n0 + 1000 ∧ G2 = min 16384 (min A2 n0) ∧ n0 - A2 < n0 - G) := hid (by refine ⟨?_, ?_, ?_, ?_⟩ <;> omega)
      have HRB := hid hRB
      rw [hRA] at u3 HX3
      clear HXj HBj
      rw [hRB] at u4
      clear hA hAn hG hK hD hGK hG2 hA2 hRA hRB hRAu HGE hnb hfb
      go_wp2_with (first
        | (go_at_call 12; refine (HT.out _ _ HX3.out HYZ.out).mono ?_; rintro e w5 ⟨rfl, S5, hx5, hk5⟩
           have HX5 := hid hx5
           have HB5 := hid (hk5.below0 HB3.out.1 HB3.out.2)
           clear hx5 hk5 HT HX3 HB3 HYZ)
        | (go_at_call 13; refine (HO.out _ _ HX5.out).mono ?_; rintro e w6 ⟨b, off, cap, rfl, hcap, c3, c5, hx6, hk6⟩
           have HX6 := hid hx6
           have HB6 := hid (hk6.below0 HB5.out.1 HB5.out.2)
           clear hx6 hk6 HO HX5 HB5))
      go_roundw
      case rel => exact ⟨A2, G2, S5, HREL.out.1, HREL.out.2.1, HREL.out.2.2.1, rfl, rfl, by rw [HRB.out]; exact HX6.out, HB6.out.1, HB6.out.2⟩
      case measure => have := HREL.out.2.2.2; simp [RowKit.intOf]; omega
    · have hlti : ¬ ((A : Int) < n0) := by omega
      have hGb : G ≤ 16384 := by omega
      obtain ⟨F, hF⟩ : ∃ x, x = 16384 + f0 := ⟨_, rfl⟩
      have w1 : IntKind.i64.wrap (16384 + (f0 : Int)) = (F : Int) := by rw [IntWalk.i64_in _ (by omega)]; omega
      have u1 := wrapU_nat F (by omega)
      have u2 := wrapU_nat G (by omega)
      have u3 := wrapU_add R F
      have u4 := wrapU_add R G
      have w4' : IntKind.i64.wrap (16384 - (G : Int)) = 16384 - (G : Int) := IntWalk.i64_in _ (by omega)
      obtain ⟨far1, far2⟩ := far_arith (R := R) hGb (show 16384 ≤ F by omega) (by omega)
      have hRGu : IsU (a32 R G) := a32_u _ _
      have hQu : IsU (a32 R F) := a32_u _ _
      obtain ⟨RG, hRG⟩ : ∃ x, a32 R G = x := ⟨_, rfl⟩
      obtain ⟨Q, hQ⟩ : ∃ x, a32 R F = x := ⟨_, rfl⟩
      rw [hRG] at far1 far2 u4 HXj hRGu
      rw [hQ] at far1 far2 u3 hQu
      have HT : Hid (∀ W S' a, CnAt W p S' (sC RG 10 (List.replicate G 0) 4000 false) → (∀ W', Kp S' W S' W' → Bytes W' a [102, 97, 114]) → Calls Try.prog 12 #[.pointer (some ⟨p, 0, none⟩), .agg (sgC 0 0 Q 10 16 4000 0 (.slice a 3 3))] W fun e w' => e = .returned undef ∧ ∃ S2, CnAt w' p S2 (sC RG 10 (List.replicate G 0) 4000 true) ∧ Kp S' W S2 w') := hid (fun W S' a h hb => sC_Take h hRGu (by simp; omega) 0 0 Q 4000 0 [102, 97, 114] a 3 3 hQu rfl (by omega) (Nat.le_refl _) hb _ (sC_far RG 10 (List.replicate G 0) 4000 false 0 0 Q 4000 0 [102, 97, 114] hRGu (by simp; omega) (by simpa using far1) (by simpa using far2)))
      have HO : Hid (∀ W S', CnAt W p S' (sC RG 10 (List.replicate G 0) 4000 true) → Calls Try.prog 13 #[.pointer (some ⟨p, 0, none⟩)] W fun e w' => ∃ b off cap, e = .returned (.slice (some ⟨b, off, none⟩) 1 cap) ∧ 1 ≤ cap ∧ w'.cell? ⟨b, off + 3, none⟩ = some (.int .u32 RG) ∧ CnAt w' p S' (sC RG 10 (List.replicate G 0) 4000 false) ∧ Kp S' W S' w') := hid (fun W S' h => by
        refine (sC_Out1 h (by simp; omega)).mono ?_
        rintro e w' ⟨b, off, cap, h1, h2, h3, _, h5, h6⟩
        exact ⟨b, off, cap, h1, h2, h3, h5, h6⟩)
      have HST : Hid (∀ W S', CnAt W p S' (sC RG 10 (List.replicate G 0) 4000 false) → Calls Try.prog 14 #[.pointer (some ⟨p, 0, none⟩)] W fun e w' => e = .returned (.int .i64 2) ∧ w' = W) := hid (fun W S' h => sC_State h)
      obtain ⟨OK2, hOK2⟩ : ∃ x, decide (16384 - (G : Int) < 1460) = x := ⟨_, rfl⟩
      have HR1 : Hid (∀ W S', CnAt W p S' (sC RG 10 (List.replicate G 0) 4000 false) → Calls Try.prog 15 #[.pointer (some ⟨p, 0, none⟩)] W fun e w' => ∃ a k, e = .returned (.slice a G k) ∧ CnAt w' p S' (sC RG 10 [] 4000 OK2) ∧ Kp S' W S' w') := hid (fun W S' h => by
        have := Recv_at h (by show (List.replicate G (0 : Int)).length ≤ 16384; simp; omega) (fun x hx => by rw [List.eq_of_mem_replicate (show x ∈ List.replicate G (0 : Int) from hx)]; unfold IsB; omega)
        rw [show (sC RG 10 (List.replicate G 0) 4000 false).came = List.replicate G 0 from rfl, sC_recv, List.length_replicate, hOK2] at this
        exact this.mono (fun e w' ⟨a, k, h1, h2, h3, h4⟩ => ⟨a, k, h1, h3, h4⟩))
      have HR2 : Hid (∀ W S', CnAt W p S' (sC RG 10 [] 4000 false) → Calls Try.prog 15 #[.pointer (some ⟨p, 0, none⟩)] W fun e w' => ∃ a k, e = .returned (.slice a 0 k) ∧ (∃ ok, CnAt w' p S' (sC RG 10 [] 4000 ok)) ∧ Kp S' W S' w') := hid (fun W S' h => by
        have := Recv_at h (by show (0 : Nat) ≤ 16384; omega) (fun x hx => by cases hx)
        rw [sC_recv] at this
        exact this.mono (fun e w' ⟨a, k, h1, h2, h3, h4⟩ => ⟨a, k, h1, ⟨_, h3⟩, h4⟩))
      have hrr : (RG != RG) = false := by simp
      have hgg : ((G : Int) != (G : Int)) = false := by simp
      obtain ⟨W3, hW3⟩ : ∃ W, W = wr.alloc (.cells #[.int .u8 102, .int .u8 97, .int .u8 114] 5 (3, 4)) := ⟨_, rfl⟩
      have b3 : Below wr.heap.size wr W3 := by rw [hW3]; exact below_alloc (Below.refl _ _) (Nat.le_refl _) _
      have hyz : Bytes W3 (some ⟨wr.heap.size, 0, none⟩) [102, 97, 114] := by rw [hW3]; exact (by_const wr [102, 97, 114] (3, 4) (fun x hx => by simp at hx; unfold IsB; omega)).bytes
      have hsz3 : wr.heap.size < W3.heap.size := by rw [hW3]; simp
      have HYZ : Hid (∀ W', Kp Sj W3 Sj W' → Bytes W' (some ⟨wr.heap.size, 0, none⟩) [102, 97, 114]) := hid (fun W' hk => hyz.kp hsz3 (fun e => by have := HXj.out.lt _ e; omega) hk)
      have HX3 := hid (HXj.out.later b3)
      have HB3 : Hid (Below w.heap.size w W3 ∧ ∀ b, Sj b → w.heap.size ≤ b) := hid ⟨HBj.out.1.trans (b3.mono HBj.out.1.size), HBj.out.2⟩
      have HW3 := hW3.symm
      clear b3 hyz hsz3 hW3 HXj HBj hA hAn hG HGE hF far1 far2 hRGu hQu hRG hQ hnb hfb hGb hlt
      cases recv with
      | false =>
        clear hOK2
        go_wp2_with (first
          | (go_at_call 11; refine (HW2.out _).mono ?_; rintro e w4 ⟨rfl, hw4⟩; subst hw4; clear HW2)
          | (go_at_call 12; refine (HT.out _ _ _ HX3.out HYZ.out).mono ?_; rintro e w5 ⟨rfl, S5, hx5, hk5⟩
             have HX5 := hid hx5
             have HB5 := hid (hk5.below0 HB3.out.1 HB3.out.2)
             clear hx5 hk5 HT HX3 HB3 HYZ HW3 kc)
          | (go_at_call 13; refine (HO.out _ _ HX5.out).mono ?_; rintro e w6 ⟨b, off, cap, rfl, hcap, c3, hx6, hk6⟩
             have HX6 := hid hx6
             have HB6 := hid (hk6.below0 HB5.out.1 HB5.out.2)
             clear hx6 hk6 HO HX5 HB5)
          | (go_at_call 14; refine (HST.out _ _ HX6.out).mono ?_; rintro e w7 ⟨rfl, hw7⟩; subst hw7; clear HST))
        go_ret
        exact ⟨rfl, HB6.out.1⟩
      | true =>
        cases OK2 with
        | true =>
          have hd : 16384 - (G : Int) < 1460 := of_decide_eq_true hOK2
          have HO2 : Hid (∀ W S', CnAt W p S' (sC RG 10 [] 4000 true) → Calls Try.prog 13 #[.pointer (some ⟨p, 0, none⟩)] W fun e w' => ∃ b off cap, e = .returned (.slice (some ⟨b, off, none⟩) 1 cap) ∧ 1 ≤ cap ∧ w'.cell? ⟨b, off + 5, none⟩ = some (.int .i64 16384) ∧ CnAt w' p S' (sC RG 10 [] 4000 false) ∧ Kp S' W S' w') := hid (fun W S' h => by
            refine (sC_Out1 h (by simp)).mono ?_
            rintro e w' ⟨b, off, cap, h1, h2, _, h4, h5, h6⟩
            exact ⟨b, off, cap, h1, h2, h4, h5, h6⟩)
          clear hOK2
          go_wp2_with (first
            | (go_at_call 11; refine (HW2.out _).mono ?_; rintro e w4 ⟨rfl, hw4⟩; subst hw4; clear HW2)
            | (go_at_call 12; refine (HT.out _ _ _ HX3.out HYZ.out).mono ?_; rintro e w5 ⟨rfl, S5, hx5, hk5⟩
               have HX5 := hid hx5
               have HB5 := hid (hk5.below0 HB3.out.1 HB3.out.2)
               clear hx5 hk5 HT HX3 HB3 HYZ HW3 kc)
            | (go_at_call 13; refine (HO.out _ _ HX5.out).mono ?_; rintro e w6 ⟨b, off, cap, rfl, hcap, c3, hx6, hk6⟩
               have HX6 := hid hx6
               have HB6 := hid (hk6.below0 HB5.out.1 HB5.out.2)
               clear hx6 hk6 HO HX5 HB5)
            | (go_at_call 15; refine (HR1.out _ _ HX6.out).mono ?_; rintro e w7 ⟨a7, k7, rfl, hx7, hk7⟩
               have HX7 := hid hx7
               have HB7 := hid (hk7.below0 HB6.out.1 HB6.out.2)
               clear hx7 hk7 HR1 HX6 HB6 c3 hcap)
            | (go_at_call 13; refine (HO2.out _ _ HX7.out).mono ?_; rintro e w8 ⟨b8, off8, cap8, rfl, hcap8, c5, hx8, hk8⟩
               have HX8 := hid hx8
               have HB8 := hid (hk8.below0 HB7.out.1 HB7.out.2)
               clear hx8 hk8 HO2 HX7 HB7)
            | (go_at_call 15; refine (HR2.out _ _ HX8.out).mono ?_; rintro e w9 ⟨a9, k9, rfl, hx9, hk9⟩
               have HB9 := hid (hk9.below0 HB8.out.1 HB8.out.2)
               clear hx9 hk9 HR2 HX8 HB8))
          go_ret
          exact ⟨rfl, HB9.out.1⟩
        | false =>
          have hd : ¬ (16384 - (G : Int) < 1460) := of_decide_eq_false hOK2
          have HO2 : Hid (∀ W S', CnAt W p S' (sC RG 10 [] 4000 false) → Calls Try.prog 13 #[.pointer (some ⟨p, 0, none⟩)] W fun e w' => ∃ a cap, e = .returned (.slice a 0 cap) ∧ CnAt w' p S' (sC RG 10 [] 4000 false) ∧ Kp S' W S' w') := hid (fun W S' h => sC_Out0 h (by simp))
          clear hOK2
          go_wp2_with (first
            | (go_at_call 11; refine (HW2.out _).mono ?_; rintro e w4 ⟨rfl, hw4⟩; subst hw4; clear HW2)
            | (go_at_call 12; refine (HT.out _ _ _ HX3.out HYZ.out).mono ?_; rintro e w5 ⟨rfl, S5, hx5, hk5⟩
               have HX5 := hid hx5
               have HB5 := hid (hk5.below0 HB3.out.1 HB3.out.2)
               clear hx5 hk5 HT HX3 HB3 HYZ HW3 kc)
            | (go_at_call 13; refine (HO.out _ _ HX5.out).mono ?_; rintro e w6 ⟨b, off, cap, rfl, hcap, c3, hx6, hk6⟩
               have HX6 := hid hx6
               have HB6 := hid (hk6.below0 HB5.out.1 HB5.out.2)
               clear hx6 hk6 HO HX5 HB5)
            | (go_at_call 15; refine (HR1.out _ _ HX6.out).mono ?_; rintro e w7 ⟨a7, k7, rfl, hx7, hk7⟩
               have HX7 := hid hx7
               have HB7 := hid (hk7.below0 HB6.out.1 HB6.out.2)
               clear hx7 hk7 HR1 HX6 HB6 c3 hcap)
            | (go_at_call 13; refine (HO2.out _ _ HX7.out).mono ?_; rintro e w8 ⟨a8, cap8, rfl, hx8, hk8⟩
               have HX8 := hid hx8
               have HB8 := hid (hk8.below0 HB7.out.1 HB7.out.2)
               clear hx8 hk8 HO2 HX7 HB7)
            | (go_at_call 15; refine (HR2.out _ _ HX8.out).mono ?_; rintro e w9 ⟨a9, k9, rfl, hx9, hk9⟩
               have HB9 := hid (hk9.below0 HB8.out.1 HB8.out.2)
               clear hx9 hk9 HR2 HX8 HB8))
          go_ret
          exact ⟨rfl, HB9.out.1⟩
end Go.Proofs.Ytmmijbiapflneaa
