/- wholly: what is done to a view over a view is laid into it. -/
import Derived.Test.YtldlnidbeiggoaaGreatDoorIbJ
import Derived.Test.YtldlnidbeiggoaaGreatDoorVkR
namespace Go.Proofs.YtldlnidbeiggoaaGreatDoor
open Go.RowKit Go.Maps
set_option linter.unusedVariables false

variable {w w' : World} {pv n N : Nat} {S S' T : Nat → Prop} {i : Int} {base : Value} {P P' : Int → Option (List Int)} {bc c c' : Nat → List Int}
theorem Dw.congr (h : Dw w pv S N i base T bc n P c) (e : ∀ k, k < N → c k = c' k) : Dw w pv S N i base T bc n P c' :=
  ⟨h.v, h.t, fun k hk => (h.eq k hk).trans (e k hk), h.o, h.s, h.d, h.p, h.nN, fun k hk => by rw [← e k hk]; exact h.len k hk, fun k hk => by rw [← e k hk]; exact h.isB k hk⟩
theorem Dw.mono (h : Dw w pv S N i base T bc n P c) {n' : Nat} (hn : n ≤ n') : Dw w pv S N i base T bc n' P c := ⟨h.v.mono hn, h.t, h.eq, h.o, h.s, h.d, h.p, h.nN, h.len, h.isB⟩
def overC (c : Nat → List Int) (Pd : Int → Option (List Int)) (L : List Int) : Nat → List Int := fun k => if (k : Int) ∈ L then (Pd (k : Int)).getD [] else c k
theorem overC_nil (c : Nat → List Int) (Pd : Int → Option (List Int)) : overC c Pd [] = c := by funext k; simp [overC]
theorem overC_snoc (c : Nat → List Int) (Pd : Int → Option (List Int)) (L : List Int) (j : Nat) (hj : j < L.length) (x : Nat) (hx : L.getD j 0 = (x : Int)) (d : List Int) (hd : Pd (x : Int) = some d) : updN (overC c Pd (L.take j)) x d = overC c Pd (L.take (j + 1)) := by
  funext k
  unfold updN overC
  rw [take_snoc L j hj, hx]
  by_cases e : k = x
  · subst e
    rw [if_pos rfl, if_pos (by simp), hd]; rfl
  · rw [if_neg e]
    have e1 : ((k : Int) ∈ L.take j ++ [(x : Int)]) ↔ (k : Int) ∈ L.take j := by
      simp only [List.mem_append, List.mem_singleton]
      constructor
      · rintro (h | h)
        · exact h
        · omega
      · exact .inl
    by_cases e2 : (k : Int) ∈ L.take j
    · rw [if_pos e2, if_pos (e1.2 e2)]
    · rw [if_neg e2, if_neg (fun h => e2 (e1.1 h))]
set_option maxRecDepth 100000 in
set_option maxHeartbeats 1000000 in
theorem Super_vw {w : World} {pv n N : Nat} {S : Nat → Prop} {i : Int} {base : Value} {P : Int → Option (List Int)} (h : Vw w pv S N i base n P) : Calls Tryz.prog 87 #[.pointer (some ⟨pv, 0, none⟩)] w fun e w' => e = .returned (.agg #[n64 N, n64 i, n64 1, n64 2, n64 68, n64 69, n64 (planT N), n64 (planD N i)]) ∧ Below w.heap.size w w' := by
  obtain ⟨m, MV, hv, _⟩ := h
  obtain ⟨W0, hW0⟩ : ∃ W, W = w.alloc (.cells #[n64 0, n64 0, n64 0, n64 0, n64 0, n64 0, n64 0, n64 0] 168) := ⟨_, rfl⟩
  have hb0 : Below w.heap.size w W0 := by rw [hW0]; exact (Below.refl _ _).alloc (Nat.le_refl _) _
  have hh0 : W0.heap[w.heap.size]? = some (.cells #[n64 0, n64 0, n64 0, n64 0, n64 0, n64 0, n64 0, n64 0] 168 (0, 0)) := by rw [hW0]; exact alloc_new w _
  have hv0 := (hb0.block _ (Array.getElem?_eq_some_iff.1 hv).1).trans hv
  have k2 : W0.cell? ⟨pv, 2, none⟩ = some (n64 N) := cell_of hv0 rfl
  have k3 : W0.cell? ⟨pv, 3, none⟩ = some (n64 i) := cell_of hv0 rfl
  have k4 : W0.cell? ⟨pv, 4, none⟩ = some (n64 1) := cell_of hv0 rfl
  have k5 : W0.cell? ⟨pv, 5, none⟩ = some (n64 2) := cell_of hv0 rfl
  have k6 : W0.cell? ⟨pv, 6, none⟩ = some (n64 68) := cell_of hv0 rfl
  have k7 : W0.cell? ⟨pv, 7, none⟩ = some (n64 69) := cell_of hv0 rfl
  have k8 : W0.cell? ⟨pv, 8, none⟩ = some (n64 (planT N)) := cell_of hv0 rfl
  have k9 : W0.cell? ⟨pv, 9, none⟩ = some (n64 (planD N i)) := cell_of hv0 rfl
  obtain ⟨z0, z1, z2, z3, z4, z5, z6, z7⟩ := cells8 hh0
  have zf := fun k => froz_of hh0 k
  have HH := hid hh0
  have HB := hid hb0
  clear hb0 hh0 hv hv0
  go_enter Tryz.func87, Tryz.ntmps87
  go_wp2_with (rw [← hW0]; clear hW0)
  exact bodyPost_ret (results_c rfl _ _ _ _ _ _ rfl (set8_heap HH.out _ _ _ _ _ _ _ _) Tryz.underlying168 sizeSup) rfl ⟨rfl, set8_below HB.out (Nat.le_refl _) _ _ _ _ _ _ _ _⟩
set_option maxRecDepth 100000 in
set_option maxHeartbeats 4000000 in
theorem wholly_ok (hD : Dw w pv S N i base T bc n P c) (hn : n < 700000) (F : FuncId) (caps : Array Value) (hcf : ∀ (args : Array Value) (W : World), (callFunc F args).run Tryz.prog W = .ok (.enter F args) W) (Z : Nat → Prop) (R : World → (Nat → List Int) → Prop) (hZ : ∀ g, Z g → ¬ S g ∧ ¬ T g ∧ g < w.heap.size)
    (hR : ∀ w1 w2 c1 c2, R w1 c1 → (∀ g, Z g → w2.heap[g]? = w1.heap[g]?) → (∀ k, k < N → c1 k = c2 k) → R w2 c2)
    (hdo : ∀ W pd Sd, Below w.heap.size w W → Dw W pd Sd N i (underV pv) (fun g => S g ∨ T g) c 0 (fun _ => none) c → (∀ g, Sd g → w.heap.size ≤ g) → Calls Tryz.prog F (#[ptrV pd] ++ caps) W fun e w' => e = .returned .nilIface ∧ ∃ Sd' nd Pd c', Dw w' pd Sd' N i (underV pv) (fun g => S g ∨ T g) c nd Pd c' ∧ nd ≤ 1000 ∧ Mods (fun g => Sd g ∨ Z g) W w' ∧ (∀ g, Sd' g → w.heap.size ≤ g) ∧ R w' c') :
    Calls Tryz.prog 43 #[ptrV pv, .func (.func F) #[] caps] w fun e w' => e = .returned .nilIface ∧ ∃ S' n' P' c', Dw w' pv S' N i base T bc n' P' c' ∧ n' ≤ n + 1000 ∧ (∀ b, S' b → S b ∨ w.heap.size ≤ b) ∧ Mods (fun g => S g ∨ Z g) w w' ∧ R w' c' := by
  have HSU := hid (Super_vw hD.v)
  have HNV := hid (fun (W : World) => NewView_any W N i hD.p 175 (.agg #[ptrV pv]))
  have HD := hid hD
  have HDO := hid hdo
  have HZ := hid hZ
  have HR := hid hR
  have HN := hid hn
  clear hD hdo hZ hR hn
  go_enter Tryz.func43, Tryz.ntmps43
  go_wp2_with fail
  refine HSU.out.mono ?_
  rintro e w1 ⟨rfl, hb1⟩
  have HB1 := hid hb1
  have HNV1 := hid (HNV.out w1)
  unfold supC at HNV1
  clear hb1 HSU HNV
  go_wp2_with fail
  refine HNV1.out.mono ?_
  rintro e w2 ⟨pd, rfl, hv2, hb2⟩
  have hB2 : Below w.heap.size w w2 := HB1.out.trans (hb2.mono HB1.out.size)
  have hd2 := HD.out.draft hB2 hv2 (fun g hg => ⟨Nat.le_trans HB1.out.size hg.1, hg.2⟩)
  have HDO2 := hid (HDO.out w2 pd _ hB2 hd2 (fun g hg => Nat.le_trans HB1.out.size hg.1))
  have HB2 := hid hB2
  have HB12 := hid HB1.out.size
  clear hv2 hb2 hB2 hd2 HNV1 HDO
  go_wp2_with fail
  refine HDO2.out.mono ?_
  rintro e w3 ⟨rfl, Sd', nd, Pd, c', hd3, hnd, hm3, hsd', hr3⟩
  have hv3 : Dw w3 pv S N i base T bc n P c := (HD.out.later HB2.out).mods hm3 (fun g hg hM => by
    rcases hM with h | h
    · have h1 := h.1
      have := HB12.out
      rcases hg with h2 | h2
      · have := HD.out.s g h2; omega
      · have := HD.out.t.lt h2; omega
    · obtain ⟨z1, z2, _⟩ := HZ.out g h
      rcases hg with h2 | h2
      · exact z1 h2
      · exact z2 h2)
  have hm3' : Mods (fun g => S g ∨ Z g) w w3 := (Mods.of_below HB2.out).trans hm3 (fun b hb => by
    rcases hb with h | h
    · have := HB12.out; have := h.1; exact .inr (by omega)
    · exact .inl (.inr h))
  have HPU := hid (Puts_any hd3.v (by omega))
  have HV3 := hid hv3
  have HM3 := hid hm3'
  have HD3 := hid hd3
  have HR3 := hid hr3
  have HND := hid hnd
  clear hd3 hnd hm3 hsd' hr3 hv3 hm3' HDO2 hcf
  go_wp2_with fail
  refine HPU.out.mono ?_
  rintro e w4 ⟨v4, M, L, rfl, hPK, hLn, hPO, hML, hb4⟩
  obtain ⟨a4, c4, rfl, hc4, hPs⟩ := hPO.ps
  have hMl : M.length = L.length := by
    have := congrArg List.length hML
    rwa [List.length_map, List.length_map] at this
  obtain ⟨mL, hmL⟩ : ∃ mL, mL = M.length := ⟨_, rfl⟩
  rw [← hmL]
  obtain ⟨Y, hY⟩ : ∃ Y : Nat → Prop, Y = fun g => w3.heap.size ≤ g ∧ g < w4.heap.size := ⟨_, rfl⟩
  have hPsY : Ps w4 Y a4 M := hPs.weak (fun g hg hl => by rw [hY]; exact ⟨hg, hl⟩)
  have HPS := hid hPsY
  have HYS : Hid (∀ g, Y g → ¬ S g ∧ g < w4.heap.size) := hid (fun g hg => by rw [hY] at hg; exact ⟨fun e => by have := HV3.out.s g e; have := hg.1; omega, hg.2⟩)
  have HPK := hid hPK
  have HML := hid hML
  have HMM : Hid (mL = L.length ∧ mL = M.length ∧ mL ≤ 1000) := hid ⟨by omega, hmL, by have := HND.out; omega⟩
  have HV4 := hid (HV3.out.later hb4)
  have HM4 := hid (HM3.out.below hb4)
  have HZ4 : Hid (∀ g, Z g → w4.heap[g]? = w3.heap[g]?) := hid (fun g hg => hb4.block g (by have := (HZ.out g hg).2.2; have := HM3.out.size; omega))
  have HB4 := hid hb4
  clear hPK hLn hPO hML hb4 hPs hc4 hMl hmL hY hPsY HPU HV3 HM3
  go_wp2
  go_loopw [24] (fun z wr => ∃ (j : Nat) (Sj : Nat → Prop) (nj : Nat) (Pj : Int → Option (List Int)), j ≤ mL ∧ z = n64 j ∧ nj ≤ n + j ∧ Dw wr pv Sj N i base T bc nj Pj (overC c Pd (L.take j)) ∧ (∀ b, Sj b → S b ∨ w4.heap.size ≤ b) ∧ Mods S w4 wr) (fun z _ => mL - (RowKit.intOf z).toNat)
  case atStart => exact ⟨0, S, n, P, by omega, rfl, by omega, by rw [List.take_zero, overC_nil]; exact HV4.out, fun b hb => .inl hb, Mods.refl _ _⟩
  case round =>
    obtain ⟨j, Sj, nj, Pj, hj, rfl, hnj, hdj, hsj, hmj⟩ := hrel
    rename World => V
    have HDJ := hid hdj
    have HSJ := hid hsj
    have HMJ := hid hmj
    have HNJ := hid hnj
    by_cases hlt : j < mL
    · have hlt' : (j : Int) < mL := by omega
      have hjL : j < L.length := by rw [← HMM.out.1]; exact hlt
      have hjM : j < M.length := by rw [← HMM.out.2.1]; exact hlt
      obtain ⟨hxI, hxS⟩ := (HPK.out.2 (L.getD j 0)).1 (mem_getD L (fun y => y ∈ L) (fun y hy => hy) j hjL)
      obtain ⟨d, hd⟩ := Option.isSome_iff_exists.1 hxS
      obtain ⟨x, hx, hxN⟩ : ∃ x : Nat, L.getD j 0 = (x : Int) ∧ x < N := by
        by_cases hc : 0 ≤ L.getD j 0 ∧ L.getD j 0 < (N : Int)
        · exact ⟨(L.getD j 0).toNat, by omega, by omega⟩
        · rw [HD3.out.o _ hxI hc] at hd; cases hd
      rw [hx] at hd
      have hdc : d = c' x := by have := HD3.out.eq x hxN; unfold ct at this; rw [hd] at this; exact this
      have hdl : d.length = 512 := by rw [hdc]; exact HD3.out.len x hxN
      have hpt : (M.getD j default).pt = ⟨(x : Int), d⟩ := by
        have h1 : (M.map Pw.pt).getD j default = (L.map (putPt Pd)).getD j default := by rw [HML.out]
        rw [map_getD M j hjM] at h1
        rw [h1]
        have h2 : (L.map (putPt Pd)).getD j default = putPt Pd (L.getD j 0) := by simp [List.getD, hjL]
        rw [h2, hx]
        simp [putPt, hd]
      have hPsV : Ps V Y a4 M := HPS.out.keep (fun g hg hl => hmj.block g hl (HYS.out g hg).1)
      obtain ⟨gb, go, rfl, _, k0, k1⟩ := hPsV.at_ hjM
      obtain ⟨hyd, _⟩ := hPsV.dat hjM
      generalize M.getD j default = pw at *
      obtain ⟨pb, pa, pc, pdt⟩ := pw
      simp only [Pw.pt, Pt.mk.injEq] at hpt
      obtain ⟨rfl, rfl⟩ := hpt
      simp only at k0 k1 hyd
      rw [hdl] at k1
      obtain ⟨W5, hW5⟩ : ∃ W, W = V.alloc (.cells #[n64 x, .slice pa 512 pc] 135) := ⟨_, rfl⟩
      have hb5 : Below V.heap.size V W5 := by rw [hW5]; exact (Below.refl _ _).alloc (Nat.le_refl _) _
      have h5 : W5.heap[V.heap.size]? = some (.cells #[n64 x, .slice pa 512 pc] 135 (0, 0)) := by rw [hW5]; exact alloc_new V _
      have m0 : W5.cell? ⟨V.heap.size, 0, none⟩ = some (n64 x) := cell_of h5 rfl
      have m1 : W5.cell? ⟨V.heap.size, 1, none⟩ = some (.slice pa 512 pc) := cell_of h5 rfl
      have HPT := hid ((hdj.later hb5).Put (by have := HN.out; have := HMM.out; omega) x hxN _ pdt hdl pa pc (hyd.later hb5))
      have HB5 := hid hb5
      have hOV := overC_snoc c Pd L j hjL x hx pdt hd
      have HOV := hid hOV
      have hw2 : IntKind.i64.wrap ((j : Int) + 1) = ((j + 1 : Nat) : Int) := by rw [IntWalk.i64_in _ (by have := HMM.out; omega)]; omega
      clear hdj hsj hmj hnj hxI hxS hd hx hdc hPsV hyd hb5 h5 hOV hdl
      go_wp2_with (first | (rw [← hW5]; clear hW5))
      refine HPT.out.mono ?_
      rintro e w6 ⟨rfl, S6, hd6, hk6⟩
      rw [HOV.out] at hd6
      have HD6 := hid hd6
      have HS6 : Hid (∀ b, S6 b → S b ∨ w4.heap.size ≤ b) := hid (fun b hb => by
        rcases hk6.1 b hb with h | h
        · exact HSJ.out b h
        · exact .inr (Nat.le_trans HMJ.out.size (Nat.le_trans HB5.out.size h)))
      have HM6 : Hid (Mods S w4 w6) := hid ((HMJ.out.below HB5.out).trans hk6.2 HSJ.out)
      clear hd6 hk6 HPT k0 k1 m0 m1
      go_wp2
      go_roundw
      case rel => exact ⟨j + 1, S6, nj + 1, _, by omega, by first | rfl | go_num, by have := HNJ.out; omega, HD6.out, HS6.out, HM6.out⟩
      case measure => simp [RowKit.intOf]; omega
    · have hlt' : ¬ (j : Int) < mL := by omega
      obtain rfl : j = mL := by omega
      clear hdj hsj hmj hnj
      go_wp2
      go_ret
      have hall : ∀ k, k < N → overC c Pd (L.take j) k = c' k := fun k hk => by
        rw [HMM.out.1, List.take_length]
        unfold overC
        rw [← HD3.out.eq k hk]
        unfold ct
        by_cases e : (k : Int) ∈ L
        · rw [if_pos e]
          obtain ⟨d, hd⟩ := Option.isSome_iff_exists.1 ((HPK.out.2 _).1 e).2
          rw [hd]; rfl
        · rw [if_neg e]
          have hI : IsI (k : Int) := isI_nat (by omega) (by have := HD3.out.nN; omega)
          cases hp : Pd (k : Int) with
          | none => rfl
          | some d => exact absurd ((HPK.out.2 _).2 ⟨hI, by rw [hp]; rfl⟩) e
      refine ⟨rfl, Sj, nj, Pj, c', HDJ.out.congr hall, by have := HNJ.out; have := HMM.out; omega, fun b hb => ?_, ?_, ?_⟩
      · rcases HSJ.out b hb with h | h
        · exact .inl h
        · exact .inr (Nat.le_trans HM4.out.size h)
      · exact HM4.out.tr (HMJ.out.weak (fun b hb => .inl (.inl hb)))
      · refine HR.out w3 _ c' c' HR3.out (fun g hg => ?_) (fun _ _ => rfl)
        exact (HMJ.out.block g (by have := (HZ.out g hg).2.2; have := HM4.out.size; omega) (HZ.out g hg).1).trans (HZ4.out g hg)
end Go.Proofs.YtldlnidbeiggoaaGreatDoor
