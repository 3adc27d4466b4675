/- IcA, IcB, IcC in one text. -/
import Derived.Test.YtaplmlldmhdhoaaGreatDoorIbJ
import Derived.Test.YtaplmlldmhdhoaaGreatDoorVkR
import Derived.Deep.MidRow
/- wholly: what is done to a view over a view is laid into it. -/
namespace Go.Proofs.YtaplmlldmhdhoaaGreatDoor
open Go.RowKit Go.Maps
set_option linter.unusedVariables false

variable {w w' : World} {pv n N : Nat} {S S' T : Nat → Prop} {i : Int} {base : Value} {P P' : Int → Option (List Int)} {bc c c' : Nat → List Int}
theorem Dw.congr (h : Dw w pv S N i base T bc n P c) (e : ∀ k, k < N → c k = c' k) : Dw w pv S N i base T bc n P c' :=
  ⟨h.v, h.t, fun k hk => (h.eq k hk).trans (e k hk), h.o, h.s, h.d, h.p, h.nN, fun k hk => by rw [← e k hk]; exact h.len k hk, fun k hk => by rw [← e k hk]; exact h.isB k hk⟩
theorem Dw.mono (h : Dw w pv S N i base T bc n P c) {n' : Nat} (hn : n ≤ n') : Dw w pv S N i base T bc n' P c := ⟨h.v.mono hn, h.t, h.eq, h.o, h.s, h.d, h.p, h.nN, h.len, h.isB⟩
def overC (c : Nat → List Int) (Pd : Int → Option (List Int)) (L : List Int) : Nat → List Int := fun k => if (k : Int) ∈ L then (Pd (k : Int)).getD [] else c k
theorem overC_nil (c : Nat → List Int) (Pd : Int → Option (List Int)) : overC c Pd [] = c := by funext k; simp [overC]
theorem overC_snoc (c : Nat → List Int) (Pd : Int → Option (List Int)) (L : List Int) (j : Nat) (hj : j < L.length) (x : Nat) (hx : L.getD j 0 = (x : Int)) (d : List Int) (hd : Pd (x : Int) = some d) : updN (overC c Pd (L.take j)) x d = overC c Pd (L.take (j + 1)) := by
  funext k
  unfold updN overC
  rw [take_snoc L j hj, hx]
  by_cases e : k = x
  · subst e
    rw [if_pos rfl, if_pos (by simp), hd]; rfl
  · rw [if_neg e]
    have e1 : ((k : Int) ∈ L.take j ++ [(x : Int)]) ↔ (k : Int) ∈ L.take j := by
      simp only [List.mem_append, List.mem_singleton]
      constructor
      · rintro (h | h)
        · exact h
        · omega
      · exact .inl
    by_cases e2 : (k : Int) ∈ L.take j
    · rw [if_pos e2, if_pos (e1.2 e2)]
    · rw [if_neg e2, if_neg (fun h => e2 (e1.1 h))]
set_option maxRecDepth 100000 in
set_option maxHeartbeats 1000000 in
theorem Super_vw {w : World} {pv n N : Nat} {S : Nat → Prop} {i : Int} {base : Value} {P : Int → Option (List Int)} (h : Vw w pv S N i base n P) : Calls Tryz.prog 55 #[.pointer (some ⟨pv, 0, none⟩)] w fun e w' => e = .returned (.agg #[n64 N, n64 i, n64 1, n64 2, n64 68, n64 69, n64 (planT N), n64 (planD N i)]) ∧ Below w.heap.size w w' := by
  obtain ⟨m, MV, hv, _⟩ := h
  obtain ⟨W0, hW0⟩ : ∃ W, W = w.alloc (.cells #[n64 0, n64 0, n64 0, n64 0, n64 0, n64 0, n64 0, n64 0] 115) := ⟨_, rfl⟩
  have hb0 : Below w.heap.size w W0 := by rw [hW0]; exact (Below.refl _ _).alloc (Nat.le_refl _) _
  have hh0 : W0.heap[w.heap.size]? = some (.cells #[n64 0, n64 0, n64 0, n64 0, n64 0, n64 0, n64 0, n64 0] 115 (0, 0)) := by rw [hW0]; exact alloc_new w _
  have hv0 := (hb0.block _ (Array.getElem?_eq_some_iff.1 hv).1).trans hv
  have k2 : W0.cell? ⟨pv, 2, none⟩ = some (n64 N) := cell_of hv0 rfl
  have k3 : W0.cell? ⟨pv, 3, none⟩ = some (n64 i) := cell_of hv0 rfl
  have k4 : W0.cell? ⟨pv, 4, none⟩ = some (n64 1) := cell_of hv0 rfl
  have k5 : W0.cell? ⟨pv, 5, none⟩ = some (n64 2) := cell_of hv0 rfl
  have k6 : W0.cell? ⟨pv, 6, none⟩ = some (n64 68) := cell_of hv0 rfl
  have k7 : W0.cell? ⟨pv, 7, none⟩ = some (n64 69) := cell_of hv0 rfl
  have k8 : W0.cell? ⟨pv, 8, none⟩ = some (n64 (planT N)) := cell_of hv0 rfl
  have k9 : W0.cell? ⟨pv, 9, none⟩ = some (n64 (planD N i)) := cell_of hv0 rfl
  obtain ⟨z0, z1, z2, z3, z4, z5, z6, z7⟩ := cells8 hh0
  have zf := fun k => froz_of hh0 k
  have HH := hid hh0
  have HB := hid hb0
  clear hb0 hh0 hv hv0
  go_enter Tryz.func55, Tryz.ntmps55
  go_wp2_with (rw [← hW0]; clear hW0)
  exact bodyPost_ret (results_c rfl _ _ _ _ _ _ rfl (set8_heap HH.out _ _ _ _ _ _ _ _) Tryz.underlying115 sizeSup) rfl ⟨rfl, set8_below HB.out (Nat.le_refl _) _ _ _ _ _ _ _ _⟩
set_option maxRecDepth 100000 in
set_option maxHeartbeats 4000000 in
theorem wholly_ok (hD : Dw w pv S N i base T bc n P c) (hn : n < 700000) (F : FuncId) (caps : Array Value) (hcf : ∀ (args : Array Value) (W : World), (callFunc F args).run Tryz.prog W = .ok (.enter F args) W) (Z : Nat → Prop) (R : World → (Nat → List Int) → Prop) (hZ : ∀ g, Z g → ¬ S g ∧ ¬ T g ∧ g < w.heap.size)
    (hR : ∀ w1 w2 c1 c2, R w1 c1 → (∀ g, Z g → w2.heap[g]? = w1.heap[g]?) → (∀ k, k < N → c1 k = c2 k) → R w2 c2)
    (hdo : ∀ W pd Sd, Below w.heap.size w W → Dw W pd Sd N i (underV pv) (fun g => S g ∨ T g) c 0 (fun _ => none) c → (∀ g, Sd g → w.heap.size ≤ g) → Calls Tryz.prog F (#[ptrV pd] ++ caps) W fun e w' => e = .returned .nilIface ∧ ∃ Sd' nd Pd c', Dw w' pd Sd' N i (underV pv) (fun g => S g ∨ T g) c nd Pd c' ∧ nd ≤ 1000 ∧ Mods (fun g => Sd g ∨ Z g) W w' ∧ (∀ g, Sd' g → w.heap.size ≤ g) ∧ R w' c') :
    Calls Tryz.prog 66 #[ptrV pv, .func (.func F) #[] caps] w fun e w' => e = .returned .nilIface ∧ ∃ S' n' P' c', Dw w' pv S' N i base T bc n' P' c' ∧ n' ≤ n + 1000 ∧ (∀ b, S' b → S b ∨ w.heap.size ≤ b) ∧ Mods (fun g => S g ∨ Z g) w w' ∧ R w' c' := by
  have HSU := hid (Super_vw hD.v)
  have HNV := hid (fun (W : World) => NewView_any W N i hD.p 185 (.agg #[ptrV pv]))
  have HD := hid hD
  have HDO := hid hdo
  have HZ := hid hZ
  have HR := hid hR
  have HN := hid hn
  clear hD hdo hZ hR hn
  go_enter Tryz.func66, Tryz.ntmps66
  go_wp2_with fail
  refine HSU.out.mono ?_
  rintro e w1 ⟨rfl, hb1⟩
  have HB1 := hid hb1
  have HNV1 := hid (HNV.out w1)
  unfold supC at HNV1
  clear hb1 HSU HNV
  go_wp2_with fail
  refine HNV1.out.mono ?_
  rintro e w2 ⟨pd, rfl, hv2, hb2⟩
  have hB2 : Below w.heap.size w w2 := HB1.out.trans (hb2.mono HB1.out.size)
  have hd2 := HD.out.draft hB2 hv2 (fun g hg => ⟨Nat.le_trans HB1.out.size hg.1, hg.2⟩)
  have HDO2 := hid (HDO.out w2 pd _ hB2 hd2 (fun g hg => Nat.le_trans HB1.out.size hg.1))
  have HB2 := hid hB2
  have HB12 := hid HB1.out.size
  clear hv2 hb2 hB2 hd2 HNV1 HDO
  go_wp2_with fail
  refine HDO2.out.mono ?_
  rintro e w3 ⟨rfl, Sd', nd, Pd, c', hd3, hnd, hm3, hsd', hr3⟩
  have hv3 : Dw w3 pv S N i base T bc n P c := (HD.out.later HB2.out).mods hm3 (fun g hg hM => by
    rcases hM with h | h
    · have h1 := h.1
      have := HB12.out
      rcases hg with h2 | h2
      · have := HD.out.s g h2; omega
      · have := HD.out.t.lt h2; omega
    · obtain ⟨z1, z2, _⟩ := HZ.out g h
      rcases hg with h2 | h2
      · exact z1 h2
      · exact z2 h2)
  have hm3' : Mods (fun g => S g ∨ Z g) w w3 := (Mods.of_below HB2.out).trans hm3 (fun b hb => by
    rcases hb with h | h
    · have := HB12.out; have := h.1; exact .inr (by omega)
    · exact .inl (.inr h))
  have HPU := hid (Puts_any hd3.v (by omega))
  have HV3 := hid hv3
  have HM3 := hid hm3'
  have HD3 := hid hd3
  have HR3 := hid hr3
  have HND := hid hnd
  clear hd3 hnd hm3 hsd' hr3 hv3 hm3' HDO2 hcf
  go_wp2_with fail
  refine HPU.out.mono ?_
  rintro e w4 ⟨v4, M, L, rfl, hPK, hLn, hPO, hML, hb4⟩
  obtain ⟨a4, c4, rfl, hc4, hPs⟩ := hPO.ps
  have hMl : M.length = L.length := by
    have := congrArg List.length hML
    rwa [List.length_map, List.length_map] at this
  obtain ⟨mL, hmL⟩ : ∃ mL, mL = M.length := ⟨_, rfl⟩
  rw [← hmL]
  obtain ⟨Y, hY⟩ : ∃ Y : Nat → Prop, Y = fun g => w3.heap.size ≤ g ∧ g < w4.heap.size := ⟨_, rfl⟩
  have hPsY : Ps w4 Y a4 M := hPs.weak (fun g hg hl => by rw [hY]; exact ⟨hg, hl⟩)
  have HPS := hid hPsY
  have HYS : Hid (∀ g, Y g → ¬ S g ∧ g < w4.heap.size) := hid (fun g hg => by rw [hY] at hg; exact ⟨fun e => by have := HV3.out.s g e; have := hg.1; omega, hg.2⟩)
  have HPK := hid hPK
  have HML := hid hML
  have HMM : Hid (mL = L.length ∧ mL = M.length ∧ mL ≤ 1000) := hid ⟨by omega, hmL, by have := HND.out; omega⟩
  have HV4 := hid (HV3.out.later hb4)
  have HM4 := hid (HM3.out.below hb4)
  have HZ4 : Hid (∀ g, Z g → w4.heap[g]? = w3.heap[g]?) := hid (fun g hg => hb4.block g (by have := (HZ.out g hg).2.2; have := HM3.out.size; omega))
  have HB4 := hid hb4
  clear hPK hLn hPO hML hb4 hPs hc4 hMl hmL hY hPsY HPU HV3 HM3
  go_wp2
  go_loopw [24] (fun z wr => ∃ (j : Nat) (Sj : Nat → Prop) (nj : Nat) (Pj : Int → Option (List Int)), j ≤ mL ∧ z = n64 j ∧ nj ≤ n + j ∧ Dw wr pv Sj N i base T bc nj Pj (overC c Pd (L.take j)) ∧ (∀ b, Sj b → S b ∨ w4.heap.size ≤ b) ∧ Mods S w4 wr) (fun z _ => mL - (RowKit.intOf z).toNat)
  case atStart => exact ⟨0, S, n, P, by omega, rfl, by omega, by rw [List.take_zero, overC_nil]; exact HV4.out, fun b hb => .inl hb, Mods.refl _ _⟩
  case round =>
    obtain ⟨j, Sj, nj, Pj, hj, rfl, hnj, hdj, hsj, hmj⟩ := hrel
    rename World => V
    have HDJ := hid hdj
    have HSJ := hid hsj
    have HMJ := hid hmj
    have HNJ := hid hnj
    by_cases hlt : j < mL
    · have hlt' : (j : Int) < mL := by omega
      have hjL : j < L.length := by rw [← HMM.out.1]; exact hlt
      have hjM : j < M.length := by rw [← HMM.out.2.1]; exact hlt
      obtain ⟨hxI, hxS⟩ := (HPK.out.2 (L.getD j 0)).1 (mem_getD L (fun y => y ∈ L) (fun y hy => hy) j hjL)
      obtain ⟨d, hd⟩ := Option.isSome_iff_exists.1 hxS
      obtain ⟨x, hx, hxN⟩ : ∃ x : Nat, L.getD j 0 = (x : Int) ∧ x < N := by
        by_cases hc : 0 ≤ L.getD j 0 ∧ L.getD j 0 < (N : Int)
        · exact ⟨(L.getD j 0).toNat, by omega, by omega⟩
        · rw [HD3.out.o _ hxI hc] at hd; cases hd
      rw [hx] at hd
      have hdc : d = c' x := by have := HD3.out.eq x hxN; unfold ct at this; rw [hd] at this; exact this
      have hdl : d.length = 512 := by rw [hdc]; exact HD3.out.len x hxN
      have hpt : (M.getD j default).pt = ⟨(x : Int), d⟩ := by
        have h1 : (M.map Pw.pt).getD j default = (L.map (putPt Pd)).getD j default := by rw [HML.out]
        rw [map_getD M j hjM] at h1
        rw [h1]
        have h2 : (L.map (putPt Pd)).getD j default = putPt Pd (L.getD j 0) := by simp [List.getD, hjL]
        rw [h2, hx]
        simp [putPt, hd]
      have hPsV : Ps V Y a4 M := HPS.out.keep (fun g hg hl => hmj.block g hl (HYS.out g hg).1)
      obtain ⟨gb, go, rfl, _, k0, k1⟩ := hPsV.at_ hjM
      obtain ⟨hyd, _⟩ := hPsV.dat hjM
      generalize M.getD j default = pw at *
      obtain ⟨pb, pa, pc, pdt⟩ := pw
      simp only [Pw.pt, Pt.mk.injEq] at hpt
      obtain ⟨rfl, rfl⟩ := hpt
      simp only at k0 k1 hyd
      rw [hdl] at k1
      obtain ⟨W5, hW5⟩ : ∃ W, W = V.alloc (.cells #[n64 x, .slice pa 512 pc] 113) := ⟨_, rfl⟩
      have hb5 : Below V.heap.size V W5 := by rw [hW5]; exact (Below.refl _ _).alloc (Nat.le_refl _) _
      have h5 : W5.heap[V.heap.size]? = some (.cells #[n64 x, .slice pa 512 pc] 113 (0, 0)) := by rw [hW5]; exact alloc_new V _
      have m0 : W5.cell? ⟨V.heap.size, 0, none⟩ = some (n64 x) := cell_of h5 rfl
      have m1 : W5.cell? ⟨V.heap.size, 1, none⟩ = some (.slice pa 512 pc) := cell_of h5 rfl
      have HPT := hid ((hdj.later hb5).Put (by have := HN.out; have := HMM.out; omega) x hxN _ pdt hdl pa pc (hyd.later hb5))
      have HB5 := hid hb5
      have hOV := overC_snoc c Pd L j hjL x hx pdt hd
      have HOV := hid hOV
      have hw2 : IntKind.i64.wrap ((j : Int) + 1) = ((j + 1 : Nat) : Int) := by rw [IntWalk.i64_in _ (by have := HMM.out; omega)]; omega
      clear hdj hsj hmj hnj hxI hxS hd hx hdc hPsV hyd hb5 h5 hOV hdl
      go_wp2_with (first | (rw [← hW5]; clear hW5))
      refine HPT.out.mono ?_
      rintro e w6 ⟨rfl, S6, hd6, hk6⟩
      rw [HOV.out] at hd6
      have HD6 := hid hd6
      have HS6 : Hid (∀ b, S6 b → S b ∨ w4.heap.size ≤ b) := hid (fun b hb => by
        rcases hk6.1 b hb with h | h
        · exact HSJ.out b h
        · exact .inr (Nat.le_trans HMJ.out.size (Nat.le_trans HB5.out.size h)))
      have HM6 : Hid (Mods S w4 w6) := hid ((HMJ.out.below HB5.out).trans hk6.2 HSJ.out)
      clear hd6 hk6 HPT k0 k1 m0 m1
      go_wp2
      go_roundw
      case rel => exact ⟨j + 1, S6, nj + 1, _, by omega, by first | rfl | go_num, by have := HNJ.out; omega, HD6.out, HS6.out, HM6.out⟩
      case measure => simp [RowKit.intOf]; omega
    · have hlt' : ¬ (j : Int) < mL := by omega
      obtain rfl : j = mL := by omega
      clear hdj hsj hmj hnj
      go_wp2
      go_ret
      have hall : ∀ k, k < N → overC c Pd (L.take j) k = c' k := fun k hk => by
        rw [HMM.out.1, List.take_length]
        unfold overC
        rw [← HD3.out.eq k hk]
        unfold ct
        by_cases e : (k : Int) ∈ L
        · rw [if_pos e]
          obtain ⟨d, hd⟩ := Option.isSome_iff_exists.1 ((HPK.out.2 _).1 e).2
          rw [hd]; rfl
        · rw [if_neg e]
          have hI : IsI (k : Int) := isI_nat (by omega) (by have := HD3.out.nN; omega)
          cases hp : Pd (k : Int) with
          | none => rfl
          | some d => exact absurd ((HPK.out.2 _).2 ⟨hI, by rw [hp]; rfl⟩) e
      refine ⟨rfl, Sj, nj, Pj, c', HDJ.out.congr hall, by have := HNJ.out; have := HMM.out; omega, fun b hb => ?_, ?_, ?_⟩
      · rcases HSJ.out b hb with h | h
        · exact .inl h
        · exact .inr (Nat.le_trans HM4.out.size h)
      · exact HM4.out.tr (HMJ.out.weak (fun b hb => .inl (.inl hb)))
      · refine HR.out w3 _ c' c' HR3.out (fun g hg => ?_) (fun _ _ => rfl)
        exact (HMJ.out.block g (by have := (HZ.out g hg).2.2; have := HM4.out.size; omega) (HZ.out g hg).1).trans (HZ4.out g hg)
end Go.Proofs.YtaplmlldmhdhoaaGreatDoor

/- changed. -/
namespace Go.Proofs.YtaplmlldmhdhoaaGreatDoor
open Go.RowKit Go.Maps
set_option linter.unusedVariables false

/-- An inode's cells: its size, its pointers. -/
structure InoIs (X : Array Value) (size : Int) (ptr : Nat → Nat) : Prop where
  sz : X.size = 23
  len : X[6]? = some (.int .u64 size)
  ptr : ∀ j, j < 9 → X[14 + j]? = some (n64 (ptr j))
  one : X.all (·.oneCell') = true
theorem arr23 {X : Array Value} (h : X.size = 23) : ∃ x0 x1 x2 x3 x4 x5 x6 x7 x8 x9 x10 x11 x12 x13 x14 x15 x16 x17 x18 x19 x20 x21 x22, X = #[x0, x1, x2, x3, x4, x5, x6, x7, x8, x9, x10, x11, x12, x13, x14, x15, x16, x17, x18, x19, x20, x21, x22] := by
  obtain ⟨l⟩ := X
  match l, h with
  | [x0, x1, x2, x3, x4, x5, x6, x7, x8, x9, x10, x11, x12, x13, x14, x15, x16, x17, x18, x19, x20, x21, x22], _ => exact ⟨x0, x1, x2, x3, x4, x5, x6, x7, x8, x9, x10, x11, x12, x13, x14, x15, x16, x17, x18, x19, x20, x21, x22, rfl⟩
set_option maxRecDepth 100000 in
theorem built_lit (x0 x1 x2 x3 x4 x5 x6 x7 x8 x9 x10 x11 x12 x13 x14 x15 x16 x17 x18 x19 x20 x21 x22 : Value) : Tryz.prog.built 135 [(1, .agg #[x0, x1, x2, x3, x4, x5, x6, x7, x8, x9, x10, x11, x12, x13, x14, x15, x16, x17, x18, x19, x20, x21, x22])] = some #[.pointer none, x0, x1, x2, x3, x4, x5, x6, x7, x8, x9, x10, x11, x12, x13, x14, x15, x16, x17, x18, x19, x20, x21, x22] := by kernel_rfl
theorem built_file {X : Array Value} (h : X.size = 23) : Tryz.prog.built 135 [(1, .agg X)] = some (#[.pointer none] ++ X) := by
  obtain ⟨x0, x1, x2, x3, x4, x5, x6, x7, x8, x9, x10, x11, x12, x13, x14, x15, x16, x17, x18, x19, x20, x21, x22, rfl⟩ := arr23 h
  rw [built_lit]
  exact congrArg some (by simp)
theorem wpList_build_run {ops : Array Oper} {rest : List Oper} {o : Oper} {a : Act} {w : World} {Q : Exit → Act → World → Prop} (hg : o.guard = none) (t : TypeId) (parts : Array (Nat × Operand)) (ho : o.op = .build t parts) (C : Array Value)
    (hf : Tryz.prog.built t (parts.map fun (i, x) => (i, a.eval x)).toList = some C) (h : wpList Tryz.prog ops Q rest (a.put o.dst (.agg C)) w) : wpList Tryz.prog ops Q (o :: rest) a w :=
  wpList_build hg t parts ho (by rw [hf]; rfl) (by rw [hf]; exact h)
theorem sizeIno : (Tryz.prog.info? 31).map (·.size) = some 23 := by kernel_rfl
theorem sizeFile : (Tryz.prog.info? 135).map (·.size) = some 24 := by kernel_rfl
theorem app1_get (p : Value) (X : Array Value) (j : Nat) : (#[p] ++ X)[1 + j]? = X[j]? := by
  rw [Array.getElem?_append_right (by simp)]; simp
theorem InoIs.file {X : Array Value} {size : Int} {ptr : Nat → Nat} (h : InoIs X size ptr) (pd : Nat) : FileIs (#[ptrV pd] ++ X) pd size ptr :=
  ⟨by simp [h.sz], by rw [Array.getElem?_append_left (by simp)]; rfl, by rw [show 7 = 1 + 6 by rfl, app1_get]; exact h.len, fun j hj => by rw [show 15 + j = 1 + (14 + j) by omega, app1_get]; exact h.ptr j hj⟩
/-- What is new in an inode. -/
structure InoTo (X X' : Array Value) (size : Int) (ptr : Nat → Nat) : Prop where
  is_ : InoIs X' size ptr
  rest : ∀ j, j < 14 → j ≠ 6 → X'[j]? = X[j]?
/-- The inode in a file. -/
theorem FileIs.node {A X : Array Value} {pd : Nat} {size : Int} {ptr : Nat → Nat} (h : FileIs A pd size ptr) (hX : X.size = 23) (hXa : X.all (·.oneCell') = true) {p : Value} (hr : ∀ j, 0 < j → j < 15 → j ≠ 7 → A[j]? = (#[p] ++ X)[j]?) : ∃ X', A = #[ptrV pd] ++ X' ∧ InoTo X X' size ptr := by
  obtain ⟨X', hX'⟩ : ∃ X' : Array Value, X' = (A.toList.drop 1).toArray := ⟨_, rfl⟩
  have hs : X'.size = 23 := by rw [hX']; simp [h.sz]
  have hg : ∀ j, X'[j]? = A[1 + j]? := fun j => by
    rw [hX', List.getElem?_toArray, List.getElem?_drop, Array.getElem?_toList]
  have hA : A = #[ptrV pd] ++ X' := by
    apply Array.ext_getElem?
    intro j
    cases j with
    | zero => rw [h.view, Array.getElem?_append_left (by simp)]; rfl
    | succ j => rw [show j + 1 = 1 + j by omega, app1_get, hg]
  have hr' : ∀ j, j < 14 → j ≠ 6 → X'[j]? = X[j]? := fun j h1 h2 => by rw [hg, hr (1 + j) (by omega) (by omega) (by omega), app1_get]
  refine ⟨X', hA, ⟨⟨hs, by rw [hg]; exact h.len, fun j hj => by rw [hg, show 1 + (14 + j) = 15 + j by omega]; exact h.ptr j hj, ?_⟩, hr'⟩⟩
  rw [Array.all_eq_true]
  intro j hj
  have hj2 : j < 23 := by omega
  by_cases e : j = 6
  · subst e
    have := hg 6
    rw [show 1 + 6 = 7 by rfl, h.len, Array.getElem?_eq_getElem hj] at this
    rw [Option.some.inj this]; rfl
  · by_cases e2 : j < 14
    · have := hr' j e2 e
      rw [Array.getElem?_eq_getElem hj, Array.getElem?_eq_getElem (by omega)] at this
      rw [Option.some.inj this]
      exact (Array.all_eq_true.1 hXa) j (by omega)
    · have := hg j
      rw [show 1 + j = 15 + (j - 14) by omega, h.ptr (j - 14) (by omega), Array.getElem?_eq_getElem hj] at this
      rw [Option.some.inj this]; rfl
end Go.Proofs.YtaplmlldmhdhoaaGreatDoor

/- changed: a file's inode behind what was done to it. -/
namespace Go.Proofs.YtaplmlldmhdhoaaGreatDoor
open Go.RowKit Go.Maps
set_option linter.unusedVariables false

variable {w w' : World} {pv n N : Nat} {S S' T : Nat → Prop} {i : Int} {base : Value} {P P' : Int → Option (List Int)} {bc c c' : Nat → List Int}
set_option maxRecDepth 100000 in
theorem fold_lit (x0 x1 x2 x3 x4 x5 x6 x7 x8 x9 x10 x11 x12 x13 x14 x15 x16 x17 x18 x19 x20 x21 x22 : Value) : Array.foldl (fun (cs : Array Value) (x : Value × Nat) => cs.setIfInBounds (1 + x.snd) x.fst) #[.pointer none, .int .i64 0, .int .i64 0, .int .i64 0, .int .u32 0, .int .u32 0, .int .u32 0, .int .u64 0, .int .u64 0, .int .u32 0, .int .u32 0, .int .u32 0, .int .u32 0, .int .u32 0, .int .u32 0, .int .i64 0, .int .i64 0, .int .i64 0, .int .i64 0, .int .i64 0, .int .i64 0, .int .i64 0, .int .i64 0, .int .i64 0] (#[x0, x1, x2, x3, x4, x5, x6, x7, x8, x9, x10, x11, x12, x13, x14, x15, x16, x17, x18, x19, x20, x21, x22] : Array Value).zipIdx 0 23 = #[.pointer none, x0, x1, x2, x3, x4, x5, x6, x7, x8, x9, x10, x11, x12, x13, x14, x15, x16, x17, x18, x19, x20, x21, x22] := by kernel_rfl
theorem fold_file {X : Array Value} (h : X.size = 23) : Array.foldl (fun (cs : Array Value) (x : Value × Nat) => cs.setIfInBounds (1 + x.snd) x.fst) #[.pointer none, .int .i64 0, .int .i64 0, .int .i64 0, .int .u32 0, .int .u32 0, .int .u32 0, .int .u64 0, .int .u64 0, .int .u32 0, .int .u32 0, .int .u32 0, .int .u32 0, .int .u32 0, .int .u32 0, .int .i64 0, .int .i64 0, .int .i64 0, .int .i64 0, .int .i64 0, .int .i64 0, .int .i64 0, .int .i64 0, .int .i64 0] X.zipIdx 0 23 = #[.pointer none] ++ X := by
  obtain ⟨x0, x1, x2, x3, x4, x5, x6, x7, x8, x9, x10, x11, x12, x13, x14, x15, x16, x17, x18, x19, x20, x21, x22, rfl⟩ := arr23 h
  rw [fold_lit]
  simp
theorem call111 (args : Array Value) (w : World) : (callFunc 67 args).run Tryz.prog w = .ok (.enter 67 args) w := by kernel_rfl
set_option maxRecDepth 100000 in
set_option maxHeartbeats 2000000 in
/-- What is done to a file over a new view. -/
theorem changed1_any (F : FuncId) (caps : Array Value) (hcf : ∀ (args : Array Value) (W : World), (callFunc F args).run Tryz.prog W = .ok (.enter F args) W) (pd pf pq : Nat) (A : Array Value) (v0 : Value) (hA : w.heap[pf]? = some (.cells A 135 (0, 0))) (h0 : A[0]? = some v0) (hq : w.heap[pq]? = some (.cells #[.func (.func F) #[] caps] 102 (0, 0))) (hne : pq ≠ pf) (R : World → Prop)
    (hdo : Calls Tryz.prog F (#[ptrV pf] ++ caps) (w.setCell ⟨pf, 0, none⟩ (ptrV pd)) fun e w' => e = .returned .nilIface ∧ R w') :
    Calls Tryz.prog 67 (#[ptrV pd] ++ #[ptrV pf, ptrV pq]) w fun e w' => e = .returned .nilIface ∧ R w' := by
  have c0 : w.cell? ⟨pf, 0, none⟩ = some v0 := cell_of hA h0
  have f0 := froz_of hA 0
  obtain ⟨W1, hW1⟩ : ∃ W, W = w.setCell ⟨pf, 0, none⟩ (ptrV pd) := ⟨_, rfl⟩
  have q1 : W1.cell? ⟨pq, 0, none⟩ = some (.func (.func F) #[] caps) := by
    rw [hW1]
    exact (World.cell?_of_block (Below.heap_setCell _ _ _ _ hne)).trans (cell_of hq rfl)
  rw [← hW1] at hdo
  have HDO := hid hdo
  clear hA h0 hq hne hdo
  show Calls Tryz.prog 67 #[ptrV pd, ptrV pf, ptrV pq] w _
  go_enter Tryz.func67, Tryz.ntmps67
  go_wp2_with (first | (rw [← hW1]; clear hW1))
  refine HDO.out.mono ?_
  rintro e w2 ⟨rfl, hr⟩
  have HR := hid hr
  clear hr
  go_wp2
  go_ret
  exact ⟨rfl, HR.out⟩
set_option maxRecDepth 100000 in
set_option maxHeartbeats 4000000 in
theorem changed_ok (hD : Dw w pv S N i base T bc n P c) (hn : n < 700000) (F : FuncId) (caps : Array Value) (hcf : ∀ (args : Array Value) (W : World), (callFunc F args).run Tryz.prog W = .ok (.enter F args) W) (X : Array Value) (size size' : Int) (ptr ptr' : Nat → Nat) (hX : InoIs X size ptr)
    (hdo : ∀ (W : World) (pf pd : Nat) (Sd : Nat → Prop), Below w.heap.size w W → w.heap.size ≤ pf → (∀ g, Sd g → w.heap.size ≤ g) → Fw W pf pd Sd N i (underV pv) (fun g => S g ∨ T g) c 0 (fun _ => none) c (#[.pointer none] ++ X) size ptr → Calls Tryz.prog F (#[ptrV pf] ++ caps) W fun e w' => e = .returned .nilIface ∧ ∃ Sd' nd Pd, nd ≤ 1000 ∧ Fw w' pf pd Sd' N i (underV pv) (fun g => S g ∨ T g) c nd Pd c' (#[.pointer none] ++ X) size' ptr' ∧ KpF Sd pf W Sd' w') :
    Calls Tryz.prog 44 #[ptrV pv, .agg X, .func (.func F) #[] caps] w fun e w' => ∃ X', e = .returned (.tuple #[.agg X', .nilIface]) ∧ InoTo X X' size' ptr' ∧ ∃ S' n' P', Dw w' pv S' N i base T bc n' P' c' ∧ n' ≤ n + 1000 ∧ Kp S w S' w' := by
  have hXs := hX.sz
  obtain ⟨fv, hfv⟩ : ∃ fv, fv = Value.func (.func F) #[] caps := ⟨_, rfl⟩
  obtain ⟨W1, hW1⟩ : ∃ W, W = w.alloc (.cells X 31) := ⟨_, rfl⟩
  obtain ⟨W2, hW2⟩ : ∃ W, W = W1.alloc (.cells #[.func (.func F) #[] caps] 102) := ⟨_, rfl⟩
  obtain ⟨W3, hW3⟩ : ∃ W, W = W2.alloc (.cells #[.int .i64 0, .int .i64 0, .int .i64 0, .int .u32 0, .int .u32 0, .int .u32 0, .int .u64 0, .int .u64 0, .int .u32 0, .int .u32 0, .int .u32 0, .int .u32 0, .int .u32 0, .int .u32 0, .int .i64 0, .int .i64 0, .int .i64 0, .int .i64 0, .int .i64 0, .int .i64 0, .int .i64 0, .int .i64 0, .int .i64 0] 31) := ⟨_, rfl⟩
  obtain ⟨W4, hW4⟩ : ∃ W, W = W3.alloc (.cells #[.pointer none, .int .i64 0, .int .i64 0, .int .i64 0, .int .u32 0, .int .u32 0, .int .u32 0, .int .u64 0, .int .u64 0, .int .u32 0, .int .u32 0, .int .u32 0, .int .u32 0, .int .u32 0, .int .u32 0, .int .i64 0, .int .i64 0, .int .i64 0, .int .i64 0, .int .i64 0, .int .i64 0, .int .i64 0, .int .i64 0, .int .i64 0] 135) := ⟨_, rfl⟩
  have b1 : Below w.heap.size w W1 := by rw [hW1]; exact (Below.refl _ _).alloc (Nat.le_refl _) _
  have b2 : Below W1.heap.size W1 W2 := by rw [hW2]; exact (Below.refl _ _).alloc (Nat.le_refl _) _
  have b3 : Below W2.heap.size W2 W3 := by rw [hW3]; exact (Below.refl _ _).alloc (Nat.le_refl _) _
  have b4 : Below W3.heap.size W3 W4 := by rw [hW4]; exact (Below.refl _ _).alloc (Nat.le_refl _) _
  have h1 : W1.heap[w.heap.size]? = some (.cells X 31 (0, 0)) := by rw [hW1]; exact alloc_new w _
  have h2 : W2.heap[W1.heap.size]? = some (.cells #[.func (.func F) #[] caps] 102 (0, 0)) := by rw [hW2]; exact alloc_new W1 _
  have h3 : W3.heap[W2.heap.size]? = some (.cells #[.int .i64 0, .int .i64 0, .int .i64 0, .int .u32 0, .int .u32 0, .int .u32 0, .int .u64 0, .int .u64 0, .int .u32 0, .int .u32 0, .int .u32 0, .int .u32 0, .int .u32 0, .int .u32 0, .int .i64 0, .int .i64 0, .int .i64 0, .int .i64 0, .int .i64 0, .int .i64 0, .int .i64 0, .int .i64 0, .int .i64 0] 31 (0, 0)) := by rw [hW3]; exact alloc_new W2 _
  have h4 : W4.heap[W3.heap.size]? = some (.cells #[.pointer none, .int .i64 0, .int .i64 0, .int .i64 0, .int .u32 0, .int .u32 0, .int .u32 0, .int .u64 0, .int .u64 0, .int .u32 0, .int .u32 0, .int .u32 0, .int .u32 0, .int .u32 0, .int .u32 0, .int .i64 0, .int .i64 0, .int .i64 0, .int .i64 0, .int .i64 0, .int .i64 0, .int .i64 0, .int .i64 0, .int .i64 0] 135 (0, 0)) := by rw [hW4]; exact alloc_new W3 _
  have s1 : W1.heap.size = w.heap.size + 1 := by rw [hW1]; simp
  have s2 : W2.heap.size = W1.heap.size + 1 := by rw [hW2]; simp
  have s3 : W3.heap.size = W2.heap.size + 1 := by rw [hW3]; simp
  have s4 : W4.heap.size = W3.heap.size + 1 := by rw [hW4]; simp
  have h13 : W3.heap[w.heap.size]? = some (.cells X 31 (0, 0)) := (b3.block _ (by omega)).trans ((b2.block _ (by omega)).trans h1)
  obtain ⟨zi, hzi⟩ : ∃ zi : Array Value, zi = #[.int .i64 0, .int .i64 0, .int .i64 0, .int .u32 0, .int .u32 0, .int .u32 0, .int .u64 0, .int .u64 0, .int .u32 0, .int .u32 0, .int .u32 0, .int .u32 0, .int .u32 0, .int .u32 0, .int .i64 0, .int .i64 0, .int .i64 0, .int .i64 0, .int .i64 0, .int .i64 0, .int .i64 0, .int .i64 0, .int .i64 0] := ⟨_, rfl⟩
  obtain ⟨zf, hzf⟩ : ∃ zf : Array Value, zf = #[.pointer none, .int .i64 0, .int .i64 0, .int .i64 0, .int .u32 0, .int .u32 0, .int .u32 0, .int .u64 0, .int .u64 0, .int .u32 0, .int .u32 0, .int .u32 0, .int .u32 0, .int .u32 0, .int .u32 0, .int .i64 0, .int .i64 0, .int .i64 0, .int .i64 0, .int .i64 0, .int .i64 0, .int .i64 0, .int .i64 0, .int .i64 0] := ⟨_, rfl⟩
  rw [← hzi] at h3 hW3
  rw [← hzf] at h4 hW4
  have HZI : Hid (zi.size = 23) := hid (by rw [hzi]; rfl)
  have HZF : Hid (zf.size = 24) := hid (by rw [hzf]; rfl)
  obtain ⟨C, hC⟩ : ∃ C, C = #[Value.pointer none] ++ X := ⟨_, rfl⟩
  have HCS : Hid (C.size = 24) := hid (by rw [hC]; simp [hXs])
  have HCA : Hid (C.all (·.oneCell') = true) := hid (by rw [hC, Array.all_append, hX.one]; simp [Value.oneCell'])
  have hBE := fold_file hXs
  rw [← hC] at hBE
  have HBU : Hid (Tryz.prog.built 135 [(1, .agg X)] = some C) := hid (by rw [hC]; exact built_file hXs)
  obtain ⟨W5, hW5⟩ : ∃ W, W = W4.setRow W3.heap.size C := ⟨_, rfl⟩
  have HH13 := hid h13
  have HH4 := hid h4
  have HXS := hid hXs
  have HALL := hid (And.intro hW5 (And.intro b1 (And.intro b2 (And.intro b3 (And.intro b4 (And.intro h2 (And.intro h3 h4)))))))
  have HSZ := hid (And.intro s1 (And.intro s2 (And.intro s3 s4)))
  rw [hzi] at hW3
  rw [hzf] at hW4
  obtain ⟨pf, hpf⟩ : ∃ pf, pf = W3.heap.size := ⟨_, rfl⟩
  obtain ⟨pq, hpq⟩ : ∃ pq, pq = W1.heap.size := ⟨_, rfl⟩
  obtain ⟨g6, hg6⟩ : ∃ g, g = W2.heap.size := ⟨_, rfl⟩
  have hb4 : Below w.heap.size w W4 := b1.trans ((b2.trans ((b3.trans (b4.mono b3.size)).mono b2.size)).mono b1.size)
  have hb5 : Below w.heap.size w W5 := by rw [hW5]; exact (setRow_mods W4 _ C).to_below hb4 hb4.size (fun b hb => by subst hb; omega)
  have h5f : W5.heap[pf]? = some (.cells C 135 (0, 0)) := by rw [hW5, hpf]; exact setRow_heap W4 _ zf C _ _ h4
  have h5q : W5.heap[pq]? = some (.cells #[.func (.func F) #[] caps] 102 (0, 0)) := by
    rw [hW5, setRow_other _ _ _ _ (by omega), hpq]
    exact (b4.block _ (by omega)).trans ((b3.block _ (by omega)).trans h2)
  have h56 : W5.heap[g6]? = some (.cells zi 31 (0, 0)) := by
    rw [hW5, setRow_other _ _ _ _ (by omega), hg6]
    exact (b4.block _ (by omega)).trans h3
  have hs5 : W5.heap.size = w.heap.size + 4 := by rw [hW5]; simp; omega
  obtain ⟨R, hR⟩ : ∃ R : World → (Nat → List Int) → Prop, R = fun w1 c1 => (∀ k, k < N → c1 k = c' k) ∧ ∃ A pd, w1.heap[pf]? = some (.cells A 135 (0, 0)) ∧ FileIs A pd size' ptr' ∧ ∀ j, 0 < j → j < 15 → j ≠ 7 → A[j]? = (#[.pointer none] ++ X)[j]? := ⟨_, rfl⟩
  have hD5 := hD.later hb5
  have hnS : ∀ g, w.heap.size ≤ g → ¬ S g ∧ ¬ T g := fun g hg => ⟨fun h => by have := hD.s g h; omega, fun h => by have := hD.t.lt h; omega⟩
  have HWH := hid (wholly_ok hD5 hn 67 #[ptrV pf, ptrV pq] call111 (fun g => g = pf) R (fun g hg => by subst hg; exact ⟨(hnS g (by omega)).1, (hnS g (by omega)).2, by omega⟩)
    (fun w1 w2 c1 c2 h hk he => by
      rw [hR] at h ⊢
      obtain ⟨h1, A, pd, h2, h3, h4⟩ := h
      exact ⟨fun k hk2 => (he k hk2).symm.trans (h1 k hk2), A, pd, (hk pf rfl).trans h2, h3, h4⟩)
    (fun W pd Sd hbW hdW hsd => by
      have hAW := (hbW.block pf (by omega)).trans h5f
      have hqW := (hbW.block pq (by omega)).trans h5q
      refine changed1_any F caps hcf pd pf pq C (.pointer none) hAW (by rw [hC, Array.getElem?_append_left (by simp)]; rfl) hqW (by omega) (fun w' => ∃ Sd' nd Pd c'', Dw w' pd Sd' N i (underV pv) (fun g => S g ∨ T g) c nd Pd c'' ∧ nd ≤ 1000 ∧ Mods (fun g => Sd g ∨ g = pf) W w' ∧ (∀ g, Sd' g → W5.heap.size ≤ g) ∧ R w' c'') ?_
      have hmW : Mods (fun g => g = pf) W (W.setCell ⟨pf, 0, none⟩ (ptrV pd)) := (Mods.refl (fun g => g = pf) W).setCell pf 0 _ rfl
      have hpSd : ¬ Sd pf := fun h => by have := hsd pf h; omega
      have hCp : C.setIfInBounds 0 (ptrV pd) = #[ptrV pd] ++ X := by
        apply Array.ext_getElem?
        intro j
        cases j with
        | zero =>
          rw [Array.getElem?_setIfInBounds_self_of_lt (by rw [hC]; simp; omega), Array.getElem?_append_left (by simp)]; rfl
        | succ j =>
          rw [Array.getElem?_setIfInBounds_ne (by omega), hC, show j + 1 = 1 + j by omega, app1_get, app1_get]
      have hfw : Fw (W.setCell ⟨pf, 0, none⟩ (ptrV pd)) pf pd Sd N i (underV pv) (fun g => S g ∨ T g) c 0 (fun _ => none) c (#[.pointer none] ++ X) size ptr := by
        refine ⟨hdW.mods hmW (fun g hg e => ?_), ⟨#[ptrV pd] ++ X, ?_, hX.file pd, fun j h1 _ _ => ?_⟩, hpSd, fun h => ?_⟩
        · subst e
          rcases hg with h | h | h
          · exact hpSd h
          · exact (hnS _ (by omega)).1 h
          · exact (hnS _ (by omega)).2 h
        · rw [← hCp]; exact setc hAW 0 _
        · obtain ⟨j', rfl⟩ : ∃ j', j = 1 + j' := ⟨j - 1, by omega⟩
          rw [app1_get, app1_get]
        · rcases h with h | h
          · exact (hnS _ (by omega)).1 h
          · exact (hnS _ (by omega)).2 h
      have hbw : Below w.heap.size w (W.setCell ⟨pf, 0, none⟩ (ptrV pd)) := (hb5.trans (hbW.mono hb5.size)).setCell (show w.heap.size ≤ pf by omega) _
      refine (hdo _ pf pd Sd hbw (by omega) (fun g hg => by have := hsd g hg; omega) hfw).mono ?_
      rintro e w' ⟨rfl, Sd', nd, Pd, hnd, hfw', hk'⟩
      refine ⟨rfl, Sd', nd, Pd, c', hfw'.D, hnd, (hmW.weak (fun b hb => .inl (.inr hb))).tr hk'.2, fun g hg => ?_, ?_⟩
      · rcases hk'.1 g hg with h | h
        · exact hsd g h
        · have := hbW.size
          have e9 : (W.setCell ⟨pf, 0, none⟩ (ptrV pd)).heap.size = W.heap.size := by simp [World.setCell]
          omega
      · rw [hR]
        obtain ⟨A, h1, h2, h3⟩ := hfw'.A
        exact ⟨fun _ _ => rfl, A, pd, h1, h2, h3⟩))
  have HR := hid hR
  have H56 := hid h56
  have HB5 := hid hb5
  have HNS := hid hnS
  have HPP : Hid (w.heap.size ≤ pf ∧ w.heap.size ≤ g6 ∧ g6 ≠ pf ∧ g6 < W5.heap.size) := hid ⟨by omega, by omega, by omega, by omega⟩
  have HX := hid hX
  have hpf' := hpf.symm
  have hpq' := hpq.symm
  have hg6' := hg6.symm
  have HPF := hid hpf'
  rw [hpf'] at HH4 hW5
  clear b1 b2 b3 b4 h1 h2 h3 h4 h13 hfv hzi hzf hpf hpq hg6 hb4 hb5 h5f h5q h56 hs5 hD5 hnS hR hX hdo hD hcf HALL HSZ s1 s2 s3 s4 hC
  go_enter Tryz.func44, Tryz.ntmps44
  go_wp2_with (first | (rw [← hW1]; clear hW1) | (rw [← hW2]; clear hW2) | (rw [← hW3]; clear hW3) | (rw [← hW4]; clear hW4) | (refine wpList_load_row rfl 31 _ rfl w.heap.size rfl 31 X (0, 0) _ HH13.out Tryz.underlying31 rfl (by rw [HXS.out]; exact sizeIno) ?_) | (refine wpList_build_run rfl 135 _ rfl C HBU.out ?_) | (refine wpList_store_row rfl 135 _ _ rfl pf C rfl rfl 135 zf HH4.out (by rw [HCS.out]; exact sizeFile) (by rw [HCS.out]; exact HZF.out) HCA.out ?_; rw [← hW5]; clear hW5))
  refine HWH.out.mono ?_
  rintro e w6 ⟨rfl, S6, n6, P6, c6, hd6, hn6, hs6, hm6, hr6⟩
  rw [HR.out] at hr6
  obtain ⟨hc6, A, pd, hA6, hF6, hrest⟩ := hr6
  obtain ⟨X', hAX, hto⟩ := hF6.node HXS.out HX.out.one hrest
  rw [hAX] at hA6
  have h66 := (hm6.block g6 HPP.out.2.2.2 (fun e => by rcases e with h | h; exact (HNS.out g6 HPP.out.2.1).1 h; exact HPP.out.2.2.1 h)).trans H56.out
  have HRG : Hid (w6.rangeAt pf 1 X'.toList) := hid (fun j v hj => cell_of hA6 (by rw [app1_get, ← Array.getElem?_toList]; exact hj))
  have H66 := hid h66
  have HTO := hid hto
  have hXs' : X'.size = 23 := hto.is_.sz
  have HXS' := hid hXs'
  have HS6 := hid hs6
  have HN6 := hid hn6
  have HM6 := hid hm6
  have HD6 := hid (hd6.congr hc6)
  clear hd6 hn6 hs6 hm6 hc6 hA6 hF6 hrest hAX hto h66 HWH hBE hpf' hpq' hg6'
  go_wp2_with (first | (refine wpList_load_mid rfl 31 _ rfl pf 1 rfl X'.toList _ HRG.out Tryz.underlying31 rfl (by rw [Array.length_toList, HXS'.out]; exact sizeIno) ?_) | (refine wpList_store_row rfl 31 _ _ rfl g6 X' rfl rfl 31 zi H66.out (by rw [HXS'.out]; exact sizeIno) (by rw [HXS'.out]; exact HZI.out) HTO.out.is_.one ?_))
  refine bodyPost_ret (results_ct rfl _ _ g6 X' _ _ rfl (setRow_heap w6 g6 zi X' _ _ H66.out) Tryz.underlying31 (by rw [HXS'.out]; exact sizeIno)) rfl ⟨X', rfl, HTO.out, S6, n6, P6, ?_, HN6.out, fun b hb => ?_, ?_⟩
  · refine HD6.out.mods (setRow_mods w6 g6 X') (fun g hg e => ?_)
    subst e
    rcases hg with h | h
    · rcases HS6.out _ h with h2 | h2
      · exact (HNS.out _ HPP.out.2.1).1 h2
      · have := HPP.out.2.2.2; omega
    · exact (HNS.out _ HPP.out.2.1).2 h
  · rcases HS6.out b hb with h | h
    · exact .inl h
    · exact .inr (Nat.le_trans HB5.out.size h)
  · have hm1 : Mods S w w6 := (Mods.of_below HB5.out).trans HM6.out (fun b hb => by
      rcases hb with h | h
      · exact .inl h
      · subst h; exact .inr HPP.out.1)
    exact hm1.trans (setRow_mods w6 g6 X') (fun b hb => by subst hb; exact .inr HPP.out.2.1)
end Go.Proofs.YtaplmlldmhdhoaaGreatDoor
