/- alike: two disks that hold the same tell the same. -/
import Derived.Test.YtdbpjdaaggenpaaRefK
namespace Go.Proofs.Ytdbpjdaaggenpaa
open Go.RowKit

theorem DirtyL.same {A : Abs} {L M : List Int} (hL : DirtyL A L) (hM : DirtyL A M) : L = M := rising_eq hL.1 hM.1 (fun k => (hL.2 k).trans (hM.2 k).symm)
theorem DirtyL.isI {A : Abs} {L : List Int} (hL : DirtyL A L) (hN : A.N ≤ 65536) (hv : ∀ k, A.V k ≠ [] → 0 ≤ k ∧ k < A.N) : ∀ x ∈ L, IsI x := fun x hx => by
  have := hv x ((hL.2 x).1 hx)
  exact isI_of (by omega) (by omega)
theorem RDiskAt.below {w w' : World} {px : Nat} {vL : Value} {es : List REnt} {A : Abs} {al : Nat → Prop} (h : RDiskAt w px vL es A al) {B : Nat} (hb : Below B w w') (hB : B = w.heap.size) : RDiskAt w' px vL es A al := by
  subst hB
  exact h.keep hb.size (fun b ha => hb.block b (h.lt b ha))

theorem run_min (ats : Array TypeId) (ty : TypeId) (a b : Int) (W : World) : (Builtin.min_ ats ty #[.int .i64 a, .int .i64 b]).run Try.prog W = .ok (.int .i64 (min a b)) W := by
  simp [Builtin.min_, Builtin.min2]
  split <;> omega
theorem wpList_min {w : World} {ops : Array Oper} {rest : List Oper} {o : Oper} {a : Act} {Q : Exit → Act → World → Prop} (hgd : o.guard = none) (s x : Operand) (t : TypeId)
    (ho : o.op = .call { callee := .builtin .min, args := #[s, x], argTypes := #[t, t] }) {u v m : Int} (hs : a.eval s = .int .i64 u) (hx : a.eval x = .int .i64 v) (hm : min u v = m)
    (h : wpList Try.prog ops Q rest (a.put o.dst (.int .i64 m)) w) : wpList Try.prog ops Q (o :: rest) a w := by
  refine wpList_plain hgd fun K hK => ?_
  subst hm
  unfold Oper.wp execOp
  simp only [ho, resolve, invoke, builtin, Sem.run_bind, Sem.run_pure, Result.andThen_ok, List.map_toArray, List.map_cons, List.map_nil, hs, hx, run_min]
  exact hK _ _ h

set_option maxRecDepth 100000 in
set_option maxHeartbeats 4000000 in
theorem alike_any (w : World) (pd px : Nat) (A : Abs) (n : Nat) (ald alx : Nat → Prop) (hd : Disk w pd A n ald) (hx : RDisk w px A n alx) (hn : n ≤ 549755813888) :
    Calls Try.prog 12 #[.pointer (some ⟨pd, 0, none⟩), .pointer (some ⟨px, 0, none⟩)] w fun e w' => e = .returned (.bool true) ∧ Below w.heap.size w w' := by
  obtain ⟨vL, es, d, hel, hvl⟩ := hx
  have hN := d.hN
  have HV : Hid (∀ k, A.V k ≠ [] → 0 ≤ k ∧ k < A.N) := hid d.vN
  have HVl := hid hvl
  have hc0 : w.cell? ⟨px, 0, none⟩ = some (.int .i64 A.N) := by simp [World.cell?, d.box]
  have HD := hid hd
  have HX := hid d
  have hrd := hid (RDirty_any w px vL es A alx d (by omega))
  clear d hd hvl
  go_enter Try.func12, Try.ntmps12
  go_wp2_with fail
  refine hrd.out.mono ?_
  rintro e w1 ⟨v1, L, rfl, hL, ho1, _, hb1⟩
  obtain ⟨a1, c1, rfl, hi1, _⟩ := ints_of_owns ho1 (hL.isI hN.2 HV.out)
  have hLl := dirty_len hL hN.2 HV.out
  have hc01 := cell_later hb1 hc0
  have HI1 := hid hi1
  have HL := hid hL
  have HB1 := hid hb1
  have hdi := hid (Dirty_any w1.drew pd A n ald (HD.out.below (hb1.drew)) (by omega))
  clear hL ho1 hi1 hb1 hrd
  go_wp2_with fail
  go_region_held3 (fun w' => w'.cell? ⟨px, 0, none⟩ = some (.int .i64 A.N)) ((first | exact hc01 | exact hc02 | exact hc03))
    ((first
      | (go_at_call 17; refine hdi.out.mono ?_; rintro e w2 ⟨v2, L2, rfl, hL2, ho2, _, hb2⟩; have e2 := hL2.same HL.out; subst e2; have hio := ints_of_owns ho2 (hL2.isI hN.2 HV.out); obtain ⟨a2, c2, rfl, hi2, _⟩ := hio; have hc02 := cell_later (w := w1) ⟨hb2.os, hb2.tape, hb2.output, hb2.size, hb2.block⟩ hc01; have HI2 := hid hi2; have HB2 : Hid (Below w1.heap.size w1 w2) := hid ⟨hb2.os, hb2.tape, hb2.output, hb2.size, hb2.block⟩; clear hL2 ho2 hi2 hb2)
      | (go_at_call 25; refine (sameInts_any w2 a2 a1 c2 c1 L2 HI2.out (HI1.out.below HB2.out) (by unfold maxLen; omega)).mono ?_; rintro e w3 ⟨rfl, hb3⟩; have hc03 := cell_later hb3 hc02; have HB3 := hid hb3; clear hb3)
      | (go_at_call 28; refine (Blocks_any w3 pd A n ald (HD.out.below ((HB1.out.trans (HB2.out.mono HB1.out.size)).trans (HB3.out.mono (Nat.le_trans HB1.out.size HB2.out.size))))).mono ?_; rintro e w4 ⟨rfl, hw⟩; rw [hw]; clear hw w4)))
  have HBw : Hid (Below w.heap.size w w3) := hid ((HB1.out.trans (HB2.out.mono HB1.out.size)).trans (HB3.out.mono (Nat.le_trans HB1.out.size HB2.out.size)))
  clear hc01 hc02 HB1 HB2 HB3 HI1 HI2 HL hdi hLl
  obtain ⟨T, hT⟩ : ∃ T : Nat, (T : Int) = min A.N 40 := ⟨(min A.N 40).toNat, by omega⟩
  have HT : Hid (min A.N 40 = (T : Int)) := hid hT.symm
  have hT40 : T ≤ 40 := by omega
  clear hT
  go_wp2_with fail
  go_loopw [6] (fun i wr => ∃ k : Nat, k ≤ T + 2 ∧ i = .int .i64 ((k : Int) - 1) ∧ Below w.heap.size w wr) (fun i _ => T + 2 - (RowKit.intOf i + 1).toNat)
  case atStart => exact ⟨0, Nat.zero_le _, rfl, HBw.out⟩
  case round =>
    obtain ⟨k, hk, rfl, hbe⟩ := hrel
    have hc0r := cell_later hbe hc0
    obtain ⟨i, hi⟩ : ∃ i : Int, i = (k : Int) - 1 := ⟨_, rfl⟩
    rw [← hi]
    have HBe := hid hbe
    have HDr := hid (HD.out.below hbe)
    have HXr := hid (HX.out.below hbe rfl)
    have hiI : IsI i := isI_of (by omega) (by omega)
    have ewi : IntKind.i64.wrap (i + 1) = i + 1 := IntWalk.i64_in _ (by omega)
    clear hbe hc03
    by_cases hlt : k < T + 2
    · have hle : i ≤ (T : Int) := by omega
      have HNext : Hid (∀ w', Below w.heap.size w w' → ∃ k' : Nat, k' ≤ T + 2 ∧ Value.int .i64 (i + 1) = Value.int .i64 ((k' : Int) - 1) ∧ Below w.heap.size w w') := hid fun w' hb' => ⟨k + 1, by omega, by congr 1; omega, hb'⟩
      have hme : T + 2 - (i + 1 + 1).toNat < T + 2 - (i + 1).toNat := by omega
      clear hi
      cases hh : hasB A.N i 1 with
      | true =>
        have hat := hid (fun w' (hb : Below wr.heap.size wr w') => At_any w' px vL es A alx (HXr.out.below hb rfl) (by omega) i)
        have hpe := hid (Platter_any wr pd A n ald HDr.out i hiI hh)
        have hre := hid (fun w' (hb : Below wr.heap.size wr w') => RPlatter_any w' px A n alx ⟨vL, es, HXr.out.below hb rfl, hel, HVl.out⟩ (by omega) i hh)
        have hve := hid (fun w' (hb : Below wr.heap.size wr w') => Versions_any w' pd A n ald (HDr.out.below hb) i hiI hh)
        cases hf : findAt es i with
        | none =>
          have hV0 : (A.V i).length = 0 := by rw [(HXr.out.none_ _ (findAt_none hf)).2]; rfl
          rw [hf] at hat
          rw [hV0] at hve
          simp only [ptrOf] at hat
          clear hf hV0
          go_wp2_with (first
            | (show wpList _ _ _ ({ dst := _, op := .call { callee := .builtin .min, args := #[.tmp 35, _], argTypes := #[3, 3] }, type := _, pos := _, after := _, guard := none } :: _) _ _; refine wpList_min rfl _ _ 3 rfl rfl rfl HT.out ?_; go_frame)
            | (go_at_call 29; refine hpe.out.mono ?_; rintro e w5 ⟨rfl, hb5, hm5⟩; have HB5 := hid hb5; have HM5 := hid hm5; clear hb5 hm5)
            | (go_at_call 30; refine (hre.out w5 HB5.out).mono ?_; rintro e w6 ⟨v6, rfl, hb6, hm6⟩; have HB6 := hid (HB5.out.trans (hb6.mono HB5.out.size)); have hcv5 := (HM5.out.keep hb6).conv; have hcv6 := hm6.conv; clear hb6 hm6)
            | (go_at_call 21; refine (hve.out w6 HB6.out).mono ?_; rintro e w7 ⟨rfl, hw⟩; rw [hw]; clear hw w7)
            | (go_at_call 31; refine (hat.out w6 HB6.out).mono ?_; rintro e w7 ⟨rfl, hw⟩; rw [hw]; clear hw w7))
          go_roundw
          case rel => exact HNext.out _ (HBe.out.trans (HB6.out.mono HBe.out.size))
          case measure => simpa [RowKit.intOf] using hme
        | some en =>
          obtain ⟨hmem, hek⟩ := findAt_some hf
          obtain ⟨hbx, _, _, hr2, _⟩ := HXr.out.ent en hmem
          rw [hek] at hr2
          obtain ⟨av, cv, hvv, _⟩ := hr2.shape
          have hc2 : wr.cell? ⟨en.ad, 2, none⟩ = some (.slice av (A.V i).length cv) := by simp [World.cell?, hbx, hvv]
          rw [hf] at hat
          simp only [ptrOf] at hat
          clear hf hmem hek hbx hr2 hvv
          go_wp2_with (first
            | (show wpList _ _ _ ({ dst := _, op := .call { callee := .builtin .min, args := #[.tmp 35, _], argTypes := #[3, 3] }, type := _, pos := _, after := _, guard := none } :: _) _ _; refine wpList_min rfl _ _ 3 rfl rfl rfl HT.out ?_; go_frame)
            | (go_at_call 29; refine hpe.out.mono ?_; rintro e w5 ⟨rfl, hb5, hm5⟩; have HB5 := hid hb5; have HM5 := hid hm5; clear hb5 hm5)
            | (go_at_call 30; refine (hre.out w5 HB5.out).mono ?_; rintro e w6 ⟨v6, rfl, hb6, hm6⟩; have HB6 := hid (HB5.out.trans (hb6.mono HB5.out.size)); have hcv5 := (HM5.out.keep hb6).conv; have hcv6 := hm6.conv; have hc26 := cell_later HB6.out hc2; clear hb6 hm6)
            | (go_at_call 21; refine (hve.out w6 HB6.out).mono ?_; rintro e w7 ⟨rfl, hw⟩; rw [hw]; clear hw w7)
            | (go_at_call 31; refine (hat.out w6 HB6.out).mono ?_; rintro e w7 ⟨rfl, hw⟩; rw [hw]; clear hw w7))
          go_roundw
          case rel => exact HNext.out _ (HBe.out.trans (HB6.out.mono HBe.out.size))
          case measure => simpa [RowKit.intOf] using hme
      | false =>
        have hV0 : A.V i = [] := by
          by_cases h0 : A.V i = []
          · exact h0
          · have := HV.out i h0
            unfold hasB at hh
            simp at hh
            omega
        have hat := hid (At_any wr px vL es A alx HXr.out (by omega) i)
        have hcv0 := run_convert_bytes_nil (P := Try.prog) wr 42 5 Try.underlying42 Try.underlying5 0 0 9 Try.underlying9
        have hpe := hid (Platter_err wr pd A n ald HDr.out i hh)
        have hre := hid (RPlatter_err wr px A n alx ⟨vL, es, HXr.out, hel, HVl.out⟩ i hh)
        have hve := hid (Versions_err wr pd A n ald HDr.out i hh)
        cases hf : findAt es i with
        | none =>
          rw [hf] at hat
          simp only [ptrOf] at hat
          clear hf hV0
          go_wp2_with (first
            | (show wpList _ _ _ ({ dst := _, op := .call { callee := .builtin .min, args := #[.tmp 35, _], argTypes := #[3, 3] }, type := _, pos := _, after := _, guard := none } :: _) _ _; refine wpList_min rfl _ _ 3 rfl rfl rfl HT.out ?_; go_frame)
            | (go_at_call 29; refine hpe.out.mono ?_; rintro e w5 ⟨rfl, hw⟩; rw [hw]; clear hw w5)
            | (go_at_call 30; refine hre.out.mono ?_; rintro e w5 ⟨rfl, hw⟩; rw [hw]; clear hw w5)
            | (go_at_call 21; refine hve.out.mono ?_; rintro e w5 ⟨rfl, hw⟩; rw [hw]; clear hw w5)
            | (go_at_call 31; refine hat.out.mono ?_; rintro e w5 ⟨rfl, hw⟩; rw [hw]; clear hw w5))
          go_roundw
          case rel => exact HNext.out _ HBe.out
          case measure => simpa [RowKit.intOf] using hme
        | some en =>
          obtain ⟨hmem, hek⟩ := findAt_some hf
          obtain ⟨hbx, _, _, hr2, _⟩ := HXr.out.ent en hmem
          rw [hek, hV0] at hr2
          obtain ⟨av, cv, hvv, _⟩ := hr2.shape
          have hc2 : wr.cell? ⟨en.ad, 2, none⟩ = some (.slice av 0 cv) := by simp [World.cell?, hbx, hvv]
          rw [hf] at hat
          simp only [ptrOf] at hat
          clear hf hmem hek hbx hr2 hvv hV0
          go_wp2_with (first
            | (show wpList _ _ _ ({ dst := _, op := .call { callee := .builtin .min, args := #[.tmp 35, _], argTypes := #[3, 3] }, type := _, pos := _, after := _, guard := none } :: _) _ _; refine wpList_min rfl _ _ 3 rfl rfl rfl HT.out ?_; go_frame)
            | (go_at_call 29; refine hpe.out.mono ?_; rintro e w5 ⟨rfl, hw⟩; rw [hw]; clear hw w5)
            | (go_at_call 30; refine hre.out.mono ?_; rintro e w5 ⟨rfl, hw⟩; rw [hw]; clear hw w5)
            | (go_at_call 21; refine hve.out.mono ?_; rintro e w5 ⟨rfl, hw⟩; rw [hw]; clear hw w5)
            | (go_at_call 31; refine hat.out.mono ?_; rintro e w5 ⟨rfl, hw⟩; rw [hw]; clear hw w5))
          go_roundw
          case rel => exact HNext.out _ HBe.out
          case measure => simpa [RowKit.intOf] using hme
    · have hle : ¬ (i ≤ (T : Int)) := by omega
      clear hi
      go_wp2_with (show wpList _ _ _ ({ dst := _, op := .call { callee := .builtin .min, args := #[.tmp 35, _], argTypes := #[3, 3] }, type := _, pos := _, after := _, guard := none } :: _) _ _; refine wpList_min rfl _ _ 3 rfl rfl rfl HT.out ?_; go_frame)
      go_ret
      exact ⟨rfl, HBe.out⟩
end Go.Proofs.Ytdbpjdaaggenpaa
