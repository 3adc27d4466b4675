/- InodeLong. -/
import Derived.Test.YtnifdbameoilnaaGreatDoorIfF
namespace Go.Proofs.YtnifdbameoilnaaGreatDoor
open Go.RowKit Go.Maps
set_option linter.unusedVariables false
theorem wl_val {P : Program} {ops : Array Oper} {rest : List Oper} {o : Oper} {a : Act} {w : World} {Q : Exit → Act → World → Prop} (dd : Nat) (hw : Region.wanted o (yielded ops a.tmps) = true) (hd : o.dst = some dd) {v : Value} {w' : World} (hrun : (execOp a.eval o).run P w = .ok (.value v) w')
    (h : wpList P ops Q rest { a with tmps := a.tmps.setIfInBounds dd v } w') : wpList P ops Q (o :: rest) a w := by
  unfold wpList
  rw [if_pos hw]
  left
  unfold Oper.wp
  rw [hrun]
  show wpList P ops Q rest (a.put o.dst v) w'
  rw [nput_some hd]
  exact h
theorem wl_skip {P : Program} {ops : Array Oper} {rest : List Oper} {o : Oper} {a : Act} {w : World} {Q : Exit → Act → World → Prop} (dd : Nat) (hw : Region.wanted o (yielded ops a.tmps) = false) (hd : o.dst = some dd)
    (h : wpList P ops Q rest { a with tmps := a.tmps.setIfInBounds dd undef } w) : wpList P ops Q (o :: rest) a w :=
  wpList_skip hw (by rw [nput_some hd]; exact h)
theorem builtIno0 : Tryz.prog.built 32 [] = some (sizC 0) := builtIno
theorem sizC_ex (size : Int) : sizC size = #[.int .i64 0, .int .i64 0, .int .i64 0, .int .u32 0, .int .u32 0, .int .u32 0, .int .u64 size, .int .u64 0, .int .u32 0, .int .u32 0, .int .u32 0, .int .u32 0, .int .u32 0, .int .u32 0, .int .i64 0, .int .i64 0, .int .i64 0, .int .i64 0, .int .i64 0, .int .i64 0, .int .i64 0, .int .i64 0, .int .i64 0] := rfl
theorem WrO.ok {at_ len n' : Nat} {X' : Array Value} {ev : Value} (h : WrO at_ len X' ev n') : (X'.size = 23 ∧ X'.all (·.oneCell') = true) ∧ n' ≤ 1000 := by
  rcases h with ⟨_, rfl, _, h⟩ | ⟨_, _, rfl, _, h⟩ | ⟨_, _, _, rfl, _, h⟩ | ⟨_, _, _, h1, h2, _, _, h⟩
  · exact ⟨⟨rfl, (sizC_is 0).one⟩, by omega⟩
  · exact ⟨⟨rfl, (sizC_is 0).one⟩, by omega⟩
  · exact ⟨⟨rfl, (sizC_is 0).one⟩, h⟩
  · exact ⟨⟨h1, h2⟩, h⟩
theorem TrO.ok {sz : Int} {Y : Array Value} {ev : Value} (h : TrO sz Y ev) : Y.size = 23 ∧ Y.all (·.oneCell') = true := by
  rcases h with ⟨_, rfl, _⟩ | ⟨_, rfl, _⟩
  · exact ⟨rfl, (sizC_is 0).one⟩
  · exact ⟨rfl, (sizC_is sz).one⟩
set_option maxRecDepth 100000 in
set_option maxHeartbeats 8000000 in
theorem InodeLong_walk (w : World) (hG : Gl w) (at0 n size : Int) (ha0 : 0 ≤ at0) (ha1 : at0 < 18446744073709551616) (hz0 : 0 ≤ size) :
    Calls Tryz.prog 3 #[.int .u64 at0, n64 n, .int .u64 size] w fun e w' => e = .returned (.bool true) ∧ Below w.heap.size w w' := by
  obtain ⟨at_, rfl⟩ : ∃ A : Nat, at0 = (A : Int) := ⟨at0.toNat, by omega⟩
  have hwi := wi_bd n 9000 (by decide)
  obtain ⟨len, hlen⟩ : ∃ len : Nat, wi n 9000 = (len : Int) := ⟨(wi n 9000).toNat, by omega⟩
  have hl9 : len < 9000 := by omega
  have HW : Hid (∀ W, Calls Tryz.prog 6 #[n64 n, n64 9000] W fun e w' => e = .returned (n64 len) ∧ w' = W) := hid (fun W => by rw [← hlen]; exact within10 n 9000 (by decide) (by decide) W)
  have mk : ∀ W : World, (Instr.makeSlice 37 (.int .i64 (len : Int)) (.int .i64 (len : Int))).run Tryz.prog W = .ok (.slice (some ⟨W.heap.size, 0, none⟩) len len) (W.alloc (.cells (madeCells #[.int .u8 0] len) 5)) := run_make_row' (P := Tryz.prog) 37 5 (.int .u8 0) 1 Tryz.underlying37 info5 rfl .i64 .i64 len (by omega) (by omega)
  have HK := hid (known10 w hG)
  have HG := hid hG
  have HA := hid (And.intro ha1 hz0)
  have HL9 := hid hl9
  clear hG hwi hlen ha0 ha1 hz0 hl9
  go_enter Tryz.func3, Tryz.ntmps3
  go_wp2_with fail
  refine HK.out.mono ?_
  rintro e w1 ⟨rfl, hb1⟩
  have HB1 := hid hb1
  have HF := hid (Fresh_dw w1 400 8 plan400 (by decide))
  clear hb1 HK
  go_wp2_with fail
  refine HF.out.mono ?_
  rintro e w2 ⟨pv, S, base, T, bc, rfl, hd, hbits, hS, hT, hb2⟩
  rw [bits400] at hbits
  obtain ⟨g2, hg2⟩ : ∃ g, w2.heap.size = g := ⟨_, rfl⟩
  obtain ⟨W2, hW2⟩ : ∃ W, W = w2.alloc (.cells (madeCells #[.int .u8 0] len) 5) := ⟨_, rfl⟩
  have hb3 : Below w2.heap.size w2 W2 := by rw [hW2]; exact (Below.refl _ _).alloc (Nat.le_refl _) _
  have hy2 := zerosN_by w2 len
  rw [← hW2, hg2] at hy2
  have hB2 : Below w.heap.size w w2 := HB1.out.trans (hb2.mono HB1.out.size)
  have hB3 : Below w.heap.size w W2 := hB2.trans (hb3.mono hB2.size)
  have HWR := hid (Write_all (hd.later hb3) (HG.out.later hB3) hbits at_ (by have := HA.out.1; omega) (List.replicate len 0) (some ⟨g2, 0, none⟩) len len (by rw [List.length_replicate]) (Nat.le_refl _) hy2)
  have HB3 := hid hB3
  have HS : Hid (∀ g, S g → w.heap.size ≤ g) := hid (fun g hg => Nat.le_trans HB1.out.size (hS g hg))
  clear hd hbits hS hT hb2 hb3 hy2 hB2 hB3 HF HB1
  go_wp2_with (first | (go_at_call 6; refine (HW.out _).mono ?_; rintro e w8 ⟨rfl, hw8⟩; rw [hw8]; clear hw8) | (rw [← hW2]; clear hW2) | (refine wpList_build_run rfl 32 _ rfl (sizC 0) builtIno0 ?_))
  refine HWR.out.mono ?_
  rintro e w3 ⟨X', ev, S3, n3, P3, c3, rfl, hO, hd3, hk3⟩
  have HOK := hid hO.ok
  have HO := hid hO
  obtain ⟨gx, hgx⟩ : ∃ gb, w3.heap.size = gb := ⟨_, rfl⟩
  obtain ⟨Ugx, hUgx⟩ : ∃ W, W = w3.alloc (.cells #[.int .i64 0, .int .i64 0, .int .i64 0, .int .u32 0, .int .u32 0, .int .u32 0, .int .u64 0, .int .u64 0, .int .u32 0, .int .u32 0, .int .u32 0, .int .u32 0, .int .u32 0, .int .u32 0, .int .i64 0, .int .i64 0, .int .i64 0, .int .i64 0, .int .i64 0, .int .i64 0, .int .i64 0, .int .i64 0, .int .i64 0] 32) := ⟨_, rfl⟩
  obtain ⟨Vgx, hVgx⟩ : ∃ W, W = Ugx.setRow gx X' := ⟨_, rfl⟩
  obtain ⟨hqgx, hrgx, hbgx, hsgx⟩ := box_new hgx hUgx hVgx
  have HQgx := hid hqgx
  obtain ⟨hB4, hS4⟩ := hk3.below0 HB3.out HS.out
  have HTR := hid (Truncate_all (hd3.later hbgx) hO.ok.2 size HA.out.2)
  have HB5 := hid (hB4.trans (hbgx.mono hB4.size))
  have HS4 := hid hS4
  have HX4 := hid hrgx
  have HGX : Hid (gx < Vgx.heap.size ∧ ¬ S3 gx) := hid ⟨by omega, fun e => by have := hd3.s gx e; omega⟩
  clear hd3 hk3 hO hqgx hrgx hbgx hsgx hB4 hS4 HWR HW mk hg2
  go_wp2_with (first | (rw [← hUgx]; clear hUgx) | (refine wpList_store_row rfl 32 _ _ rfl gx X' rfl rfl 32 _ HQgx.out (by rw [HOK.out.1.1]; exact sizeIno) (by rw [HOK.out.1.1]; rfl) HOK.out.1.2 ?_; rw [← hVgx]; clear hVgx) | (refine wpList_build_run rfl 32 _ rfl (sizC 0) builtIno0 ?_))
  refine HTR.out.mono ?_
  rintro e w5 ⟨Y, fv, S5, n5, P5, rfl, hT5, hd5, hn5, hk5⟩
  have HTK := hid hT5.ok
  have HT5 := hid hT5
  have HX5 := hid ((hk5.block HGX.out.1 HGX.out.2).trans HX4.out)
  have HGX5 : Hid (gx < w5.heap.size) := hid (Nat.lt_of_lt_of_le HGX.out.1 hk5.2.size)
  obtain ⟨gy, hgy⟩ : ∃ gb, w5.heap.size = gb := ⟨_, rfl⟩
  obtain ⟨Ugy, hUgy⟩ : ∃ W, W = w5.alloc (.cells #[.int .i64 0, .int .i64 0, .int .i64 0, .int .u32 0, .int .u32 0, .int .u32 0, .int .u64 0, .int .u64 0, .int .u32 0, .int .u32 0, .int .u32 0, .int .u32 0, .int .u32 0, .int .u32 0, .int .i64 0, .int .i64 0, .int .i64 0, .int .i64 0, .int .i64 0, .int .i64 0, .int .i64 0, .int .i64 0, .int .i64 0] 32) := ⟨_, rfl⟩
  obtain ⟨Vgy, hVgy⟩ : ∃ W, W = Ugy.setRow gy Y := ⟨_, rfl⟩
  obtain ⟨hqgy, hrgy, hbgy, hsgy⟩ := box_new hgy hUgy hVgy
  have HQgy := hid hqgy
  obtain ⟨hB6, hS6⟩ := hk5.below0 HB5.out HS4.out
  have HBF := hid (hB6.trans (hbgy.mono hB6.size))
  have HD6 := hid (hd5.later hbgy)
  have HX6 := hid ((hbgy.block gx HGX5.out).trans HX5.out)
  have HY6 := hid hrgy
  have HN6 := hid hn5
  have HGY : Hid (gx < Vgy.heap.size ∧ gy < Vgy.heap.size) := hid ⟨by have := HGX5.out; omega, by omega⟩
  clear hd5 hk5 hT5 hn5 hqgy hrgy hbgy hsgy hB6 hS6 HTR HX4 HX5 HGX HGX5 HB5 HS4 hgx
  have z1 : ∀ w : World, (binOp .eql 32 (.agg #[.int .i64 0, .int .i64 0, .int .i64 0, .int .u32 0, .int .u32 0, .int .u32 0, .int .u64 0, .int .u64 0, .int .u32 0, .int .u32 0, .int .u32 0, .int .u32 0, .int .u32 0, .int .u32 0, .int .i64 0, .int .i64 0, .int .i64 0, .int .i64 0, .int .i64 0, .int .i64 0, .int .i64 0, .int .i64 0, .int .i64 0]) (.agg #[.int .i64 0, .int .i64 0, .int .i64 0, .int .u32 0, .int .u32 0, .int .u32 0, .int .u64 0, .int .u64 0, .int .u32 0, .int .u32 0, .int .u32 0, .int .u32 0, .int .u32 0, .int .u32 0, .int .i64 0, .int .i64 0, .int .i64 0, .int .i64 0, .int .i64 0, .int .i64 0, .int .i64 0, .int .i64 0, .int .i64 0])).run Tryz.prog w = .ok (.bool true) w := sizC_eq 0
  have z2 : ∀ w : World, (binOp .neq 32 (.agg #[.int .i64 0, .int .i64 0, .int .i64 0, .int .u32 0, .int .u32 0, .int .u32 0, .int .u64 0, .int .u64 0, .int .u32 0, .int .u32 0, .int .u32 0, .int .u32 0, .int .u32 0, .int .u32 0, .int .i64 0, .int .i64 0, .int .i64 0, .int .i64 0, .int .i64 0, .int .i64 0, .int .i64 0, .int .i64 0, .int .i64 0]) (.agg #[.int .i64 0, .int .i64 0, .int .i64 0, .int .u32 0, .int .u32 0, .int .u32 0, .int .u64 0, .int .u64 0, .int .u32 0, .int .u32 0, .int .u32 0, .int .u32 0, .int .u32 0, .int .u32 0, .int .i64 0, .int .i64 0, .int .i64 0, .int .i64 0, .int .i64 0, .int .i64 0, .int .i64 0, .int .i64 0, .int .i64 0])).run Tryz.prog w = .ok (.bool false) w := sizC_ne 0
  have z3 : ∀ w : World, (binOp .eql 32 (.agg #[.int .i64 0, .int .i64 0, .int .i64 0, .int .u32 0, .int .u32 0, .int .u32 0, .int .u64 size, .int .u64 0, .int .u32 0, .int .u32 0, .int .u32 0, .int .u32 0, .int .u32 0, .int .u32 0, .int .i64 0, .int .i64 0, .int .i64 0, .int .i64 0, .int .i64 0, .int .i64 0, .int .i64 0, .int .i64 0, .int .i64 0]) (.agg #[.int .i64 0, .int .i64 0, .int .i64 0, .int .u32 0, .int .u32 0, .int .u32 0, .int .u64 size, .int .u64 0, .int .u32 0, .int .u32 0, .int .u32 0, .int .u32 0, .int .u32 0, .int .u32 0, .int .i64 0, .int .i64 0, .int .i64 0, .int .i64 0, .int .i64 0, .int .i64 0, .int .i64 0, .int .i64 0, .int .i64 0])).run Tryz.prog w = .ok (.bool true) w := sizC_eq size
  rcases HO.out with ⟨o1, rfl, rfl, o4⟩ | ⟨o1, o2, rfl, rfl, o4⟩ | ⟨o1, o2, o3, rfl, rfl, o4⟩ | ⟨o1, o2, o3, o5, o6, o7, rfl, o4⟩
  · -- too many bytes
    as_aux_lemma =>
      have u1 : (8192 : Int) < len := by omega
      have HP := hid (Puts0 HD6.out (by have := HN6.out; omega))
      rw [sizC_0] at HX6
      clear o1 o4 HO HOK HT5
      go_wp2_with (first | (rw [← hUgy]; clear hUgy) | (refine wpList_store_row rfl 32 _ _ rfl gy _ rfl rfl 32 _ HQgy.out (by rw [HTK.out.1]; exact sizeIno) (by rw [HTK.out.1]; rfl) HTK.out.2 ?_; rw [← hVgy]; clear hVgy))
      refine (Is_same _ 1 (by decide)).mono ?_
      rintro e w7 ⟨rfl, hw7⟩
      rw [hw7]
      clear hw7
      go_wp2_with (first | (refine load_rowG rfl 32 _ rfl gx rfl 32 _ (0, 0) _ HX6.out Tryz.underlying32 sizeIno ?_))
      refine HP.out.mono ?_
      rintro e w8 ⟨a8, c8, rfl, hb8⟩
      have HB8 := hid (HBF.out.trans (hb8.mono HBF.out.size))
      clear hb8 HP
      go_wp2_with fail
      go_ret
      exact ⟨rfl, HB8.out⟩
  · -- too long
    as_aux_lemma =>
      have u1 : ¬ (8192 : Int) < len := by omega
      have HP := hid (Puts0 HD6.out (by have := HN6.out; omega))
      rw [sizC_0] at HX6
      have u3 : IntKind.u64.wrap (len : Int) = (len : Int) := by rw [IntKind.wrap_u64]; omega
      by_cases h3 : (1082199040 : Int) < at_
      · clear o1 o2 o4 HO HOK
        rcases HT5.out with ⟨t1, rfl, rfl⟩ | ⟨t1, rfl, rfl⟩
        · rw [sizC_0] at HY6
          go_wp2_with (first | (rw [← hUgy]; clear hUgy) | (refine wpList_store_row rfl 32 _ _ rfl gy _ rfl rfl 32 _ HQgy.out (by rw [HTK.out.1]; exact sizeIno) (by rw [HTK.out.1]; rfl) HTK.out.2 ?_; rw [← hVgy]; clear hVgy))
          refine (Is_same _ 5 (by decide)).mono ?_
          rintro e w7 ⟨rfl, hw7⟩
          rw [hw7]
          clear hw7
          go_wp2_with (first | (refine load_rowG rfl 32 _ rfl gx rfl 32 _ (0, 0) _ HX6.out Tryz.underlying32 sizeIno ?_))
          refine HP.out.mono ?_
          rintro e w8 ⟨a8, c8, rfl, hb8⟩
          have HB8 := hid (HBF.out.trans (hb8.mono HBF.out.size))
          have HY8 := hid ((hb8.block gy HGY.out.2).trans HY6.out)
          clear hb8 HP
          go_wp2_with fail
          refine (Is_same _ 5 (by decide)).mono ?_
          rintro e w9 ⟨rfl, hw9⟩
          rw [hw9]
          clear hw9
          go_wp2_with (first | (refine load_rowG rfl 32 _ rfl gy rfl 32 _ (0, 0) _ HY8.out Tryz.underlying32 sizeIno ?_))
          go_ret
          exact ⟨rfl, HB8.out⟩
        · rw [sizC_ex] at HY6
          have v1 : ¬ (1082199040 : Int) < size := by omega
          go_wp2_with (first | (rw [← hUgy]; clear hUgy) | (refine wpList_store_row rfl 32 _ _ rfl gy _ rfl rfl 32 _ HQgy.out (by rw [HTK.out.1]; exact sizeIno) (by rw [HTK.out.1]; rfl) HTK.out.2 ?_; rw [← hVgy]; clear hVgy))
          refine (Is_same _ 5 (by decide)).mono ?_
          rintro e w7 ⟨rfl, hw7⟩
          rw [hw7]
          clear hw7
          go_wp2_with (first | (refine load_rowG rfl 32 _ rfl gx rfl 32 _ (0, 0) _ HX6.out Tryz.underlying32 sizeIno ?_))
          refine HP.out.mono ?_
          rintro e w8 ⟨a8, c8, rfl, hb8⟩
          have HB8 := hid (HBF.out.trans (hb8.mono HBF.out.size))
          have HY8 := hid ((hb8.block gy HGY.out.2).trans HY6.out)
          clear hb8 HP
          go_wp2_with (first | (refine load_rowG rfl 32 _ rfl gy rfl 32 _ (0, 0) _ HY8.out Tryz.underlying32 sizeIno ?_))
          go_ret
          exact ⟨rfl, HB8.out⟩
      · obtain ⟨dd, hdd⟩ : ∃ dd, dd = 1082199040 - (at_ : Int) := ⟨_, rfl⟩
        have u4 : IntKind.u64.wrap (1082199040 - (at_ : Int)) = dd := by rw [IntKind.wrap_u64, hdd]; omega
        have u5 : dd < (len : Int) := by omega
        clear o1 o2 o4 HO HOK hdd
        rcases HT5.out with ⟨t1, rfl, rfl⟩ | ⟨t1, rfl, rfl⟩
        · rw [sizC_0] at HY6
          go_wp2_with (first | (rw [← hUgy]; clear hUgy) | (refine wpList_store_row rfl 32 _ _ rfl gy _ rfl rfl 32 _ HQgy.out (by rw [HTK.out.1]; exact sizeIno) (by rw [HTK.out.1]; rfl) HTK.out.2 ?_; rw [← hVgy]; clear hVgy))
          refine (Is_same _ 5 (by decide)).mono ?_
          rintro e w7 ⟨rfl, hw7⟩
          rw [hw7]
          clear hw7
          go_wp2_with (first | (refine load_rowG rfl 32 _ rfl gx rfl 32 _ (0, 0) _ HX6.out Tryz.underlying32 sizeIno ?_))
          refine HP.out.mono ?_
          rintro e w8 ⟨a8, c8, rfl, hb8⟩
          have HB8 := hid (HBF.out.trans (hb8.mono HBF.out.size))
          have HY8 := hid ((hb8.block gy HGY.out.2).trans HY6.out)
          clear hb8 HP
          go_wp2_with fail
          refine (Is_same _ 5 (by decide)).mono ?_
          rintro e w9 ⟨rfl, hw9⟩
          rw [hw9]
          clear hw9
          go_wp2_with (first | (refine load_rowG rfl 32 _ rfl gy rfl 32 _ (0, 0) _ HY8.out Tryz.underlying32 sizeIno ?_))
          go_ret
          exact ⟨rfl, HB8.out⟩
        · rw [sizC_ex] at HY6
          have v1 : ¬ (1082199040 : Int) < size := by omega
          go_wp2_with (first | (rw [← hUgy]; clear hUgy) | (refine wpList_store_row rfl 32 _ _ rfl gy _ rfl rfl 32 _ HQgy.out (by rw [HTK.out.1]; exact sizeIno) (by rw [HTK.out.1]; rfl) HTK.out.2 ?_; rw [← hVgy]; clear hVgy))
          refine (Is_same _ 5 (by decide)).mono ?_
          rintro e w7 ⟨rfl, hw7⟩
          rw [hw7]
          clear hw7
          go_wp2_with (first | (refine load_rowG rfl 32 _ rfl gx rfl 32 _ (0, 0) _ HX6.out Tryz.underlying32 sizeIno ?_))
          refine HP.out.mono ?_
          rintro e w8 ⟨a8, c8, rfl, hb8⟩
          have HB8 := hid (HBF.out.trans (hb8.mono HBF.out.size))
          have HY8 := hid ((hb8.block gy HGY.out.2).trans HY6.out)
          clear hb8 HP
          go_wp2_with (first | (refine load_rowG rfl 32 _ rfl gy rfl 32 _ (0, 0) _ HY8.out Tryz.underlying32 sizeIno ?_))
          go_ret
          exact ⟨rfl, HB8.out⟩
  · -- nothing
    as_aux_lemma =>
      have u1 : ¬ (8192 : Int) < len := by omega
      have u2 : ¬ (1082199040 : Int) < at_ := by omega
      have u3 : IntKind.u64.wrap (len : Int) = (len : Int) := by rw [IntKind.wrap_u64]; omega
      obtain ⟨dd, hdd⟩ : ∃ dd, dd = 1082199040 - (at_ : Int) := ⟨_, rfl⟩
      have u4 : IntKind.u64.wrap (1082199040 - (at_ : Int)) = dd := by rw [IntKind.wrap_u64, hdd]; omega
      have u5 : ¬ dd < (len : Int) := by omega
      have u6 : ¬ (0 : Int) < len := by omega
      have u7 : ((len : Int) == 0) = true := by rw [beq_iff_eq]; omega
      rw [sizC_0] at HX6
      have HL0 : Hid (len = 0) := hid (by omega)
      clear o1 o2 o3 o4 HO HOK hdd
      rcases HT5.out with ⟨t1, rfl, rfl⟩ | ⟨t1, rfl, rfl⟩
      · rw [sizC_0] at HY6
        go_upto_region 14 with (first | (rw [← hUgy]; clear hUgy) | (refine wpList_store_row rfl 32 _ _ rfl gy _ rfl rfl 32 _ HQgy.out (by rw [HTK.out.1]; exact sizeIno) (by rw [HTK.out.1]; rfl) HTK.out.2 ?_; rw [← hVgy]; clear hVgy))
        refine wp_region_lit ?_
        refine wl_val 73 (by kernel_rfl) rfl (v := .nilIface) (w' := Vgy) (by go_simp) ?_
        simp only [List.setIfInBounds_toArray, List.set_cons_zero, List.set_cons_succ]
        refine wl_val 74 (by kernel_rfl) rfl (v := .bool false) (w' := Vgy) (by go_simp) ?_
        simp only [List.setIfInBounds_toArray, List.set_cons_zero, List.set_cons_succ]
        refine wl_val 75 (by kernel_rfl) rfl (v := .bool false) (w' := Vgy) (by go_simp) ?_
        simp only [List.setIfInBounds_toArray, List.set_cons_zero, List.set_cons_succ]
        refine wl_val 76 (by kernel_rfl) rfl (v := n64 (len : Int)) (w' := Vgy) (by go_simp) ?_
        simp only [List.setIfInBounds_toArray, List.set_cons_zero, List.set_cons_succ]
        refine wl_val 77 (by kernel_rfl) rfl (v := .bool false) (w' := Vgy) (by go_simp; exact HL0.out) ?_
        simp only [List.setIfInBounds_toArray, List.set_cons_zero, List.set_cons_succ]
        refine wl_val 78 (by kernel_rfl) rfl (v := .bool false) (w' := Vgy) (by go_simp) ?_
        simp only [List.setIfInBounds_toArray, List.set_cons_zero, List.set_cons_succ]
        go_skip
        refine wl_val 86 (by kernel_rfl) rfl (v := .bool false) (w' := Vgy) (by go_simp) ?_
        simp only [List.setIfInBounds_toArray, List.set_cons_zero, List.set_cons_succ]
        refine wl_val 87 (by kernel_rfl) rfl (v := .bool false) (w' := Vgy) (by go_simp) ?_
        simp only [List.setIfInBounds_toArray, List.set_cons_zero, List.set_cons_succ]
        refine wl_val 88 (by kernel_rfl) rfl (v := .bool false) (w' := Vgy) (by go_simp) ?_
        simp only [List.setIfInBounds_toArray, List.set_cons_zero, List.set_cons_succ]
        refine wl_val 89 (by kernel_rfl) rfl (v := n64 (len : Int)) (w' := Vgy) (by go_simp) ?_
        simp only [List.setIfInBounds_toArray, List.set_cons_zero, List.set_cons_succ]
        refine wl_val 90 (by kernel_rfl) rfl (v := .bool true) (w' := Vgy) (by go_simp) ?_
        simp only [List.setIfInBounds_toArray, List.set_cons_zero, List.set_cons_succ]
        refine wl_val 91 (by kernel_rfl) rfl (v := .bool true) (w' := Vgy) (by go_simp) ?_
        simp only [List.setIfInBounds_toArray, List.set_cons_zero, List.set_cons_succ]
        refine load_rowG (by kernel_rfl) 32 (.tmp 8) (by kernel_rfl) gx (by kernel_rfl) 32 _ (0, 0) _ HX6.out Tryz.underlying32 (by kernel_rfl) ?_
        simp only [Act.put, List.setIfInBounds_toArray, List.set_cons_zero, List.set_cons_succ]
        refine wl_val 93 (by kernel_rfl) rfl (v := .agg #[.int .i64 0, .int .i64 0, .int .i64 0, .int .u32 0, .int .u32 0, .int .u32 0, .int .u64 0, .int .u64 0, .int .u32 0, .int .u32 0, .int .u32 0, .int .u32 0, .int .u32 0, .int .u32 0, .int .i64 0, .int .i64 0, .int .i64 0, .int .i64 0, .int .i64 0, .int .i64 0, .int .i64 0, .int .i64 0, .int .i64 0]) (w' := Vgy) (by go_simp) ?_
        simp only [List.setIfInBounds_toArray, List.set_cons_zero, List.set_cons_succ]
        refine wl_val 94 (by kernel_rfl) rfl (v := .bool false) (w' := Vgy) (by go_simp) ?_
        simp only [List.setIfInBounds_toArray, List.set_cons_zero, List.set_cons_succ]
        refine wl_val 95 (by kernel_rfl) rfl (v := .bool false) (w' := Vgy) (by go_simp) ?_
        simp only [List.setIfInBounds_toArray, List.set_cons_zero, List.set_cons_succ]
        refine wl_val 96 (by kernel_rfl) rfl (v := .bool false) (w' := Vgy) (by go_simp) ?_
        simp only [List.setIfInBounds_toArray, List.set_cons_zero, List.set_cons_succ]
        refine wpList_nil ?_
        go_wp2_with fail
        refine (Is_same _ 5 (by decide)).mono ?_
        rintro e w9 ⟨rfl, hw9⟩
        rw [hw9]
        clear hw9
        go_wp2_with (first | (refine load_rowG rfl 32 _ rfl gy rfl 32 _ (0, 0) _ HY6.out Tryz.underlying32 sizeIno ?_))
        go_ret
        exact ⟨rfl, HBF.out⟩
      · rw [sizC_ex] at HY6
        have v1 : ¬ (1082199040 : Int) < size := by omega
        go_upto_region 14 with (first | (rw [← hUgy]; clear hUgy) | (refine wpList_store_row rfl 32 _ _ rfl gy _ rfl rfl 32 _ HQgy.out (by rw [HTK.out.1]; exact sizeIno) (by rw [HTK.out.1]; rfl) HTK.out.2 ?_; rw [← hVgy]; clear hVgy))
        refine wp_region_lit ?_
        refine wl_val 73 (by kernel_rfl) rfl (v := .nilIface) (w' := Vgy) (by go_simp) ?_
        simp only [List.setIfInBounds_toArray, List.set_cons_zero, List.set_cons_succ]
        refine wl_val 74 (by kernel_rfl) rfl (v := .bool false) (w' := Vgy) (by go_simp) ?_
        simp only [List.setIfInBounds_toArray, List.set_cons_zero, List.set_cons_succ]
        refine wl_val 75 (by kernel_rfl) rfl (v := .bool false) (w' := Vgy) (by go_simp) ?_
        simp only [List.setIfInBounds_toArray, List.set_cons_zero, List.set_cons_succ]
        refine wl_val 76 (by kernel_rfl) rfl (v := n64 (len : Int)) (w' := Vgy) (by go_simp) ?_
        simp only [List.setIfInBounds_toArray, List.set_cons_zero, List.set_cons_succ]
        refine wl_val 77 (by kernel_rfl) rfl (v := .bool false) (w' := Vgy) (by go_simp; exact HL0.out) ?_
        simp only [List.setIfInBounds_toArray, List.set_cons_zero, List.set_cons_succ]
        refine wl_val 78 (by kernel_rfl) rfl (v := .bool false) (w' := Vgy) (by go_simp) ?_
        simp only [List.setIfInBounds_toArray, List.set_cons_zero, List.set_cons_succ]
        go_skip
        refine wl_val 86 (by kernel_rfl) rfl (v := .bool false) (w' := Vgy) (by go_simp) ?_
        simp only [List.setIfInBounds_toArray, List.set_cons_zero, List.set_cons_succ]
        refine wl_val 87 (by kernel_rfl) rfl (v := .bool false) (w' := Vgy) (by go_simp) ?_
        simp only [List.setIfInBounds_toArray, List.set_cons_zero, List.set_cons_succ]
        refine wl_val 88 (by kernel_rfl) rfl (v := .bool false) (w' := Vgy) (by go_simp) ?_
        simp only [List.setIfInBounds_toArray, List.set_cons_zero, List.set_cons_succ]
        refine wl_val 89 (by kernel_rfl) rfl (v := n64 (len : Int)) (w' := Vgy) (by go_simp) ?_
        simp only [List.setIfInBounds_toArray, List.set_cons_zero, List.set_cons_succ]
        refine wl_val 90 (by kernel_rfl) rfl (v := .bool true) (w' := Vgy) (by go_simp) ?_
        simp only [List.setIfInBounds_toArray, List.set_cons_zero, List.set_cons_succ]
        refine wl_val 91 (by kernel_rfl) rfl (v := .bool true) (w' := Vgy) (by go_simp) ?_
        simp only [List.setIfInBounds_toArray, List.set_cons_zero, List.set_cons_succ]
        refine load_rowG (by kernel_rfl) 32 (.tmp 8) (by kernel_rfl) gx (by kernel_rfl) 32 _ (0, 0) _ HX6.out Tryz.underlying32 (by kernel_rfl) ?_
        simp only [Act.put, List.setIfInBounds_toArray, List.set_cons_zero, List.set_cons_succ]
        refine wl_val 93 (by kernel_rfl) rfl (v := .agg #[.int .i64 0, .int .i64 0, .int .i64 0, .int .u32 0, .int .u32 0, .int .u32 0, .int .u64 0, .int .u64 0, .int .u32 0, .int .u32 0, .int .u32 0, .int .u32 0, .int .u32 0, .int .u32 0, .int .i64 0, .int .i64 0, .int .i64 0, .int .i64 0, .int .i64 0, .int .i64 0, .int .i64 0, .int .i64 0, .int .i64 0]) (w' := Vgy) (by go_simp) ?_
        simp only [List.setIfInBounds_toArray, List.set_cons_zero, List.set_cons_succ]
        refine wl_val 94 (by kernel_rfl) rfl (v := .bool false) (w' := Vgy) (by go_simp) ?_
        simp only [List.setIfInBounds_toArray, List.set_cons_zero, List.set_cons_succ]
        refine wl_val 95 (by kernel_rfl) rfl (v := .bool false) (w' := Vgy) (by go_simp) ?_
        simp only [List.setIfInBounds_toArray, List.set_cons_zero, List.set_cons_succ]
        refine wl_val 96 (by kernel_rfl) rfl (v := .bool false) (w' := Vgy) (by go_simp) ?_
        simp only [List.setIfInBounds_toArray, List.set_cons_zero, List.set_cons_succ]
        refine wpList_nil ?_
        go_wp2_with (first | (refine load_rowG rfl 32 _ rfl gy rfl 32 _ (0, 0) _ HY6.out Tryz.underlying32 sizeIno ?_))
        go_ret
        exact ⟨rfl, HBF.out⟩
  · -- some bytes
    as_aux_lemma =>
      have u1 : ¬ (8192 : Int) < len := by omega
      have u2 : ¬ (1082199040 : Int) < at_ := by omega
      have u3 : IntKind.u64.wrap (len : Int) = (len : Int) := by rw [IntKind.wrap_u64]; omega
      obtain ⟨dd, hdd⟩ : ∃ dd, dd = 1082199040 - (at_ : Int) := ⟨_, rfl⟩
      have u4 : IntKind.u64.wrap (1082199040 - (at_ : Int)) = dd := by rw [IntKind.wrap_u64, hdd]; omega
      have u5 : ¬ dd < (len : Int) := by omega
      have u6 : (0 : Int) < len := by omega
      have u7 : ((len : Int) == 0) = false := by rw [beq_eq_false_iff_ne]; omega
      obtain ⟨sL, hsL⟩ : ∃ sL : Nat, at_ + len = sL := ⟨_, rfl⟩
      have u8 : IntKind.u64.wrap ((at_ : Int) + (len : Int)) = (sL : Int) := by rw [IntKind.wrap_u64]; omega
      rw [hsL] at o7
      have c6 : Vgy.cell? ⟨gx, 6, none⟩ = some (.int .u64 (sL : Int)) := cell_of HX6.out o7
      clear o1 o2 o3 o4 o5 o6 o7 HO HOK hdd hsL
      rcases HT5.out with ⟨t1, rfl, rfl⟩ | ⟨t1, rfl, rfl⟩
      · rw [sizC_0] at HY6
        go_wp2_with (first | (rw [← hUgy]; clear hUgy) | (refine wpList_store_row rfl 32 _ _ rfl gy _ rfl rfl 32 _ HQgy.out (by rw [HTK.out.1]; exact sizeIno) (by rw [HTK.out.1]; rfl) HTK.out.2 ?_; rw [← hVgy]; clear hVgy) | (refine load_rowG rfl 32 _ rfl gx rfl 32 _ (0, 0) _ HX6.out Tryz.underlying32 sizeIno ?_))
        refine (Is_same _ 5 (by decide)).mono ?_
        rintro e w9 ⟨rfl, hw9⟩
        rw [hw9]
        clear hw9
        go_wp2_with (first | (refine load_rowG rfl 32 _ rfl gy rfl 32 _ (0, 0) _ HY6.out Tryz.underlying32 sizeIno ?_))
        go_ret
        exact ⟨rfl, HBF.out⟩
      · rw [sizC_ex] at HY6
        have v1 : ¬ (1082199040 : Int) < size := by omega
        go_wp2_with (first | (rw [← hUgy]; clear hUgy) | (refine wpList_store_row rfl 32 _ _ rfl gy _ rfl rfl 32 _ HQgy.out (by rw [HTK.out.1]; exact sizeIno) (by rw [HTK.out.1]; rfl) HTK.out.2 ?_; rw [← hVgy]; clear hVgy) | (refine load_rowG rfl 32 _ rfl gx rfl 32 _ (0, 0) _ HX6.out Tryz.underlying32 sizeIno ?_) | (refine load_rowG rfl 32 _ rfl gy rfl 32 _ (0, 0) _ HY6.out Tryz.underlying32 sizeIno ?_))
        go_ret
        exact ⟨rfl, HBF.out⟩
end Go.Proofs.YtnifdbameoilnaaGreatDoor
