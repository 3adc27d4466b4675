/- The document's own disk: Read. -/
import Derived.Test.YtdbpjdaaggenpaaRefG
import Derived.Deep.RegionHeld3
namespace Go.Proofs.Ytdbpjdaaggenpaa
open Go.RowKit

theorem wpList_append_zeros {w : World} {ops : Array Oper} {rest : List Oper} {o : Oper} {a : Act} {Q : Exit → Act → World → Prop} (hgd : o.guard = none) (s x : Operand)
    (ho : o.op = .call { callee := .builtin .append, args := #[s, x], argTypes := #[42, 3] }) (base : Nat) (v : Value) (n : Nat) (xs : List Value) (hs : a.eval s = v) (hown : w.ownsRow base 5 1 v n xs)
    (m : Nat) (hx : a.eval x = .int .i64 m) (h0 : 0 < m) (hbytes : n + m ≤ 140737488355328) (hbase : base ≤ w.heap.size)
    (h : ∀ v' w', w'.ownsRow base 5 1 v' (n + m) (xs ++ List.replicate m (Value.int .u8 0)) → w.grownBy w' v.ownBlock → wpList Try.prog ops Q rest (a.put o.dst v') w') :
    wpList Try.prog ops Q (o :: rest) a w := by
  refine wpList_plain hgd fun K hK => ?_
  obtain ⟨v', w', hr, h2, h3, _⟩ := append_zeros_own w base o.type v n xs hown m h0 hbytes hbase
  unfold Oper.wp execOp
  simp only [ho, resolve, invoke, builtin, Sem.run_bind, Sem.run_pure, Result.andThen_ok, List.map_toArray, List.map_cons, List.map_nil, hs, hx, hr]
  exact hK _ _ (h v' w' h2 h3)

theorem step_append_run {P : Program} {ops : Array Oper} {o : Oper} {a : Act} {w : World} {K : Act → World → Prop} {Q : Exit → Act → World → Prop} {E : Prop} (hgd : o.guard = none) (s x : Operand) (t : TypeId)
    (ho : o.op = .call { callee := .builtin .append, args := #[s, x], argTypes := #[t, t] }) {v y v' : Value} {w' : World} (hs : a.eval s = v) (hx : a.eval x = y)
    (hrun : (Builtin.append_ #[t, t] o.type #[v, y]).run P w = .ok v' w') (h : K (a.put o.dst v') w') :
    if Region.wanted o (yielded ops a.tmps) = true then Oper.wp P o a w K Q else E := by
  have hw : Region.wanted o (yielded ops a.tmps) = true := by simp [Region.wanted, hgd]
  rw [if_pos hw]
  unfold Oper.wp execOp
  simp only [ho, resolve, invoke, builtin, Sem.run_bind, Sem.run_pure, Result.andThen_ok, List.map_toArray, List.map_cons, List.map_nil, hs, hx, hrun]
  exact h

theorem blockOf_clean {A : Abs} {k : Int} (h : A.V k = []) : blockOf A k = plat A k := by simp [blockOf, lastOf, h, plat]

/-- What a round of Read leaves. -/
def RdInv (w : World) (A : Abs) (x : Int) (k : Nat) (o : Value) (wr : World) : Prop := wr.ownsRow w.heap.size 5 1 o (512 * k) ((readTo A x k).map fun y => Value.int .u8 y) ∧ Below w.heap.size w wr
theorem RdInv.next {w : World} {A : Abs} {x : Int} {k : Nat} {o o' : Value} {wr wq w8 : World} (h : RdInv w A x k o wr) (hq : Below w.heap.size w wq) (hs : w.heap.size ≤ wq.heap.size)
    (hown : w8.ownsRow w.heap.size 5 1 o' (512 * k + 512) ((readTo A x k).map (fun y => Value.int .u8 y) ++ (blockOf A (x + k)).map fun y => Value.int .u8 y)) (hg : wq.grownBy w8 o.ownBlock) : RdInv w A x (k + 1) o' w8 := by
  refine ⟨?_, hq.grown hg hs (fun g e => (owns_lt h.1 e).2)⟩
  rw [readTo, List.map_append, show 512 * (k + 1) = 512 * k + 512 by omega]
  exact hown

set_option maxHeartbeats 400000 in
theorem RRead_err (w : World) (px : Nat) (A : Abs) (n : Nat) (al : Nat → Prop) (hd : RDisk w px A n al) (x m : Int) (hh : hasB A.N x m = false) :
    Calls Try.prog 26 #[.pointer (some ⟨px, 0, none⟩), .int .i64 x, .int .i64 m] w fun e w' => e = .returned (.tuple #[.slice none 0 0, .int .i64 1]) ∧ w' = w := by
  obtain ⟨vL, es, d, hel, hvl⟩ := hd
  have hc0 : w.cell? ⟨px, 0, none⟩ = some (.int .i64 A.N) := by simp [World.cell?, d.box]
  have hN := d.hN
  clear d
  by_cases h1 : m < 1
  · go_enter Try.func26, Try.ntmps26
    go_wp2
    go_ret2
    exact ⟨rfl, rfl⟩
  · by_cases h2 : x < 0
    · go_enter Try.func26, Try.ntmps26
      go_wp2
      go_ret2
      exact ⟨rfl, rfl⟩
    · by_cases h3 : A.N ≤ x
      · go_enter Try.func26, Try.ntmps26
        go_wp2
        go_ret2
        exact ⟨rfl, rfl⟩
      · have ew : IntKind.i64.wrap (A.N - x) = A.N - x := IntWalk.i64_in _ (by omega)
        have h4 : A.N - x < m := by unfold hasB at hh; simp at hh; omega
        go_enter Try.func26, Try.ntmps26
        go_wp2
        go_ret2
        exact ⟨rfl, rfl⟩

set_option maxRecDepth 100000 in
set_option maxHeartbeats 2000000 in
theorem RRead_any (w : World) (px : Nat) (A : Abs) (n : Nat) (al : Nat → Prop) (hd : RDisk w px A n al) (hn : n ≤ 1099511627776) (x : Int) (m : Nat) (hm : m ≤ 65536) (hh : hasB A.N x m = true) :
    Calls Try.prog 26 #[.pointer (some ⟨px, 0, none⟩), .int .i64 x, .int .i64 m] w fun e w' => ∃ v, e = .returned (.tuple #[v, .int .i64 0]) ∧ Below w.heap.size w w' ∧ Mine w' v (readTo A x m) := by
  obtain ⟨vL, es, d, hel, hvl⟩ := hd
  obtain ⟨i0, hi, hz0, hz1, hz2⟩ := info5b
  have hc0 : w.cell? ⟨px, 0, none⟩ = some (.int .i64 A.N) := by simp [World.cell?, d.box]
  have hN := d.hN
  have hr : 1 ≤ m ∧ 0 ≤ x ∧ x + m ≤ A.N := by unfold hasB at hh; simp at hh; omega
  have g1 : ¬ ((m : Int) < 1) := by omega
  have g2 : ¬ (x < 0) := by omega
  have g3 : ¬ (A.N ≤ x) := by omega
  have g4 : ¬ (A.N - x < (m : Int)) := by omega
  have ew : IntKind.i64.wrap (A.N - x) = A.N - x := IntWalk.i64_in _ (by omega)
  have ew2 : IntKind.i64.wrap (x + (m : Int)) = x + m := IntWalk.i64_in _ (by omega)
  have HD := hid d
  clear d hvl
  go_enter Try.func26, Try.ntmps26
  go_wp2_with fail
  go_loopw [9, 8] (fun i o wr => ∃ k : Nat, k ≤ m ∧ i = .int .i64 (x + k) ∧ RdInv w A x k o wr) (fun i _ _ => m - (RowKit.intOf i - x).toNat)
  case atStart => exact ⟨0, Nat.zero_le _, by simp, World.ownsRow_nil _ _ _ _, Below.refl _ _⟩
  case round =>
    obtain ⟨k, hk, rfl, hinv⟩ := hrel
    have HI := hid hinv
    have hc0' := cell_later hinv.2 hc0
    clear hinv
    by_cases hlt : k < m
    · have hki : x + (k : Int) < x + m := by omega
      have dr := HD.out.keep HI.out.2.size (fun b hb => HI.out.2.block b (HD.out.lt b hb))
      have hat := hid (At_any wr px vL es A al dr (by omega) (x + k))
      have hsz := HI.out.2.size
      cases hf : findAt es (x + k) with
      | none =>
        have hnn := HD.out.none_ _ (findAt_none hf)
        have HZ : Hid (blockOf A (x + k) = zeros) := hid (by rw [blockOf_clean hnn.2]; simp [plat, hnn.1])
        rw [hf] at hat
        clear hf dr hnn
        go_wp2_with fail
        refine hat.out.mono ?_
        rintro e w2 ⟨rfl, hw⟩
        rw [hw]
        clear hw w2
        simp only [ptrOf]
        go_wp2_with (show wpList _ _ _ ({ dst := _, op := .call { callee := .builtin .append, args := #[.tmp 55, _], argTypes := #[42, 3] }, type := _, pos := _, after := _, guard := none } :: _) _ _; refine wpList_append_zeros rfl _ _ rfl w.heap.size _ _ _ rfl HI.out.1 512 rfl (by omega) (by omega) hsz ?_; intro v' w8 hown' hgrow)
        go_roundw
        case rel =>
          refine ⟨k + 1, by omega, by go_num, HI.out.next HI.out.2 hsz ?_ hgrow⟩
          rw [HZ.out, zeros, List.map_replicate]
          exact hown'
        case measure => simp [RowKit.intOf]; omega
      | some en =>
        obtain ⟨hmem, hek⟩ := findAt_some hf
        obtain ⟨hbx, hale, hrw, hr2, _⟩ := dr.ent en hmem
        rw [hek] at hrw hr2
        rw [hf] at hat
        clear hf
        by_cases hV : A.V (x + k) = []
        · rw [hV] at hr2
          obtain ⟨av, cv, hvv, _⟩ := hr2.shape
          obtain ⟨gu, cu, hsv, _, hcell⟩ := hrw.open_
          have hl5 := hrw.2.1
          have hc1 : wr.cell? ⟨en.ad, 1, none⟩ = some (.slice (some ⟨gu, 0, none⟩) 512 cu) := by simp [World.cell?, hbx, hsv]
          have hc2 : wr.cell? ⟨en.ad, 2, none⟩ = some (.slice av 0 cv) := by simp [World.cell?, hbx, hvv]
          have HSrc : Hid (∀ j u, ((plat A (x + k)).map fun x => Value.int .u8 x)[j]? = some u → wr.cell? ((⟨gu, 0, none⟩ : Addr).add j) = some u) := hid fun j u hj => by
            rw [add_addr]
            exact src_cell hl5 hcell hj
          have HZ : Hid (blockOf A (x + k) = plat A (x + k)) := hid (blockOf_clean hV)
          clear hbx hrw hr2 hV dr hvv hsv hcell
          go_wp2_with fail
          refine hat.out.mono ?_
          rintro e w2 ⟨rfl, hw⟩
          rw [hw]
          clear hw w2
          simp only [ptrOf]
          go_wp2_with (at_builtin; refine wpList_append_own_at _ rfl _ _ 42 rfl w.heap.size 5 i0 (.int .u8 0) 1 1 Try.underlying42 hi hz0 hz1 hz2 rfl (by decide) _ _ _ rfl HI.out.1 ⟨gu, 0, none⟩ 512 cu ((plat A (x + k)).map fun x => Value.int .u8 x) rfl (by simp [hl5]) HSrc.out (by intro u hu; simp at hu; obtain ⟨y, _, rfl⟩ := hu; rfl) (by unfold maxLen; omega) (by omega) hsz ?_; intro v' w8 hown' hgrow hnil' hat')
          go_roundw
          case rel =>
            refine ⟨k + 1, by omega, by go_num, HI.out.next HI.out.2 hsz ?_ hgrow⟩
            rw [HZ.out]
            exact hown'
          case measure => simp [RowKit.intOf]; omega
        · obtain ⟨g, cap, hvv, hcap, hcap2, halg, hrowc⟩ := hr2.open_ hV
          obtain ⟨q, hq1⟩ : ∃ q, (A.V (x + k)).length = q + 1 := ⟨(A.V (x + k)).length - 1, by have := List.length_pos_iff.2 hV; omega⟩
          obtain ⟨u, hu, hrow⟩ := hrowc q (by omega)
          obtain ⟨gu, cu, hue, _, hcell⟩ := hrow.open_
          have hl5 := hrow.2.1
          have HZ : Hid (blockOf A (x + k) = (A.V (x + k))[q]) := hid (by
            simp only [blockOf, lastOf, hV, if_false]
            rw [List.getLast?_eq_getElem?]
            simp [hq1])
          obtain ⟨l, hl⟩ : ∃ l, l = (A.V (x + k))[q] := ⟨_, rfl⟩
          rw [← hl] at hl5 hcell HZ
          rw [hq1] at hvv hcap
          rw [hue] at hu
          have hc2 : wr.cell? ⟨en.ad, 2, none⟩ = some (.slice (some ⟨g, 0, none⟩) (q + 1) cap) := by simp [World.cell?, hbx, hvv]
          have hqb : (q : Int) < 9223372036854775807 := by unfold maxLen at hcap2; omega
          have ew4 : IntKind.i64.wrap ((q : Int) + 1 - 1) = (q : Int) := by rw [IntWalk.i64_in _ (by omega)]; omega
          have ew5 : IntKind.i64.wrap (q : Int) = (q : Int) := IntWalk.i64_in _ (by omega)
          have hq00 : (0 : Int) ≤ (q : Int) := by omega
          have hq01 : (q : Int) < (q : Int) + 1 := by omega
          have hq02 : (0 : Int) < (q : Int) + 1 := by omega
          have hrun := run_append_own_at (P := Try.prog) wr.drew w.heap.size 42 42 5 i0 (.int .u8 0) 1 1 Try.underlying42 hi hz0 hz1 hz2 rfl (by decide) _ (512 * k) _ (owns_keep HI.out.1 (fun _ _ => rfl)) ⟨gu, 0, none⟩ 512 cu (l.map fun x => Value.int .u8 x) (by simp [hl5]) (fun j u hj => by rw [add_addr]; exact src_cell hl5 hcell hj) (by intro u hu; simp at hu; obtain ⟨y, _, rfl⟩ := hu; rfl) (by unfold maxLen; omega) (by omega) hsz
          obtain ⟨v', w8, hrun, hown', hgrow, _, _⟩ := hrun
          have HFin : Hid (RdInv w A x (k + 1) v' w8) := hid (HI.out.next HI.out.2.drew hsz (by rw [HZ.out]; exact hown') hgrow)
          have hS0 : wr.drew.cell? ⟨en.ad, 2, none⟩ = some (.slice (some ⟨g, 0, none⟩) (q + 1) cap) ∧ wr.drew.cell? ⟨g, q, none⟩ = some (.slice (some ⟨gu, 0, none⟩) 512 cu) := ⟨hc2, hu⟩
          have hS8 : w8.cell? ⟨en.ad, 2, none⟩ = some (.slice (some ⟨g, 0, none⟩) (q + 1) cap) ∧ w8.cell? ⟨g, q, none⟩ = some (.slice (some ⟨gu, 0, none⟩) 512 cu) := by
            have hkp : ∀ b, al b → w8.heap[b]? = wr.heap[b]? := fun b hb => hgrow.block b (Nat.lt_of_lt_of_le (HD.out.lt b hb) hsz) (fun e => by have := (owns_lt HI.out.1 e.symm).2; have := HD.out.lt b hb; omega)
            exact ⟨(World.cell?_of_block (w := wr) (hkp _ hale)).trans hc2, (World.cell?_of_block (w := wr) (hkp _ halg)).trans hu⟩
          clear hbx hrw hr2 hV dr hvv hrow hcell hown' hgrow hl hrowc hue
          go_wp2_with fail
          refine hat.out.mono ?_
          rintro e w2 ⟨rfl, hw⟩
          rw [hw]
          clear hw w2
          simp only [ptrOf]
          go_wp2_with fail
          go_region_held3 (fun w' => w'.cell? ⟨en.ad, 2, none⟩ = some (.slice (some ⟨g, 0, none⟩) (q + 1) cap) ∧ w'.cell? ⟨g, q, none⟩ = some (.slice (some ⟨gu, 0, none⟩) 512 cu)) ((first | exact hS0 | exact hS8))
            ((refine step_append_run rfl _ _ 42 rfl rfl rfl hrun ?_))
          go_wp2
          go_roundw
          case rel => exact ⟨k + 1, by omega, by go_num, HFin.out⟩
          case measure => simp [RowKit.intOf]; omega
    · have hki : ¬ (x + (k : Int) < x + m) := by omega
      obtain rfl : k = m := by omega
      go_wp2
      go_ret2
      refine ⟨_, rfl, HI.out.2, ?_⟩
      have := owns_base0 HI.out.1
      unfold Mine
      have hl : (readTo A x k).length = 512 * k := by have := HI.out.1.1; simpa using this
      rw [hl]
      exact this
end Go.Proofs.Ytdbpjdaaggenpaa
