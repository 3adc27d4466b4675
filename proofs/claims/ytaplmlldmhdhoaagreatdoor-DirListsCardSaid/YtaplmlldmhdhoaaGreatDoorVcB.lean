/- VcA, VcB in one text. -/
import Derived.Test.YtaplmlldmhdhoaaGreatDoorVbB
import Derived.Test.YtaplmlldmhdhoaaGreatDoorVdS
import Derived.Lib.AppendStr
/- A line, the root's inode: the document's. -/
namespace Go.Proofs.YtaplmlldmhdhoaaGreatDoor
open Go.RowKit Go.Maps
set_option linter.unusedVariables false

theorem Gr.nil (w : World) (B : Nat) : Gr w B (.slice none 0 0) [] := ⟨fun x hx => by simp at hx, .inl ⟨rfl, .inl ⟨rfl, rfl⟩⟩⟩
theorem Gr.own {w : World} {B n : Nat} {v : Value} {l : List Int} (h : w.ownsRow B 5 1 v n (u8s l)) (hn : l.length = n) (hl : ∀ x ∈ l, IsB x) : Gr w B v l := ⟨hl, .inl (by rw [hn]; exact h)⟩
theorem wpList_append_run2 {P : Program} {w : World} {ops : Array Oper} {rest : List Oper} {o : Oper} {a : Act} {Q : Exit → Act → World → Prop} (hgd : o.guard = none) (s x : Operand) (t u : TypeId)
    (ho : o.op = .call { callee := .builtin .append, args := #[s, x], argTypes := #[t, u] }) {v y v' : Value} {w' : World} (hs : a.eval s = v) (hx : a.eval x = y)
    (hrun : (Builtin.append_ #[t, u] o.type #[v, y]).run P w = .ok v' w') (h : wpList P ops Q rest (a.put o.dst v') w') : wpList P ops Q (o :: rest) a w := by
  refine wpList_plain hgd fun K hK => ?_
  unfold Oper.wp execOp
  simp only [ho, resolve, invoke, builtin, Sem.run_bind, Sem.run_pure, Result.andThen_ok, List.map_toArray, List.map_cons, List.map_nil, hs, hx, hrun]
  exact hK _ _ h
set_option maxRecDepth 100000 in
set_option maxHeartbeats 1000000 in
theorem rEntry_any (w : World) (s : ByteArray) (l : List Int) (hs : Lib.strCells s = u8s l) (hl : ∀ x ∈ l, IsB x) (hn : s.size = l.length) (h0 : 0 < l.length) (h1 : l.length < 27) :
    Calls Tryz.prog 77 #[n64 1, .string s] w fun e w' => ∃ a c, e = .returned (.slice a 32 c) ∧ w'.ownsRow w.heap.size 5 1 (.slice a 32 c) 32 (u8s (entL l)) ∧ Below w.heap.size w w' := by
  obtain ⟨n, hnn⟩ : ∃ n, n = l.length := ⟨_, rfl⟩
  have HC1 := hid (Low' w w.heap.size _ [] (Gr.nil w _) (Nat.le_refl _) 4 4 1 rfl ⟨by decide, by decide⟩ (by decide) (by decide) (by decide) 4 rfl (bytesLe 4 1) rfl)
  rw [← hnn] at h0 h1 hn
  have e8 : ((s.size : Int) % 256) = n := by omega
  have HL := hid hnn
  clear hnn
  go_enter Tryz.func77, Tryz.ntmps77
  go_wp2_with fail
  refine HC1.out.mono ?_
  rintro e w1 ⟨a1, c1, rfl, hg1, _, hb1⟩
  obtain ⟨W1, hW1⟩ : ∃ W1, W1 = w1.alloc (.cells #[.int .u8 ((s.size : Int) % 256)] 5) := ⟨_, rfl⟩
  have hb2 : Below w1.heap.size w1 W1 := by rw [hW1]; exact (Below.refl _ _).alloc (Nat.le_refl _) _
  have hc1 : W1.cell? ⟨w1.heap.size, 0, none⟩ = some (.int .u8 n) := by rw [hW1, new_cell _ _ _ _ 0 (by simp), ← e8]; rfl
  have hs1 : w.heap.size ≤ W1.heap.size := Nat.le_trans hb1.size hb2.size
  obtain ⟨a2, c2, w2, hap, hg2, ho2, hb3, _, _⟩ := (hg1.later hb2).push hs1 [(n : Int)] (by simp [IsB]; omega) (by simp) ⟨w1.heap.size, 0, none⟩ 1 1 rfl (fun j u hj => by
    have hj2 : j < 1 := (List.getElem?_eq_some_iff.1 hj).1
    obtain rfl : j = 0 := by omega
    rw [add_addr, hc1]; simpa using hj) (by simp [len_le]) 59
  rw [len_le] at hap hg2 ho2
  have hB2 : Below w.heap.size w w2 := (hb1.trans (hb2.mono hb1.size)).trans hb3
  obtain ⟨i0, hi, hz0, hz1, hz2⟩ := info5b
  obtain ⟨v3, w3, hap3, ho3, hg3, _⟩ := Lib.run_append_own_string (P := Tryz.prog) (w := w2) w.heap.size 59 9 59 5 i0 Tryz.underlying59 Tryz.underlying9 hi hz0 hz1 hz2 _ _ _ ho2 s (by unfold maxLen; omega) (by omega) hB2.size
  rw [hs, ← u8s_app, hn] at ho3
  obtain ⟨a3, c3, rfl⟩ := owns_slice ho3
  have hB3 : Below w.heap.size w w3 := (Mods.of_grown hg3).to_below hB2 hB2.size (fun g hg => (owns_lt ho2 hg).2)
  obtain ⟨m, hm⟩ : ∃ m, m = 4 + 1 + n := ⟨_, rfl⟩
  rw [← hm] at hap3 ho3
  have hI : ∀ x ∈ entB l, IsB x := app_isB (app_isB (bytesLe_isB _ _) (by simp [IsB]; have := HL.out; omega)) hl
  have hel : (entB l).length = m := by rw [entB_len, ← HL.out]; omega
  have eE : bytesLe 4 1 ++ [(n : Int)] ++ l = entB l := by unfold entB; rw [HL.out]
  rw [eE] at ho3
  have HC3 := hid (Noughts' w3 w.heap.size _ _ (Gr.own ho3 hel hI) hB3.size (27 - n) (32 - (m : Int)) (by omega) (by omega) (by rw [hel]; omega) 32 (by rw [hel]; omega) (entL l) (by unfold entL; rw [HL.out]))
  have HB3 := hid hB3
  have hwm : IntKind.i64.wrap (32 - (m : Int)) = 32 - m := IntWalk.i64_in _ (by omega)
  clear hg1 hb1 hb2 hc1 hs1 hg2 ho2 hb3 hB2 ho3 hg3 hB3 hI hel eE hm hi hz0 hz1 hz2 HC1 hs hn e8
  go_wp2_with (first | (at_builtin; rw [← hW1]; clear hW1; refine wpList_append_run rfl _ _ 59 rfl rfl rfl hap ?_; clear hap) | (at_builtin; refine wpList_append_run2 rfl _ _ 59 9 rfl rfl rfl hap3 ?_; clear hap3))
  refine HC3.out.mono ?_
  rintro e w4 ⟨a4, c4, rfl, _, ho4, hb4⟩
  have HO4 := hid ho4
  have HB4 := hid (HB3.out.trans hb4)
  clear ho4 hb4 HC3
  go_wp2
  go_ret
  exact ⟨a4, c4, rfl, HO4.out, HB4.out⟩
set_option maxRecDepth 100000 in
set_option maxHeartbeats 2000000 in
theorem rRoot_any (w : World) (b i s ns : Int) (hp : PlanOk b i) (s0 : 0 ≤ s) (s1 : s < 4294967296) (n0 : 0 ≤ ns) (n1 : ns < 4294967296) :
    Calls Tryz.prog 76 #[.agg (supC b i), .agg #[.int .u32 s, .int .u32 ns]] w fun e w' => ∃ a c, e = .returned (.slice a 128 c) ∧ w'.ownsRow w.heap.size 5 1 (.slice a 128 c) 128 (u8s (rootL (planD b i) s ns)) ∧ Below w.heap.size w w' := by
  have hD : 0 ≤ planD b i ∧ planD b i < 65536 := by
    have := hp.b0; have := hp.b1; have := hp.i0; have := hp.d
    unfold planD planT at *
    omega
  obtain ⟨W0, hW0⟩ : ∃ W0, W0 = w.alloc (.cells (supC b i) 165) := ⟨_, rfl⟩
  obtain ⟨W1, hW1⟩ : ∃ W1, W1 = W0.alloc (.cells #[.int .u32 s, .int .u32 ns] 28) := ⟨_, rfl⟩
  obtain ⟨W2, hW2⟩ : ∃ W2, W2 = W1.alloc (.cells #[.int .u8 2, .int .u8 0] 5) := ⟨_, rfl⟩
  have z0 : W0.heap.size = w.heap.size + 1 := by rw [hW0]; simp
  have z1 : W1.heap.size = w.heap.size + 2 := by rw [hW1]; simp [z0]
  have hb0 : Below w.heap.size w W0 := by rw [hW0]; exact (Below.refl _ _).alloc (Nat.le_refl _) _
  have hb1 : Below W0.heap.size W0 W1 := by rw [hW1]; exact (Below.refl _ _).alloc (Nat.le_refl _) _
  have hb2 : Below W1.heap.size W1 W2 := by rw [hW2]; exact (Below.refl _ _).alloc (Nat.le_refl _) _
  have hh0 : W0.heap[w.heap.size]? = some (.cells (supC b i) 165 (0, 0)) := by rw [hW0]; exact alloc_new w _
  have hh1 : W1.heap[W0.heap.size]? = some (.cells #[.int .u32 s, .int .u32 ns] 28 (0, 0)) := by rw [hW1]; exact alloc_new W0 _
  have hh0' : W1.heap[w.heap.size]? = some (.cells (supC b i) 165 (0, 0)) := (hb1.block _ (by omega)).trans hh0
  have HS : Hid (∀ W, Below W1.heap.size W1 W → W.cell? ⟨W0.heap.size, 0, none⟩ = some (.int .u32 s) ∧ W.cell? ⟨W0.heap.size, 1, none⟩ = some (.int .u32 ns) ∧ W.cell? ⟨w.heap.size, 7, none⟩ = some (n64 (planD b i))) := hid (fun W h => by
    have k1 := (h.block _ (by omega)).trans hh1
    have k0 := (h.block _ (by omega)).trans hh0'
    exact ⟨cell_of k1 rfl, cell_of k1 rfl, cell_of k0 rfl⟩)
  have HBW : Hid (∀ W, Below W1.heap.size W1 W → Below w.heap.size w W) := hid (fun W h => (hb0.trans (hb1.mono (by omega))).trans (h.mono (by omega)))
  have hg2 : Gr W2 W1.heap.size (.slice (some ⟨W1.heap.size, 0, none⟩) 2 2) [2, 0] := by rw [hW2]; exact Gr.of_const W1 _ [2, 0] 2 (0, 0) rfl (by simp [IsB])
  have HG2 := hid hg2
  have HB2 := hid hb2
  have L := fun (n : Nat) (N x : Int) (hN : N = n) (hn : 0 < n ∧ n ≤ 8) (x0 : 0 ≤ x) (x1 : x < 18446744073709551616) (W : World) (hb : Below W1.heap.size W1 W) (v : Value) (l : List Int) (h : Gr W W1.heap.size v l) (hl : l.length ≤ 900000) (m : Nat) (hm : l.length + n = m) => Low' W W1.heap.size v l h hb.size n N x hN hn x0 x1 hl m hm _ rfl
  have LL := hid L
  have hwd : IntKind.u64.wrap (planD b i) = planD b i := IntWalk.u64_in _ (by omega)
  have hws : IntKind.u64.wrap s = s := IntWalk.u64_in _ (by omega)
  have hwn : IntKind.u64.wrap ns = ns := IntWalk.u64_in _ (by omega)
  have HPD := hid hD
  clear L hb0 hb1 hb2 hh0 hh1 hh0' hg2 z0 z1 hD
  unfold supC at hW0 ⊢
  go_enter Tryz.func76, Tryz.ntmps76
  go_upto_region 2 with (first | (rw [← hW0]; clear hW0) | (rw [← hW1]; clear hW1))
  go_wp2_with (rw [← hW2]; clear hW2)
  refine (LL.out 2 2 493 rfl ⟨by decide, by decide⟩ (by decide) (by decide) _ HB2.out _ _ HG2.out (by decide) 4 (by decide)).mono ?_
  rintro e w3 ⟨a3, c3, rfl, hg, _, hb⟩
  have HG3 := hid hg
  have HB3 := hid (HB2.out.trans hb)
  clear hg hb HG2 HB2
  go_wp2_with fail
  refine (LL.out 2 2 2 rfl ⟨by decide, by decide⟩ (by decide) (by decide) _ HB3.out _ _ HG3.out (by decide) 6 (by decide)).mono ?_
  rintro e w4 ⟨a4, c4, rfl, hg, _, hb⟩
  have HG4 := hid hg
  have HB4 := hid (HB3.out.trans hb)
  clear hg hb HG3 HB3
  go_wp2_with fail
  refine (LL.out 2 2 0 rfl ⟨by decide, by decide⟩ (by decide) (by decide) _ HB4.out _ _ HG4.out (by decide) 8 (by decide)).mono ?_
  rintro e w5 ⟨a5, c5, rfl, hg, _, hb⟩
  have HG5 := hid hg
  have HB5 := hid (HB4.out.trans hb)
  clear hg hb HG4 HB4
  go_wp2_with fail
  refine (LL.out 4 4 0 rfl ⟨by decide, by decide⟩ (by decide) (by decide) _ HB5.out _ _ HG5.out (by decide) 12 (by decide)).mono ?_
  rintro e w6 ⟨a6, c6, rfl, hg, _, hb⟩
  have HG6 := hid hg
  have HB6 := hid (HB5.out.trans hb)
  clear hg hb HG5 HB5
  go_wp2_with fail
  refine (LL.out 4 4 0 rfl ⟨by decide, by decide⟩ (by decide) (by decide) _ HB6.out _ _ HG6.out (by decide) 16 (by decide)).mono ?_
  rintro e w7 ⟨a7, c7, rfl, hg, _, hb⟩
  have HG7 := hid hg
  have HB7 := hid (HB6.out.trans hb)
  clear hg hb HG6 HB6
  go_wp2_with fail
  refine (LL.out 4 4 1 rfl ⟨by decide, by decide⟩ (by decide) (by decide) _ HB7.out _ _ HG7.out (by decide) 20 (by decide)).mono ?_
  rintro e w8 ⟨a8, c8, rfl, hg, _, hb⟩
  have HG8 := hid hg
  have HB8 := hid (HB7.out.trans hb)
  clear hg hb HG7 HB7
  go_wp2_with fail
  refine (LL.out 4 4 0 rfl ⟨by decide, by decide⟩ (by decide) (by decide) _ HB8.out _ _ HG8.out (by decide) 24 (by decide)).mono ?_
  rintro e w9 ⟨a9, c9, rfl, hg, _, hb⟩
  have HG9 := hid hg
  have HB9 := hid (HB8.out.trans hb)
  clear hg hb HG8 HB8
  go_wp2_with fail
  refine (LL.out 8 8 64 rfl ⟨by decide, by decide⟩ (by decide) (by decide) _ HB9.out _ _ HG9.out (by decide) 32 (by decide)).mono ?_
  rintro e w10 ⟨a10, c10, rfl, hg, _, hb⟩
  have HG10 := hid hg
  have HB10 := hid (HB9.out.trans hb)
  clear hg hb HG9 HB9
  go_wp2_with fail
  refine (LL.out 8 8 0 rfl ⟨by decide, by decide⟩ (by decide) (by decide) _ HB10.out _ _ HG10.out (by decide) 40 (by decide)).mono ?_
  rintro e w11 ⟨a11, c11, rfl, hg, _, hb⟩
  have HG11 := hid hg
  have HB11 := hid (HB10.out.trans hb)
  clear hg hb HG10 HB10
  go_wp2_with fail
  have HR : Hid (Gr w11 W1.heap.size (.slice a11 40 c11) rootA) := hid HG11.out
  clear HG11
  go_loopw [5, 6] (fun v z wr => ∃ k : Nat, k ≤ 3 ∧ z = n64 k ∧ Gr wr W1.heap.size v (rootA ++ timesL s ns k) ∧ Below W1.heap.size W1 wr) (fun _ z _ => 3 - (RowKit.intOf z).toNat)
  case atStart => exact ⟨0, by omega, rfl, by simpa [timesL] using HR.out, HB11.out⟩
  case round =>
    obtain ⟨k, hk, rfl, hg, hb⟩ := hrel
    rename World => V
    have hlen : (rootA ++ timesL s ns k).length = 40 + 8 * k := by rw [List.length_append, rootA_len, timesL_len]
    obtain ⟨a4, c4, e4⟩ := hg.slice
    rw [hlen] at e4
    obtain ⟨m, hm⟩ : ∃ m, m = 40 + 8 * k := ⟨_, rfl⟩
    rw [← hm] at e4 hlen
    subst e4
    have HG := hid hg
    have HB := hid hb
    have HM := hid hm
    have HLN := hid hlen
    obtain ⟨x0, x1, x2⟩ := HS.out V.drew hb.drew
    have y0 : V.cell? ⟨W0.heap.size, 0, none⟩ = some (.int .u32 s) := x0
    have y2 := (HS.out V hb).2.2
    clear hg hb hlen hm HR HB11
    by_cases hk3 : k < 3
    · have hki : (k : Int) < 3 := by omega
      have HC1 := hid (LL.out 4 4 s rfl ⟨by decide, by decide⟩ s0 (by omega) V.drew HB.out.drew _ _ HG.out (by rw [HLN.out]; have := HM.out; omega) (m + 4) (by rw [HLN.out]))
      clear hk x2 y2
      go_wp2_with fail
      go_region_held3 (fun w' => w'.cell? ⟨W0.heap.size, 0, none⟩ = some (.int .u32 s) ∧ w'.cell? ⟨W0.heap.size, 1, none⟩ = some (.int .u32 ns)) ((first | exact ⟨x0, x1⟩ | exact HS5.out | exact HS6.out))
        ((first
          | (go_at_call 91; refine HC1.out.mono ?_; rintro e w5 ⟨a5, c5, rfl, hg5, _, hb5⟩; have HG5 := hid hg5; have HB5 := hid (HB.out.drew.trans hb5); have HS5 := hid (And.intro (HS.out w5 HB5.out).1 (HS.out w5 HB5.out).2.1); clear hg5 hb5 HC1)
          | (go_at_call 91; refine (LL.out 4 4 ns rfl ⟨by decide, by decide⟩ n0 (Int.lt_trans n1 (by decide)) w5 HB5.out _ _ HG5.out (by rw [List.length_append, HLN.out, len_le]; have := HM.out; omega) (m + 4 + 4) (by rw [List.length_append, HLN.out, len_le])).mono ?_; rintro e w6 ⟨a6, c6, rfl, hg6, _, hb6⟩; have HG6 := hid hg6; have HB6 := hid (HB5.out.trans hb6); have HS6 := hid (And.intro (HS.out w6 HB6.out).1 (HS.out w6 HB6.out).2.1); clear hg6 hb6)))
      clear HS5 HS6
      go_wp2
      go_roundw
      case rel => exact ⟨k + 1, by omega, by go_num, by
        have := HG6.out
        rw [List.append_assoc, List.append_assoc, ← List.append_assoc (timesL s ns k)] at this
        exact this, HB6.out⟩
      case measure => simp [RowKit.intOf]; omega
    · have hki : ¬ ((k : Int) < 3) := by omega
      obtain rfl : k = 3 := by omega
      obtain rfl : m = 64 := by have := HM.out; omega
      have HC1 := hid (LL.out 4 4 (planD b i) rfl ⟨by decide, by decide⟩ HPD.out.1 (by have := HPD.out.2; omega) V HB.out _ _ HG.out (by rw [HLN.out]; decide) 68 (by rw [HLN.out]))
      clear x0 x1 x2 y0
      go_wp2_with fail
      refine HC1.out.mono ?_
      rintro e w5 ⟨a5, c5, rfl, hg5, _, hb5⟩
      have hg5' : Gr w5 W1.heap.size (.slice a5 68 c5) (rootB (planD b i) s ns) := hg5
      have HB5 := hid (HB.out.trans hb5)
      have HC2 := hid (Noughts' w5 W1.heap.size _ _ hg5' HB5.out.size 60 60 rfl (by decide) (by rw [rootB_len]; decide) 128 (by rw [rootB_len]) (rootL (planD b i) s ns) rfl)
      clear hg5 hg5' hb5 HC1
      go_wp2_with fail
      refine HC2.out.mono ?_
      rintro e w6 ⟨a6, c6, rfl, _, ho6, hb6⟩
      have HO6 := hid ho6
      have HB6 := hid (HBW.out w6 (HB5.out.trans hb6))
      have HSZ : Hid (w.heap.size ≤ W1.heap.size) := hid (HBW.out W1 (Below.refl _ _)).size
      clear ho6 hb6 HC2
      go_wp2
      go_ret
      exact ⟨a6, c6, rfl, owns_base HO6.out (fun g hg => Nat.le_trans HSZ.out (owns_lt HO6.out hg).2), HB6.out⟩
end Go.Proofs.YtaplmlldmhdhoaaGreatDoor

/- The document's new volume: what is held while it is made. -/
namespace Go.Proofs.YtaplmlldmhdhoaaGreatDoor
open Go.RowKit Go.Maps
set_option linter.unusedVariables false

def timeC (s ns : Int) : Array Value := #[.int .u32 s, .int .u32 ns]
/-- While a volume is made: the row so far, the two boxes. -/
structure MkI (w wr : World) (sb nb : Nat) (b i s ns : Int) (v : Value) (L : List Pt) : Prop where
  po : ∃ M, PO wr (New w) v M ∧ M.map Pw.pt = L
  sb : wr.heap[sb]? = some (.cells (supC b i) 165 (0, 0))
  nb : wr.heap[nb]? = some (.cells (timeC s ns) 28 (0, 0))
  bel : Below w.heap.size w wr
variable {w wr wr' : World} {sb nb : Nat} {b i s ns : Int} {v : Value} {L : List Pt}
theorem MkI.later (h : MkI w wr sb nb b i s ns v L) (hb : Below wr.heap.size wr wr') : MkI w wr' sb nb b i s ns v L :=
  ⟨let ⟨M, h1, h2⟩ := h.po; ⟨M, h1.later hb, h2⟩, (hb.block _ (Array.getElem?_eq_some_iff.1 h.sb).1).trans h.sb, (hb.block _ (Array.getElem?_eq_some_iff.1 h.nb).1).trans h.nb, h.bel.trans (hb.mono h.bel.size)⟩
theorem MkI.cells (h : MkI w wr sb nb b i s ns v L) : wr.cell? ⟨sb, 4, none⟩ = some (n64 68) ∧ wr.cell? ⟨sb, 5, none⟩ = some (n64 69) ∧ wr.cell? ⟨sb, 6, none⟩ = some (n64 (planT b)) ∧ wr.cell? ⟨sb, 7, none⟩ = some (n64 (planD b i)) :=
  ⟨cell_of h.sb rfl, cell_of h.sb rfl, cell_of h.sb rfl, cell_of h.sb rfl⟩
theorem MkI.slice (h : MkI w wr sb nb b i s ns v L) : ∃ a c, v = .slice a L.length c := by
  obtain ⟨M, h1, h2⟩ := h.po
  obtain ⟨a, c, e, _⟩ := h1.ps
  exact ⟨a, c, by rw [e, ← h2, List.length_map]⟩
theorem MkI.push (h : MkI w wr sb nb b i s ns v L) (blk : Int) (d : List Int) (a : Option Addr) (n c : Nat) (hn : d.length = n) (hp : By wr (New w) a d) (hc : n ≤ c) (hl : L.length ≤ 900000) :
    ∃ a' k c' w', (Builtin.append_ #[106, 106] 106 #[v, .slice (some ⟨wr.heap.size, 0, none⟩) 1 1]).run Tryz.prog (wr.alloc (.cells #[n64 blk, .slice a n c] 113)) = .ok (.slice a' k c') w' ∧ MkI w w' sb nb b i s ns (.slice a' k c') (L ++ [⟨blk, d⟩]) := by
  subst hn
  obtain ⟨W1, hW1⟩ : ∃ W1, W1 = wr.alloc (.cells #[n64 blk, .slice a d.length c] 113) := ⟨_, rfl⟩
  have hb1 : Below wr.heap.size wr W1 := by rw [hW1]; exact (Below.refl _ _).alloc (Nat.le_refl _) _
  have hh1 : W1.heap[wr.heap.size]? = some (.cells #[n64 blk, .slice a d.length c] 113 (0, 0)) := by rw [hW1]; exact alloc_new wr _
  have h1 := h.later hb1
  obtain ⟨M, hpo, hM⟩ := h1.po
  have hMl : M.length = L.length := by rw [← hM, List.length_map]
  obtain ⟨a', k, c', w', hap, _, hpo', hmo, hob⟩ := hpo.push ⟨blk, a, c, d⟩ (hp.later hb1) hc wr.heap.size 0 (cell_of hh1 rfl) (cell_of hh1 rfl) 1 (by rw [hMl]; omega) 106
  rw [← hW1]
  have hsz : w.heap.size ≤ W1.heap.size := h1.bel.size
  have hown : ∀ g, v.ownBlock = some g → w.heap.size ≤ g := fun g hg => hpo.2.1 g hg
  have hkind : ∀ g cs t, v.ownBlock = some g → W1.heap[g]? = some (.cells cs t (0, 0)) → t = 113 := fun g cs t hg hh => by
    obtain ⟨cur, hc⟩ := owns_kind hpo.1 hg
    rw [hc] at hh
    simp only [Option.some.injEq, Obj.cells.injEq] at hh
    exact hh.2.1.symm
  refine ⟨a', k, c', w', hap, ⟨M ++ [⟨blk, a, c, d⟩], hpo'.weak (fun g hg _ => ?_), by simp [hM, Pw.pt]⟩, ?_, ?_, ?_⟩
  · rcases hg with h2 | h2
    · exact h2
    · subst h2; exact hsz
  · exact (hmo.block _ (Array.getElem?_eq_some_iff.1 h1.sb).1 (fun e => by have := hkind _ _ _ e h1.sb; revert this; decide)).trans h1.sb
  · exact (hmo.block _ (Array.getElem?_eq_some_iff.1 h1.nb).1 (fun e => by have := hkind _ _ _ e h1.nb; revert this; decide)).trans h1.nb
  · exact hmo.to_below h1.bel h1.bel.size (fun g hg => hown g hg)
/-- The row with one block. -/
theorem PO.one (w wr : World) (hs : w.heap.size ≤ wr.heap.size) (blk : Int) (d : List Int) (a : Option Addr) (n c : Nat) (hn : d.length = n) (hp : By wr (New w) a d) (hc : n ≤ c) :
    PO (wr.alloc (.cells #[n64 blk, .slice a n c] 113)) (New w) (.slice (some ⟨wr.heap.size, 0, none⟩) 1 1) [⟨blk, a, c, d⟩] := by
  subst hn
  refine ⟨⟨by simp [cellsP], .inr ⟨wr.heap.size, 1, _, rfl, Nat.zero_le _, alloc_new wr _, Nat.le_refl _, by decide, by simp, by simp [cellsP]⟩⟩, fun g hg => ?_, fun p hp' => ?_⟩
  · simp [Value.ownBlock] at hg
    subst hg
    exact hs
  · simp only [List.mem_singleton] at hp'
    subst hp'
    exact ⟨hp.later ((Below.refl _ _).alloc (Nat.le_refl _) _), hc⟩
theorem BitR.congr {w : World} {g : Nat} {f f' : Nat → Bool} (h : BitR w g f) (e : ∀ j, j < 4096 → f j = f' j) : BitR w g f' := by
  unfold BitR at *
  rw [← bitB_congr e]
  exact h
theorem BitR.made (w : World) : BitR (w.alloc (.cells (madeCells #[.int .u8 0] 512) 5)) w.heap.size (fun _ => false) := by
  unfold BitR
  rw [alloc_new, bitB_none]
  congr 2
  apply Array.ext'
  rw [toList_madeCells_one]
  exact (List.map_replicate (f := fun x => Value.int .u8 x) (a := (0 : Int)) (n := 512)).symm
theorem BitR.keep {w w' : World} {g : Nat} {f : Nat → Bool} (h : BitR w g f) (hb : Below w.heap.size w w') : BitR w' g f := (hb.block _ (Array.getElem?_eq_some_iff.1 h).1).trans h
/-- One more bit of a row that is filled from the front. -/
theorem front_step (P : Nat → Bool) (k : Nat) (hP : P k = true) (j : Nat) : ((decide (j < k) && P j) || decide (j = k)) = (decide (j < k + 1) && P j) := by
  by_cases e : j = k
  · subst e; simp [hP]
  · have : (decide (j < k + 1)) = decide (j < k) := by simp; omega
    simp [e, this]
theorem front_skip (P : Nat → Bool) (k : Nat) (hP : P k = false) (j : Nat) : (decide (j < k) && P j) = (decide (j < k + 1) && P j) := by
  by_cases e : j = k
  · subst e; simp [hP]
  · have : (decide (j < k + 1)) = decide (j < k) := by simp; omega
    simp [this]
theorem any_snoc (P : Nat → Bool) (k : Nat) : (List.range (k + 1)).any P = ((List.range k).any P || P k) := by
  rw [List.range_succ, List.any_append]; simp
theorem bmRows_len (b d : Int) (r : Nat) : (bmRows b d r).length ≤ r := by
  induction r with
  | zero => exact Nat.le_refl _
  | succ r ih =>
    simp only [bmRows, List.length_append]
    split <;> simp <;> omega
theorem rep_isB (n : Nat) : ∀ x ∈ List.replicate n (0 : Int), IsB x := fun x hx => by rw [(List.mem_replicate.1 hx).2]; simp [IsB]
theorem timesL_isB (s ns : Int) (k : Nat) : ∀ x ∈ timesL s ns k, IsB x := by
  induction k with
  | zero => intro x hx; simp [timesL] at hx
  | succ k ih => exact app_isB (app_isB ih (bytesLe_isB _ _)) (bytesLe_isB _ _)
theorem rootA_isB : ∀ x ∈ rootA, IsB x :=
  app_isB (app_isB (app_isB (app_isB (app_isB (app_isB (app_isB (app_isB (app_isB (by simp [IsB]) (bytesLe_isB _ _)) (bytesLe_isB _ _)) (bytesLe_isB _ _)) (bytesLe_isB _ _)) (bytesLe_isB _ _)) (bytesLe_isB _ _)) (bytesLe_isB _ _)) (bytesLe_isB _ _)) (bytesLe_isB _ _)
theorem rootL_isB (d s ns : Int) : ∀ x ∈ rootL d s ns, IsB x := app_isB (app_isB (app_isB rootA_isB (timesL_isB _ _ _)) (bytesLe_isB _ _)) (rep_isB _)
theorem nodeL_isB (d s ns : Int) : ∀ x ∈ nodeL d s ns, IsB x := app_isB (app_isB (rep_isB _) (rootL_isB _ _ _)) (rep_isB _)
theorem nodeL_len (d s ns : Int) : (nodeL d s ns).length = 512 := by
  unfold nodeL
  rw [List.length_append, List.length_append, rootL_len, List.length_replicate, List.length_replicate]
theorem entL_isB (l : List Int) (h : ∀ x ∈ l, IsB x) (h1 : l.length < 256) : ∀ x ∈ entL l, IsB x :=
  app_isB (app_isB (app_isB (bytesLe_isB _ _) (by simp [IsB]; omega)) h) (rep_isB _)
theorem ent1 : (entL [46]).length = 32 ∧ (∀ x ∈ entL [46], IsB x) := ⟨entL_len _ (by decide), entL_isB _ (by simp [IsB]) (by decide)⟩
theorem ent2 : (entL [46, 46]).length = 32 ∧ (∀ x ∈ entL [46, 46], IsB x) := ⟨entL_len _ (by decide), entL_isB _ (by simp [IsB]) (by decide)⟩
theorem linesL_isB : ∀ x ∈ linesL, IsB x := app_isB (app_isB ent1.2 ent2.2) (rep_isB _)
theorem linesL_len : linesL.length = 512 := by
  unfold linesL
  rw [List.length_append, List.length_append, ent1.1, ent2.1, List.length_replicate]
theorem nop_append {P : Program} {o : Oper} {a : Act} {w : World} (s x : Operand) (t u : TypeId) (ho : o.op = .call { callee := .builtin .append, args := #[s, x], argTypes := #[t, u] }) {v y v' : Value} {w' : World} (hs : a.eval s = v) (hx : a.eval x = y)
    (hrun : (Builtin.append_ #[t, u] o.type #[v, y]).run P w = .ok v' w') : (execOp a.eval o).run P w = .ok (.value v') w' := by
  unfold execOp
  simp only [ho, resolve, invoke, builtin, Sem.run_bind, Sem.run_pure, Result.andThen_ok, List.map_toArray, List.map_cons, List.map_nil, hs, hx, hrun]
end Go.Proofs.YtaplmlldmhdhoaaGreatDoor
