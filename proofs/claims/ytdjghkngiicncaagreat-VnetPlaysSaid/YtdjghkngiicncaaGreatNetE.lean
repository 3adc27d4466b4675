/- NetS, NetE in one text. -/
import Derived.Test.YtdjghkngiicncaaGreatNetD
import Derived.Deep.RegionHeld
/- One operation of a region that draws its order. -/
namespace Go.Proofs.YtdjghkngiicncaaGreat
open Go.RowKit Go.Shelf

section
variable {P : Program} {ops : Array Oper} {Q : Exit → Act → World → Prop} {i : Nat} {o : Oper} {a : Act} {w : World} {K : Act → World → Prop}
theorem nop_value (ho : ops[i]? = some o) (hg : Region.wanted o (yielded ops a.tmps) = true) {v : Value} {w' : World} (hrun : (execOp a.eval o).run P w = .ok (.value v) w') (h : K (a.put o.dst v) w') : wpOp P ops Q i K a w := by
  unfold wpOp
  simp only [ho]
  rw [if_pos hg]
  left
  unfold Oper.wp
  rw [hrun]
  exact h
end
theorem nany_one {P : Program} {md : Region.Mode} {ops : Array Oper} {Q : Exit → Act → World → Prop} {S : World → Prop} {fuel : Nat} {listed : Array Bool} {a : Act} {w : World} (i : Nat) (hr : Region.ready md ops listed = [i])
    (h : wpOp P ops Q i (fun a' w' => S w' ∧ wpAnyH P md ops Q S fuel (listed.setIfInBounds i true) a' w') a w) : wpAnyH P md ops Q S (fuel + 1) listed a w :=
  wpAnyH_all hr (by simp) (fun j hj => by simp at hj; subst hj; exact h)
theorem nany_two {P : Program} {md : Region.Mode} {ops : Array Oper} {Q : Exit → Act → World → Prop} {S : World → Prop} {fuel : Nat} {listed : Array Bool} {a : Act} {w : World} (i j : Nat) (hr : Region.ready md ops listed = [i, j])
    (h : wpOp P ops Q i (fun a' w' => S w' ∧ wpAnyH P md ops Q S fuel (listed.setIfInBounds i true) a' w') a w) (h' : wpOp P ops Q j (fun a' w' => S w' ∧ wpAnyH P md ops Q S fuel (listed.setIfInBounds j true) a' w') a w) : wpAnyH P md ops Q S (fuel + 1) listed a w :=
  wpAnyH_all hr (by simp) (fun k hk => by simp at hk; rcases hk with rfl | rfl; exact h; exact h')

theorem nput_some {o : Oper} {dd : Nat} (hd : o.dst = some dd) (a : Act) (v : Value) : a.put o.dst v = { a with tmps := a.tmps.setIfInBounds dd v } := by rw [hd]; rfl
theorem nput_none {o : Oper} (hd : o.dst = none) (a : Act) (v : Value) : a.put o.dst v = a := by rw [hd]; rfl
theorem nany_take {P : Program} {md : Region.Mode} {ops : Array Oper} {Q : Exit → Act → World → Prop} {S : World → Prop} {fuel : Nat} {listed : Array Bool} {a : Act} {w : World} (i dd : Nat) (v : Value) {oi : Oper} (hi : ops[i]? = some oi) (hd : oi.dst = some dd)
    (hs : Region.noSelect ops = true) (hf : Region.free md ops listed i = true) (hr : (Region.ready md ops listed).contains i = true)
    (hQ : ∀ c a w, Q (.panic c) (a.put oi.dst v) w → Q (.panic c) a w) (hy : YieldsIf P ops S oi v a) (hS : S w)
    (h : wpAnyH P md ops Q S fuel (listed.setIfInBounds i true) { a with tmps := a.tmps.setIfInBounds dd v } w) : wpAnyH P md ops Q S (fuel + 1) listed a w :=
  wpAnyH_take hi hs hf hr hQ hy hS (by rw [nput_some hd]; exact h)
theorem nany_skip {P : Program} {md : Region.Mode} {ops : Array Oper} {Q : Exit → Act → World → Prop} {S : World → Prop} {fuel : Nat} {listed : Array Bool} {a : Act} {w : World} (i dd : Nat) {oi : Oper} (hi : ops[i]? = some oi) (hd : oi.dst = some dd)
    (hs : Region.noSelect ops = true) (hf : Region.free md ops listed i = true) (hr : (Region.ready md ops listed).contains i = true)
    (hQ : ∀ c a w, Q (.panic c) (a.put oi.dst undef) w → Q (.panic c) a w) (hw : Region.wanted oi (yielded ops a.tmps) = false) (hS : S w)
    (h : wpAnyH P md ops Q S fuel (listed.setIfInBounds i true) { a with tmps := a.tmps.setIfInBounds dd undef } w) : wpAnyH P md ops Q S (fuel + 1) listed a w :=
  wpAnyH_take hi hs hf hr hQ (Or.inr ⟨hw, rfl⟩) hS (by rw [nput_some hd]; exact h)
section
variable {P : Program} {ops : Array Oper} {Q : Exit → Act → World → Prop} {i : Nat} {o : Oper} {a : Act} {w : World} {K : Act → World → Prop}
theorem nop_value' (dd : Nat) (ho : ops[i]? = some o) (hg : Region.wanted o (yielded ops a.tmps) = true) (hd : o.dst = some dd) {v : Value} {w' : World} (hrun : (execOp a.eval o).run P w = .ok (.value v) w') (h : K { a with tmps := a.tmps.setIfInBounds dd v } w') : wpOp P ops Q i K a w :=
  nop_value ho hg hrun (by rw [nput_some hd]; exact h)
theorem nop_callE (dd : Nat) (ho : ops[i]? = some o) (hg : Region.wanted o (yielded ops a.tmps) = true) (hd : o.dst = some dd) {f : FuncId} {args : Array Value} {R : Value → World → Prop} (hrun : (execOp a.eval o).run P w = .ok (.enter f args) w) (hc : Calls P f args w fun e w' => ∃ v, e = .returned v ∧ R v w')
    (h : ∀ v w', R v w' → K { a with tmps := a.tmps.setIfInBounds dd v } w') : wpOp P ops Q i K a w := by
  unfold wpOp
  simp only [ho]
  rw [if_pos hg]
  left
  unfold Oper.wp
  rw [hrun]
  refine hc.mono fun e w' hr => ?_
  obtain ⟨v, rfl, hk⟩ := hr
  have := h v w' hk
  rw [← nput_some hd] at this
  exact this
end
section
variable {P : Program} {md : Region.Mode} {ops : Array Oper} {Q : Exit → Act → World → Prop} {S S' : World → Prop}
theorem nwpAnyH_strong (hS : ∀ w, S' w → S w) : ∀ (fuel : Nat) (listed : Array Bool) (a : Act) (w : World), wpAnyH P md ops Q S' fuel listed a w → wpAnyH P md ops Q S fuel listed a w
  | 0, _, _, _, h => h
  | fuel + 1, _, _, _, h => ⟨h.1, fun i hi => wpOp_mono (fun a' w' h' => ⟨hS w' h'.1, nwpAnyH_strong hS fuel _ a' w' h'.2⟩) (h.2 i hi)⟩
end
end Go.Proofs.YtdjghkngiicncaaGreat

/- vnet: the next chain that is one piece as it is asked for. -/
namespace Go.Proofs.YtdjghkngiicncaaGreat
open Go.RowKit

def okP (b : Bf) : Prop := 0 ≤ b.addr ∧ b.addr ≤ 4611686018427387904 ∧ 0 ≤ b.len ∧ b.len < 4294967296
theorem rch_bd (f : Nat → Int) (base n N : Nat) (hf : ∀ i, i < N → IsB (f i)) (hN : base + n * 16 ≤ N) : ∀ (fu p : Nat) (L R : List Bf), (∀ b ∈ L, okP b) → rch f base n fu p L = some R → ∀ b ∈ R, okP b
  | 0, _, _, _, _, h => by cases h
  | fu + 1, p, L, R, hL, h => by
    rw [rch] at h
    split at h
    · cases h
    · rename_i h1
      split at h
      · cases h
      · rename_i h2
        have r1 := rd_bd' hf (base + p * 16) 8 (by omega)
        have r2 := rd_bd' hf (base + p * 16 + 8) 4 (by omega)
        have hb : ∀ b ∈ L ++ [⟨rd f (base + p * 16) 8, rd f (base + p * 16 + 8) 4, flagW (rd f (base + p * 16 + 12) 2)⟩], okP b := fun b hb => by
          rcases List.mem_append.1 hb with h3 | h3
          · exact hL b h3
          · simp at h3
            subst h3
            exact ⟨r1.1, by simpa using h2, r2.1, by simpa using r2.2⟩
        split at h
        · exact rch_bd f base n N hf hN fu _ _ R hb h
        · simp only [Option.some.injEq] at h
          subst h
          exact hb
theorem takeR_bd {q : Qu} {S : Sd} (h : Ok q S) : (∀ b ∈ (takeR q S).2.1, okP b) ∧ ((takeR q S).2.2 = 0 → 0 ≤ (takeR q S).1 ∧ (takeR q S).1 < q.n ∧ (takeR q S).2.1.length ≤ q.n) := by
  have h1 := q.geo.fit
  unfold takeR
  split
  · simp
  · split
    · simp
    · rename_i L hL
      refine ⟨fun b hb => rch_bd S.f q.base q.n q.N h.b (by omega) _ _ _ _ (by simp) hL b hb, fun _ => ?_⟩
      have := rch_some S.f q.base q.n _ _ _ _ (by simp) hL
      simp
      omega
theorem giveS_po (q : Qu) (S : Sd) (hd len : Int) : rd (giveS q S hd len).f (q.po + 2) 2 = rd S.f (q.po + 2) 2 := by
  unfold giveS
  split
  · exact given_po _ _ _ _ _
  · rfl
def NextPost (q : Qu) (P : Bf → Bool) (e : Ending) : Option (Int × Bf) → Prop
  | none => e = .returned (.tuple #[.int .i64 0, .slice none 0 0, .int .i64 2])
  | some (hd, b) => ∃ x y : Nat, b.addr = x ∧ b.len = y ∧ e = .returned (.tuple #[.int .i64 hd, .slice (some ⟨q.g, x, none⟩) y y, .int .i64 0]) ∧ x + y ≤ q.N ∧ P b = true ∧ 0 < y ∧ y < 4294967296 ∧ 0 ≤ hd ∧ hd < q.n
theorem buf_cells {w : World} {base : Nat} {v : Value} {b : Bf} (h : w.ownsRow base 88 3 v ([b] : List Bf).length (cellsB [b])) : ∃ g c, v = .slice (some ⟨g, 0, none⟩) 1 c ∧ base ≤ g ∧ g < w.heap.size ∧ w.cell? ⟨g, 0, none⟩ = some (.int .i64 b.addr) ∧ w.cell? ⟨g, 1, none⟩ = some (.int .i64 b.len) ∧ w.cell? ⟨g, 2, none⟩ = some (.bool b.wt) := by
  rcases h.2 with ⟨_, h0⟩ | ⟨g, cap, cur, rfl, hb, hh, hc1, hc2, hcs, ht⟩
  · simp at h0
  · refine ⟨g, cap, rfl, hb, (Array.getElem?_eq_some_iff.1 hh).1, ?_⟩
    have e : ∀ i, i < 3 → cur[i]? = (cellsB [b])[i]? := fun i hi => by
      have e2 : (cur.toList.take (([b] : List Bf).length * 3))[i]? = (cellsB [b])[i]? := by rw [ht]
      rw [List.getElem?_take] at e2
      simpa [hi] using e2
    have e0 := e 0 (by omega)
    have e1 := e 1 (by omega)
    have e2 := e 2 (by omega)
    unfold World.cell?
    simp [cellsB] at e0 e1 e2
    simp [hh, e0, e1, e2]

set_option maxRecDepth 100000 in
set_option maxHeartbeats 8000000 in
theorem next_out (w : World) (pv : Nat) (q : Qu) (S : Sd)  (hdv : Dev w pv q S.o S.u) (hm : Mem w q.g q.N S.f) (hok : Ok q S)  :
    Calls Tryz.prog 45 #[devV pv q.g q.N, .func (.func 51) #[] #[]] w fun e w' => NextPost q outP e (nextS q outP S).2 ∧ Dev w' pv q (nextS q outP S).1.o (nextS q outP S).1.u ∧ Mem w' q.g q.N (nextS q outP S).1.f ∧ Mods (fun b => b = pv ∨ b = q.g) w w' := by
  have hbig := q.geo.big
  have HD := hid hdv
  have HM := hid hm
  have HOK := hid hok
  have hgl : q.g < w.heap.size := hm.lt
  have hvl : pv < w.heap.size := hdv.lt
  have HCC : Hid (∀ (W : World) (b : Bf), Calls Tryz.prog 51 #[.agg #[.int .i64 b.addr, .int .i64 b.len, .bool b.wt]] W fun e w' => e = .returned (.bool (outP b)) ∧ Below W.heap.size W w') := hid (fun W b => Sent1_any W b.addr b.len b.wt)
  have HP0 : Hid (∀ b, outP b = true → 26 ≤ b.len) := hid (fun b h => by simp [outP, fdB] at h; omega)
  have c0 : (w.alloc (.cells #[.pointer (some ⟨pv, 0, none⟩), .slice (some ⟨q.g, 0, none⟩) q.N q.N] 66)).cell? ⟨w.heap.size, 0, none⟩ = some (.pointer (some ⟨pv, 0, none⟩)) := new_cell w _ _ _ 0 (by simp)
  have c1 : (w.alloc (.cells #[.pointer (some ⟨pv, 0, none⟩), .slice (some ⟨q.g, 0, none⟩) q.N q.N] 66)).cell? ⟨w.heap.size, 1, none⟩ = some (.slice (some ⟨q.g, 0, none⟩) q.N q.N) := new_cell w _ _ _ 1 (by simp)
  unfold devV
  obtain ⟨W, hW⟩ : ∃ W, W = w.alloc (.cells #[.pointer (some ⟨pv, 0, none⟩), .slice (some ⟨q.g, 0, none⟩) q.N q.N] 66) := ⟨_, rfl⟩
  have HB0 : Hid (Below w.heap.size w W) := hid (by rw [hW]; exact (Below.refl _ _).alloc (Nat.le_refl _) _)
  have HWS : Hid (w.heap.size < W.heap.size) := hid (by rw [hW]; simp)
  rw [← hW] at c0 c1
  clear hdv hm hok
  generalize hPP : outP = P at *
  clear hPP
  generalize hR : nextS q P S = R
  have HR := hid hR
  clear hR
  have HI : Hid (∃ I : Int, rd S.f (q.po + 2) 2 = I) := hid ⟨_, rfl⟩
  obtain ⟨I, hI⟩ := HI.out
  have HII := hid hI
  clear hI HI
  go_enter Tryz.func45, Tryz.ntmps45
  go_wp2_with fail
  rw [← hW]
  clear hW
  go_loopw [4] (fun v wr => ∃ (S1 : Sd), v = .int .i64 0 ∧ nextS q P S1 = R ∧ Ok q S1 ∧ rd S1.f (q.po + 2) 2 = I ∧ Dev wr pv q S1.o S1.u ∧ Mem wr q.g q.N S1.f ∧ Mods (fun b => b = pv ∨ b = q.g) W wr ∧ wr.cell? ⟨w.heap.size, 0, none⟩ = some (.pointer (some ⟨pv, 0, none⟩)) ∧ wr.cell? ⟨w.heap.size, 1, none⟩ = some (.slice (some ⟨q.g, 0, none⟩) q.N q.N))
    (fun _ wr => ((I - (cellN wr pv 8 : Int)) % 65536).toNat)
  case atStart => exact ⟨S, rfl, HR.out, HOK.out, HII.out, HD.out.keep (HB0.out.block pv hvl), HM.out.below HB0.out, Mods.refl _ _, c0, c1⟩
  case round =>
    clear c0 c1
    obtain ⟨S1, rfl, hn, hok1, hi1, hdv1, hm1, hmo1, c0, c1⟩ := hrel
    have HN := hid hn
    have HO1 := hid hok1
    have HI1 := hid hi1
    have HDV := hid hdv1
    have HM1 := hid hm1
    have HMO := hid hmo1
    have HCON := hid (Take_S wr pv q S1 hdv1 hm1)
    have HBD := hid (takeR_bd hok1)
    have HCN := hid hdv1.offs
    clear hn hok1 hi1 hdv1 hm1 hmo1
    have hbp : w.heap.size ≠ pv := by omega
    have hbg : w.heap.size ≠ q.g := by omega
    rcases takeR_kind q S1 with hk | hk | hk
    · have HX := hid (next_none (P := P) HO1.out hk)
      have HTS : Hid (takeS q S1 = S1) := hid (by unfold takeS; rw [if_pos (takeR_none.1 hk)])
      rw [hk] at HCON
      generalize (takeR q S1).1 = t1 at *
      generalize (takeR q S1).2.1 = TL at *
      clear hk
      go_wp2_with (go_at_call 67; refine HCON.out.mono ?_; rintro e w3 ⟨v3, rfl, hown3, hdv3, hm3, hmo3⟩; have HOW3 := hid hown3; have HDV3 := hid hdv3; have HM3 := hid hm3; have HMO3 := hid hmo3; clear hown3 hdv3 hm3 hmo3)
      go_ret3
      rw [← HN.out, HX.out]
      refine ⟨rfl, HTS.out ▸ HDV3.out, HM3.out, (Mods.of_below HB0.out).tr (HMO.out.tr (HMO3.out.weak (fun b e => .inl (.inl e))))⟩
    · have HX := hid (next_bad (P := P) HO1.out hk)
      have HST := hid (takeS_step HO1.out (fun e => by rw [takeR_none.2 e] at hk; omega))
      have HOT := hid HO1.out.take
      rw [hk] at HCON
      generalize (takeR q S1).1 = t1 at *
      generalize (takeR q S1).2.1 = TL at *
      clear hk
      go_wp2_with (go_at_call 67; refine HCON.out.mono ?_; rintro e w3 ⟨v3, rfl, hown3, hdv3, hm3, hmo3⟩; have HOW3 := hid hown3; have HDV3 := hid hdv3; have HM3 := hid hm3; have HMO3 := hid hmo3; clear hown3 hdv3 hm3 hmo3)
      go_roundw
      case rel =>
        have hf : (takeS q S1).f = S1.f := by unfold takeS; split <;> rfl
        refine ⟨takeS q S1, rfl, by rw [← HX.out]; exact HN.out, HOT.out, by rw [hf]; exact HI1.out, HDV3.out, hf ▸ HM3.out, HMO.out.tr (HMO3.out.weak (fun b e => .inl (.inl e))), HMO3.out.cell c0 hbp, HMO3.out.cell c1 hbp⟩
      case measure =>
        have h1 := HDV3.out.offs
        have h2 := HCN.out
        have h3 := HST.out
        have hf : (takeS q S1).f = S1.f := by unfold takeS; split <;> rfl
        rw [h1, h2]
        unfold left at h3
        rw [hf, HI1.out] at h3
        omega
    · obtain ⟨hb1, hb2⟩ := HBD.out
      obtain ⟨hh0, hhn, hll⟩ := hb2 hk
      have HST := hid (takeS_step HO1.out (fun e => by rw [takeR_none.2 e] at hk; omega))
      have HOT := hid HO1.out.take
      have HXS := hid (next_some (P := P) HO1.out hk)
      have HXK := hid (next_skip (P := P) HO1.out hk)
      have HB1 := hid hb1
      rw [hk] at HCON
      have HF : Hid ((takeS q S1).f = S1.f) := hid (by unfold takeS; split <;> rfl)
      have HA : Hid ((takeS q S1).A = S1.A) := hid (by unfold takeS; split <;> rfl)
      clear hb1 hb2 hk HBD
      have HN2 := q.geo.n2
      generalize hT1 : (takeR q S1).1 = t1 at *
      generalize hTL : (takeR q S1).2.1 = TL at *
      clear hT1 hTL
      have HGV : Hid (∀ w3, Dev w3 pv q (takeS q S1).o (takeS q S1).u → Mem w3 q.g q.N S1.f → Calls Tryz.prog 47 #[.pointer (some ⟨pv, 0, none⟩), .int .i64 t1, .int .i64 0] w3 fun e w' => e = .returned (.int .i64 (giveR q t1 0)) ∧
          Dev w' pv q (giveS q (takeS q S1) t1 0).o (giveS q (takeS q S1) t1 0).u ∧ Mem w' q.g q.N (giveS q (takeS q S1) t1 0).f ∧ Mods (fun b => b = pv ∨ b = q.g) w3 w') := hid (fun w3 h1 h2 => Give_S w3 pv q (takeS q S1) h1 (HF.out ▸ h2) t1 0 ⟨by omega, by omega⟩)
      have HGL := hid (giveS_left q (takeS q S1) t1 0)
      have HGO := hid (HOT.out.give t1 0)
      generalize giveR q t1 0 = gr at *
      by_cases hl1 : TL.length = 1
      · obtain ⟨b, rfl⟩ : ∃ b, TL = [b] := List.length_eq_one_iff.1 hl1
        have hbo := HB1.out b (by simp)
        obtain ⟨bx1, bx2, bx3⟩ := b
        obtain ⟨ho1, ho2, ho3, ho4⟩ := hbo
        simp only at ho1 ho2 ho3 ho4
        obtain ⟨x, rfl⟩ : ∃ x : Nat, bx1 = x := ⟨bx1.toNat, by omega⟩
        obtain ⟨y, rfl⟩ : ∃ y : Nat, bx2 = y := ⟨bx2.toNat, by omega⟩
        have hPv : ∀ r, P ⟨x, y, bx3⟩ = r → P ⟨x, y, bx3⟩ = r := fun _ h => h
        cases hP : P ⟨x, y, bx3⟩
        · have HPV := hid hP
          have HXK2 := hid (HXK.out (by simp [pcB, hP]))
          clear hP hPv hl1
          go_wp2_with (go_at_call 67; refine HCON.out.mono ?_; rintro e w3 ⟨v3, rfl, hown3, hdv3, hm3, hmo3⟩; obtain ⟨lb, lc, rfl, hlb1, hlb2, l0, l1, l2⟩ := buf_cells hown3; have HDV3 := hid hdv3; have HM3 := hid hm3; have HMO3 := hid hmo3; have e0 := hmo3.cell c0 hbp; have e1 := hmo3.cell c1 hbp; clear hown3 hdv3 hm3 hmo3)
          refine wp_region_held_drew (S := (fun w' => w'.cell? ⟨lb, 0, none⟩ = some (.int .i64 x) ∧ w'.cell? ⟨lb, 1, none⟩ = some (.int .i64 y) ∧ w'.cell? ⟨lb, 2, none⟩ = some (.bool bx3) ∧ w'.cell? ⟨w.heap.size, 0, none⟩ = some (.pointer (some ⟨pv, 0, none⟩)) ∧ w'.cell? ⟨w.heap.size, 1, none⟩ = some (.slice (some ⟨q.g, 0, none⟩) q.N q.N))) (by kernel_rfl) ⟨l0, l1, l2, e0, e1⟩ (fun hS => ?_)
          refine nany_take 0 25 (.slice (some ⟨lb, 0, none⟩) 1 lc) rfl rfl (by kernel_rfl) (by kernel_rfl) (by kernel_rfl) (fun _ _ _ h => h) (Or.inl ⟨by rfl, ?_⟩) hS ?_
          · rintro w' ⟨hw0, hw1, hw2, hw3, hw4⟩
            go_simp
          simp only [List.setIfInBounds_toArray, List.set_cons_zero, List.set_cons_succ]
          refine nany_take 1 26 (.int .i64 1) rfl rfl (by kernel_rfl) (by kernel_rfl) (by kernel_rfl) (fun _ _ _ h => h) (Or.inl ⟨by rfl, ?_⟩) hS ?_
          · rintro w' ⟨hw0, hw1, hw2, hw3, hw4⟩
            go_simp
          simp only [List.setIfInBounds_toArray, List.set_cons_zero, List.set_cons_succ]
          refine nany_take 2 27 (.bool true) rfl rfl (by kernel_rfl) (by kernel_rfl) (by kernel_rfl) (fun _ _ _ h => h) (Or.inl ⟨by rfl, ?_⟩) hS ?_
          · rintro w' ⟨hw0, hw1, hw2, hw3, hw4⟩
            go_simp
          simp only [List.setIfInBounds_toArray, List.set_cons_zero, List.set_cons_succ]
          refine nany_take 3 28 (.bool true) rfl rfl (by kernel_rfl) (by kernel_rfl) (by kernel_rfl) (fun _ _ _ h => h) (Or.inl ⟨by rfl, ?_⟩) hS ?_
          · rintro w' ⟨hw0, hw1, hw2, hw3, hw4⟩
            go_simp
          simp only [List.setIfInBounds_toArray, List.set_cons_zero, List.set_cons_succ]
          refine nany_take 4 29 (.func (.func 51) #[] #[]) rfl rfl (by kernel_rfl) (by kernel_rfl) (by kernel_rfl) (fun _ _ _ h => h) (Or.inl ⟨by rfl, ?_⟩) hS ?_
          · rintro w' ⟨hw0, hw1, hw2, hw3, hw4⟩
            go_simp
          simp only [List.setIfInBounds_toArray, List.set_cons_zero, List.set_cons_succ]
          refine nany_take 5 30 (.slice (some ⟨lb, 0, none⟩) 1 lc) rfl rfl (by kernel_rfl) (by kernel_rfl) (by kernel_rfl) (fun _ _ _ h => h) (Or.inl ⟨by rfl, ?_⟩) hS ?_
          · rintro w' ⟨hw0, hw1, hw2, hw3, hw4⟩
            go_simp
          simp only [List.setIfInBounds_toArray, List.set_cons_zero, List.set_cons_succ]
          refine nany_take 6 31 (.pointer (some ⟨lb, 0, none⟩)) rfl rfl (by kernel_rfl) (by kernel_rfl) (by kernel_rfl) (fun _ _ _ h => h) (Or.inl ⟨by rfl, ?_⟩) hS ?_
          · rintro w' ⟨hw0, hw1, hw2, hw3, hw4⟩
            go_simp
          simp only [List.setIfInBounds_toArray, List.set_cons_zero, List.set_cons_succ]
          refine nany_take 7 32 (.agg #[.int .i64 x, .int .i64 y, .bool bx3]) rfl rfl (by kernel_rfl) (by kernel_rfl) (by kernel_rfl) (fun _ _ _ h => h) (Or.inl ⟨by rfl, ?_⟩) hS ?_
          · rintro w' ⟨hw0, hw1, hw2, hw3, hw4⟩
            go_simp
          simp only [List.setIfInBounds_toArray, List.set_cons_zero, List.set_cons_succ]
          refine nany_one 8 (by kernel_rfl) ?_
          refine nop_callE 33 (f := 51) (args := #[.agg #[.int .i64 x, .int .i64 y, .bool bx3]]) (R := fun v w' => v = .bool false ∧ Below w3.heap.size w3 w') rfl (by rfl) rfl (by go_simp) ((HCC.out w3.drew ⟨x, y, bx3⟩).mono (fun e w' h => ⟨.bool false, by rw [h.1, HPV.out], rfl, ((Below.refl _ w3).drew).trans h.2⟩)) ?_
          rintro v5 w5 ⟨rfl, hb5⟩
          clear hS
          have HB5 := hid hb5
          have HS5 := hid (And.intro (cell_later hb5 l0) (And.intro (cell_later hb5 l1) (And.intro (cell_later hb5 l2) (And.intro (cell_later hb5 e0) (cell_later hb5 e1)))))
          refine ⟨HS5.out, ?_⟩
          have hS := HS5.out
          simp only [List.setIfInBounds_toArray, List.set_cons_zero, List.set_cons_succ]
          refine nany_take 9 34 (.bool false) rfl rfl (by kernel_rfl) (by kernel_rfl) (by kernel_rfl) (fun _ _ _ h => h) (Or.inl ⟨by rfl, ?_⟩) hS ?_
          · rintro w' ⟨hw0, hw1, hw2, hw3, hw4⟩
            go_simp
          simp only [List.setIfInBounds_toArray, List.set_cons_zero, List.set_cons_succ]
          refine nany_take 10 35 (.bool false) rfl rfl (by kernel_rfl) (by kernel_rfl) (by kernel_rfl) (fun _ _ _ h => h) (Or.inl ⟨by rfl, ?_⟩) hS ?_
          · rintro w' ⟨hw0, hw1, hw2, hw3, hw4⟩
            go_simp
          simp only [List.setIfInBounds_toArray, List.set_cons_zero, List.set_cons_succ]
          refine nany_skip 11 36 rfl rfl (by kernel_rfl) (by kernel_rfl) (by kernel_rfl) (fun _ _ _ h => h) (by rfl) hS ?_
          simp only [List.setIfInBounds_toArray, List.set_cons_zero, List.set_cons_succ]
          refine nany_skip 12 37 rfl rfl (by kernel_rfl) (by kernel_rfl) (by kernel_rfl) (fun _ _ _ h => h) (by rfl) hS ?_
          simp only [List.setIfInBounds_toArray, List.set_cons_zero, List.set_cons_succ]
          refine nany_skip 13 38 rfl rfl (by kernel_rfl) (by kernel_rfl) (by kernel_rfl) (fun _ _ _ h => h) (by rfl) hS ?_
          simp only [List.setIfInBounds_toArray, List.set_cons_zero, List.set_cons_succ]
          refine nany_skip 14 39 rfl rfl (by kernel_rfl) (by kernel_rfl) (by kernel_rfl) (fun _ _ _ h => h) (by rfl) hS ?_
          simp only [List.setIfInBounds_toArray, List.set_cons_zero, List.set_cons_succ]
          refine nany_skip 15 40 rfl rfl (by kernel_rfl) (by kernel_rfl) (by kernel_rfl) (fun _ _ _ h => h) (by rfl) hS ?_
          simp only [List.setIfInBounds_toArray, List.set_cons_zero, List.set_cons_succ]
          refine nany_skip 16 41 rfl rfl (by kernel_rfl) (by kernel_rfl) (by kernel_rfl) (fun _ _ _ h => h) (by rfl) hS ?_
          simp only [List.setIfInBounds_toArray, List.set_cons_zero, List.set_cons_succ]
          refine nany_take 17 42 (.bool false) rfl rfl (by kernel_rfl) (by kernel_rfl) (by kernel_rfl) (fun _ _ _ h => h) (Or.inl ⟨by rfl, ?_⟩) hS ?_
          · rintro w' ⟨hw0, hw1, hw2, hw3, hw4⟩
            go_simp
          simp only [List.setIfInBounds_toArray, List.set_cons_zero, List.set_cons_succ]
          refine nany_take 18 24 (.bool false) rfl rfl (by kernel_rfl) (by kernel_rfl) (by kernel_rfl) (fun _ _ _ h => h) (Or.inl ⟨by rfl, ?_⟩) hS ?_
          · rintro w' ⟨hw0, hw1, hw2, hw3, hw4⟩
            go_simp
          simp only [List.setIfInBounds_toArray, List.set_cons_zero, List.set_cons_succ]
          refine wpAnyH_done (by kernel_rfl) ?_ _
          clear hS hb5
          have f0 := HS5.out.2.2.2.1
          have f1 := HS5.out.2.2.2.2
          clear l0 l1 l2 e0 e1 HS5
          go_wp2_with (go_at_call 47; refine (HGV.out w5 (HDV3.out.keep (HB5.out.block pv HDV3.out.lt)) (HM3.out.below HB5.out)).mono ?_; rintro e w9 ⟨rfl, hdv9, hm9, hmo9⟩; have HDV9 := hid hdv9; have HM9 := hid hm9; have HMO9 := hid hmo9; clear hdv9 hm9 hmo9)
          go_roundw
          case rel =>
            exact ⟨giveS q (takeS q S1) t1 0, rfl, by rw [← HXK2.out]; exact HN.out, HGO.out, by rw [giveS_po, HF.out]; exact HI1.out, HDV9.out, HM9.out, (HMO.out.tr (HMO3.out.weak (fun b e => .inl (.inl e)))).tr ((Mods.of_below HB5.out).tr HMO9.out), HMO9.out.cell f0 (fun e => e.elim hbp hbg), HMO9.out.cell f1 (fun e => e.elim hbp hbg)⟩
          case measure =>
            have h1 := HDV9.out.offs
            have h2 := HCN.out
            have h3 := HST.out
            have h4 := HGL.out
            rw [h1, h2]
            unfold left at h3 h4
            rw [giveS_po, HF.out, HI1.out] at h4
            rw [HF.out, HI1.out] at h3
            omega

        · have HPV := hid hP
          by_cases hli : (x : Int) ≤ (q.N : Int) - y
          · have HLI : Hid (decide ((x : Int) ≤ (q.N : Int) - y) = true) := hid (by simpa using hli)
            have HXS2 := hid (HXS.out (by simp [pcB, hP]; exact hli))
            have hy26 := HP0.out _ hP
            simp only at hy26
            have HPV2 := hid hP
            clear hP hPv hl1
            go_wp2_with (go_at_call 67; refine HCON.out.mono ?_; rintro e w3 ⟨v3, rfl, hown3, hdv3, hm3, hmo3⟩; obtain ⟨lb, lc, rfl, hlb1, hlb2, l0, l1, l2⟩ := buf_cells hown3; have HDV3 := hid hdv3; have HM3 := hid hm3; have HMO3 := hid hmo3; have e0 := hmo3.cell c0 hbp; have e1 := hmo3.cell c1 hbp; clear hown3 hdv3 hm3 hmo3)
            go_region_held3 (fun w' => w'.cell? ⟨lb, 0, none⟩ = some (.int .i64 x) ∧ w'.cell? ⟨lb, 1, none⟩ = some (.int .i64 y) ∧ w'.cell? ⟨lb, 2, none⟩ = some (.bool bx3) ∧ w'.cell? ⟨w.heap.size, 0, none⟩ = some (.pointer (some ⟨pv, 0, none⟩)) ∧ w'.cell? ⟨w.heap.size, 1, none⟩ = some (.slice (some ⟨q.g, 0, none⟩) q.N q.N)) ((first | exact ⟨l0, l1, l2, e0, e1⟩ | exact HS5.out | exact HS6.out))
              ((first
                | (go_at_call 51; refine (HCC.out w3.drew ⟨x, y, bx3⟩).mono ?_; rintro e w5 ⟨rfl, hb5⟩; rw [HPV.out]; have HB5 := hid (((Below.refl _ w3).drew).trans hb5); have HS5 := hid (And.intro (cell_later hb5 l0) (And.intro (cell_later hb5 l1) (And.intro (cell_later hb5 l2) (And.intro (cell_later hb5 e0) (cell_later hb5 e1))))); clear hb5)
                | (go_at_call 68; refine (liesIn_any _ _ q.N q.N x y bx3 hbig (by omega)).mono ?_; rintro e w6 ⟨rfl, hb6⟩; rw [HLI.out]; have HB6 := hid (HB5.out.trans (hb6.mono HB5.out.size)); have HS6 := hid (And.intro (cell_later hb6 HS5.out.1) (And.intro (cell_later hb6 HS5.out.2.1) (And.intro (cell_later hb6 HS5.out.2.2.1) (And.intro (cell_later hb6 HS5.out.2.2.2.1) (cell_later hb6 HS5.out.2.2.2.2))))); clear hb6)))
            obtain ⟨m0, m1, m2, m3, m4⟩ := HS6.out
            clear l0 l1 l2 e0 e1 HS5 HS6
            go_wp2_with fail
            go_region_held3 (fun w' => w'.cell? ⟨lb, 0, none⟩ = some (.int .i64 x) ∧ w'.cell? ⟨lb, 1, none⟩ = some (.int .i64 y) ∧ w'.cell? ⟨lb, 2, none⟩ = some (.bool bx3) ∧ w'.cell? ⟨w.heap.size, 0, none⟩ = some (.pointer (some ⟨pv, 0, none⟩)) ∧ w'.cell? ⟨w.heap.size, 1, none⟩ = some (.slice (some ⟨q.g, 0, none⟩) q.N q.N)) ((first | exact ⟨m0, m1, m2, m3, m4⟩ | exact HS8.out))
              ((go_at_call 66; refine (bytesOf_any _ q.g q.N x y bx3 hbig (by omega) (by omega)).mono ?_; rintro e w8 ⟨rfl, hb8⟩; have HB8 := hid (HB6.out.trans (((Below.refl _ w6).drew.trans hb8).mono HB6.out.size)); have HS8 := hid (And.intro (cell_later hb8 m0) (And.intro (cell_later hb8 m1) (And.intro (cell_later hb8 m2) (And.intro (cell_later hb8 m3) (cell_later hb8 m4))))); clear hb8))
            go_wp2
            go_ret3
            rw [← HN.out, HXS2.out]
            refine ⟨⟨x, y, rfl, rfl, rfl, by omega, HPV2.out, by omega, by omega, hh0, hhn⟩, HDV3.out.keep (HB8.out.block pv HDV3.out.lt), HF.out ▸ HM3.out.below HB8.out, (Mods.of_below HB0.out).tr ((HMO.out.tr (HMO3.out.weak (fun b e => .inl (.inl e)))).tr (Mods.of_below HB8.out))⟩
          · have HLI : Hid (decide ((x : Int) ≤ (q.N : Int) - y) = false) := hid (by simpa using hli)
            have HXK2 := hid (HXK.out (by simp [pcB, hP]; omega))
            clear hP hPv hl1
            go_wp2_with (go_at_call 67; refine HCON.out.mono ?_; rintro e w3 ⟨v3, rfl, hown3, hdv3, hm3, hmo3⟩; obtain ⟨lb, lc, rfl, hlb1, hlb2, l0, l1, l2⟩ := buf_cells hown3; have HDV3 := hid hdv3; have HM3 := hid hm3; have HMO3 := hid hmo3; have e0 := hmo3.cell c0 hbp; have e1 := hmo3.cell c1 hbp; clear hown3 hdv3 hm3 hmo3)
            go_region_held3 (fun w' => w'.cell? ⟨lb, 0, none⟩ = some (.int .i64 x) ∧ w'.cell? ⟨lb, 1, none⟩ = some (.int .i64 y) ∧ w'.cell? ⟨lb, 2, none⟩ = some (.bool bx3) ∧ w'.cell? ⟨w.heap.size, 0, none⟩ = some (.pointer (some ⟨pv, 0, none⟩)) ∧ w'.cell? ⟨w.heap.size, 1, none⟩ = some (.slice (some ⟨q.g, 0, none⟩) q.N q.N)) ((first | exact ⟨l0, l1, l2, e0, e1⟩ | exact HS5.out | exact HS6.out))
              ((first
                | (go_at_call 51; refine (HCC.out w3.drew ⟨x, y, bx3⟩).mono ?_; rintro e w5 ⟨rfl, hb5⟩; rw [HPV.out]; have HB5 := hid (((Below.refl _ w3).drew).trans hb5); have HS5 := hid (And.intro (cell_later hb5 l0) (And.intro (cell_later hb5 l1) (And.intro (cell_later hb5 l2) (And.intro (cell_later hb5 e0) (cell_later hb5 e1))))); clear hb5)
                | (go_at_call 68; refine (liesIn_any _ _ q.N q.N x y bx3 hbig (by omega)).mono ?_; rintro e w6 ⟨rfl, hb6⟩; rw [HLI.out]; have HB6 := hid (HB5.out.trans (hb6.mono HB5.out.size)); have HS6 := hid (And.intro (cell_later hb6 HS5.out.1) (And.intro (cell_later hb6 HS5.out.2.1) (And.intro (cell_later hb6 HS5.out.2.2.1) (And.intro (cell_later hb6 HS5.out.2.2.2.1) (cell_later hb6 HS5.out.2.2.2.2))))); clear hb6)))
            have f0 := HS6.out.2.2.2.1
            have f1 := HS6.out.2.2.2.2
            clear l0 l1 l2 e0 e1 HS5 HS6
            go_wp2_with (go_at_call 47; refine (HGV.out w6 (HDV3.out.keep (HB6.out.block pv HDV3.out.lt)) (HM3.out.below HB6.out)).mono ?_; rintro e w9 ⟨rfl, hdv9, hm9, hmo9⟩; have HDV9 := hid hdv9; have HM9 := hid hm9; have HMO9 := hid hmo9; clear hdv9 hm9 hmo9)
            go_roundw
            case rel =>
              exact ⟨giveS q (takeS q S1) t1 0, rfl, by rw [← HXK2.out]; exact HN.out, HGO.out, by rw [giveS_po, HF.out]; exact HI1.out, HDV9.out, HM9.out, (HMO.out.tr (HMO3.out.weak (fun b e => .inl (.inl e)))).tr ((Mods.of_below HB6.out).tr HMO9.out), HMO9.out.cell f0 (fun e => e.elim hbp hbg), HMO9.out.cell f1 (fun e => e.elim hbp hbg)⟩
            case measure =>
              have h1 := HDV9.out.offs
              have h2 := HCN.out
              have h3 := HST.out
              have h4 := HGL.out
              rw [h1, h2]
              unfold left at h3 h4
              rw [giveS_po, HF.out, HI1.out] at h4
              rw [HF.out, HI1.out] at h3
              omega

      · have HXK2 := hid (HXK.out (by
          unfold pcB
          split
          · simp at hl1
          · rfl))
        have hli : ¬ ((TL.length : Int) = 1) := by omega
        have hlb : ((TL.length : Int) == 1) = false := by simpa using hli
        clear HB1
        generalize TL.length = tln at *
        go_wp2_with (go_at_call 67; refine HCON.out.mono ?_; rintro e w3 ⟨v3, rfl, hown3, hdv3, hm3, hmo3⟩; obtain ⟨la, lc, rfl⟩ := owns_slice hown3; have HDV3 := hid hdv3; have HM3 := hid hm3; have HMO3 := hid hmo3; have e0 := hmo3.cell c0 hbp; have e1 := hmo3.cell c1 hbp; clear hown3 hdv3 hm3 hmo3)
        have hlp : decide ((tln : Int) = 1) = false := by simpa using hli
        go_quiet (fail)
        go_wp2_with fail
        refine (HGV.out (w3.drewN nq) (HDV3.out.keep ((below_drewN (Below.refl _ w3) nq).block pv HDV3.out.lt)) (HM3.out.below (below_drewN (Below.refl _ w3) nq))).mono ?_; rintro e w9 ⟨rfl, hdv9, hm9, hmo9⟩; have HDV9 := hid hdv9; have HM9 := hid hm9; have HMO9 := hid hmo9; clear hdv9 hm9 hmo9
        go_wp2
        go_roundw
        case rel =>
          exact ⟨giveS q (takeS q S1) t1 0, rfl, by rw [← HXK2.out]; exact HN.out, HGO.out, by rw [giveS_po, HF.out]; exact HI1.out, HDV9.out, HM9.out, (HMO.out.tr (HMO3.out.weak (fun b e => .inl (.inl e)))).tr ((Mods.of_below (below_drewN (Below.refl _ w3) nq)).tr HMO9.out), HMO9.out.cell e0 (fun e => e.elim hbp hbg), HMO9.out.cell e1 (fun e => e.elim hbp hbg)⟩
        case measure =>
          have h1 := HDV9.out.offs
          have h2 := HCN.out
          have h3 := HST.out
          have h4 := HGL.out
          rw [h1, h2]
          unfold left at h3 h4
          rw [giveS_po, HF.out, HI1.out] at h4
          rw [HF.out, HI1.out] at h3
          omega
end Go.Proofs.YtdjghkngiicncaaGreat
