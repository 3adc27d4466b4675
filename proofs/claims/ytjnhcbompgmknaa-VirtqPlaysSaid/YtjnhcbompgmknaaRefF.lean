/- The document's driver: Heads. -/
import Derived.Test.YtjnhcbompgmknaaRefD
import Derived.Test.YtjnhcbompgmknaaDrvE
import Derived.Test.YtjnhcbompgmknaaKnown
namespace Go.Proofs.Ytjnhcbompgmknaa
open Go.RowKit

/-- The reference's chains in flight: each with its head and its list. -/
def cellsF (F : List (Nat × Value)) : List Value := F.flatMap fun p => [.int .i64 p.1, p.2]
theorem cellsF_len (F : List (Nat × Value)) : (cellsF F).length = F.length * 2 := by
  induction F with
  | nil => rfl
  | cons p F ih => simp only [cellsF, List.flatMap_cons, List.length_append, List.length_cons, List.length_nil] at *; omega
theorem cellsF_get (F : List (Nat × Value)) (i : Nat) (hi : i < F.length) : (cellsF F)[i * 2]? = some (.int .i64 (F.getD i (0, undef)).1) ∧ (cellsF F)[i * 2 + 1]? = some (F.getD i (0, undef)).2 := by
  induction F generalizing i with
  | nil => simp at hi
  | cons p F ih =>
    cases i with
    | zero => simp [cellsF]
    | succ i =>
      have h := ih i (by simpa using hi)
      have e1 : (i + 1) * 2 = i * 2 + 1 + 1 := by omega
      simp only [cellsF, List.flatMap_cons, List.cons_append, List.nil_append, e1, List.getElem?_cons_succ, List.getD_cons_succ] at *
      exact h
def FRow (w : World) (vf : Value) (F : List (Nat × Value)) : Prop := w.ownsRow 0 90 2 vf F.length (cellsF F)
theorem FRow.open_ {w : World} {vf : Value} {F : List (Nat × Value)} (h : FRow w vf F) (hp : 0 < F.length) : ∃ b cap, vf = .slice (some ⟨b, 0, none⟩) F.length cap ∧ b < w.heap.size ∧ ∀ i, i < F.length →
    w.cell? ⟨b, i * 2, none⟩ = some (.int .i64 (F.getD i (0, undef)).1) ∧ w.cell? ⟨b, i * 2 + 1, none⟩ = some (F.getD i (0, undef)).2 := by
  rcases h.2 with ⟨_, h0⟩ | ⟨g, cap, cur, rfl, hb, hh, hc1, hc2, hcs, ht⟩
  · omega
  · refine ⟨g, cap, rfl, (Array.getElem?_eq_some_iff.1 hh).1, fun i hi => ?_⟩
    obtain ⟨h1, h2⟩ := cellsF_get F i hi
    have e : ∀ j, j < F.length * 2 → w.cell? ⟨g, j, none⟩ = (cellsF F)[j]? := fun j hj => by
      rw [← ht, List.getElem?_take, if_pos hj]
      simp [World.cell?, hh]
    rw [e _ (by omega), e _ (by omega)]
    exact ⟨h1, h2⟩

/-- Head k, as often as it flies among the first i. -/
def hk (F : List (Nat × Value)) (k i : Nat) : List Int := ((F.take i).filter (fun p => p.1 == k)).map (fun _ => (k : Int))
theorem hk_zero (F : List (Nat × Value)) (k : Nat) : hk F k 0 = [] := by simp [hk]
theorem hk_succ (F : List (Nat × Value)) (k i : Nat) (h : i < F.length) : hk F k (i + 1) = hk F k i ++ (if (F.getD i (0, undef)).1 = k then [(k : Int)] else []) := by
  have e : F.take (i + 1) = F.take i ++ [F.getD i (0, undef)] := by
    rw [List.take_succ_eq_append_getElem h]
    simp [List.getD, h]
  unfold hk
  rw [e, List.filter_append, List.map_append]
  congr 1
  clear e
  generalize F.getD i (0, undef) = y
  by_cases hc : y.1 = k
  · rw [if_pos hc]; simp [List.filter, hc]
  · rw [if_neg hc]; simp only [List.filter, beq_eq_false_iff_ne.2 hc, List.map_nil]
theorem hk_len (F : List (Nat × Value)) (k i : Nat) : (hk F k i).length ≤ F.length := by
  unfold hk
  rw [List.length_map]
  exact Nat.le_trans (List.length_filter_le _ _) (by simp; omega)
/-- The heads below k, rising. -/
def hh (F : List (Nat × Value)) : Nat → List Int
  | 0 => []
  | k + 1 => hh F k ++ hk F k F.length
theorem hh_len (F : List (Nat × Value)) (k : Nat) : (hh F k).length ≤ k * F.length := by
  induction k with
  | zero => simp [hh]
  | succ k ih =>
    have := hk_len F k F.length
    rw [hh, List.length_append, Nat.add_mul, Nat.one_mul]
    omega

theorem wpList_append_z {ops : Array Oper} {rest : List Oper} {o : Oper} {a : Act} {Q : Exit → Act → World → Prop} (hgd : o.guard = none) (s x : Operand)
    (ho : o.op = .call { callee := .builtin .append, args := #[s, x], argTypes := #[37, 37] }) (base : Nat) (w4 : World) (k : Int)
    (v : Value) (L : List Int) (hs : a.eval s = v) (hown : (w4.alloc (.cells #[.int .i64 k] 3)).ownsRow base 3 1 v L.length (L.map encZ)) (c : Nat) (hx : a.eval x = .slice (some ⟨w4.heap.size, 0, none⟩) 1 c)
    (hL : L.length ≤ 65536) (hb : base ≤ w4.heap.size)
    (h : ∀ (v' : Value) (w' : World), Hid (w'.ownsRow base 3 1 v' (L ++ [k]).length ((L ++ [k]).map encZ)) → Hid ((w4.alloc (.cells #[.int .i64 k] 3)).grownBy w' v.ownBlock) → wpList Try.prog ops Q rest (a.put o.dst v') w') :
    wpList Try.prog ops Q (o :: rest) a (w4.alloc (.cells #[.int .i64 k] 3)) := by
  obtain ⟨i0, hi, hz0, hz1, hz2⟩ := info3b
  refine wpList_append_own_at _ hgd s x 37 ho base 3 i0 _ 1 8 Try.underlying37 hi hz0 hz1 hz2 rfl (by decide) v L.length (L.map encZ) hs hown ⟨w4.heap.size, 0, none⟩ 1 c [.int .i64 k] hx rfl (fun j u hj => ?_) (by intro u hu; simp at hu; subst hu; rfl) (by unfold maxLen; omega) (by omega) (by simp; omega) ?_
  · have hj1 : j < 1 := (List.getElem?_eq_some_iff.1 hj).1
    rw [add_addr, Nat.zero_add, new_cell w4 _ _ _ j (by simpa using hj1)]
    obtain rfl : j = 0 := by omega
    simpa using hj
  · intro v' w' h1 h2 _ _
    refine h v' w' (hid ?_) (hid h2)
    rw [List.length_append, List.map_append]
    exact h1

set_option maxRecDepth 100000 in
set_option maxHeartbeats 1000000 in
theorem refHeads_any (w : World) (p gt : Nat) (vf : Value) (g len cap base n put got : Nat) (F : List (Nat × Value)) (hb : RBox w p gt vf g len cap base n put got) (hf : FRow w vf F) (n2 : n ≤ 256) (f2 : F.length ≤ 256) :
    Calls Try.prog 16 #[.pointer (some ⟨p, 0, none⟩)] w fun e w' => ∃ v, e = .returned v ∧ w'.ownsRow w.heap.size 3 1 v (hh F n).length ((hh F n).map encZ) ∧ Below w.heap.size w w' := by
  have HF := hid hf
  have HB := hid hb
  have hpl := hb.lt
  obtain ⟨fa, fc, hvf⟩ := owns_slice hf
  subst hvf
  have HFL : Hid (F.length = F.length) := hid rfl
  obtain ⟨fl, hfl⟩ : ∃ fl, F.length = fl := ⟨_, rfl⟩
  have HL := hid hfl
  rw [hfl] at HB f2
  obtain ⟨d0, d1, d2, d3, d4, d5, d6, _⟩ := HB.out.cells
  clear hb hf hfl HFL d0 d1 d3 d4 d5
  go_enter Try.func16, Try.ntmps16
  go_wp2
  go_loopw [3, 4] (fun x3 x4 wx => ∃ k : Nat, k ≤ n ∧ x4 = .int .i64 k ∧ wx.ownsRow w.heap.size 3 1 x3 (hh F k).length ((hh F k).map encZ) ∧ Below w.heap.size w wx) (fun _ x4 _ => n - (RowKit.intOf x4).toNat)
  case atStart => exact ⟨0, Nat.zero_le _, rfl, ⟨rfl, .inl ⟨rfl, rfl⟩⟩, Below.refl _ _⟩
  case round =>
    obtain ⟨k, hk1, rfl, hown, hbel⟩ := hrel
    have HO := hid hown
    have HBL := hid hbel
    obtain ⟨_, _, d2, _, _, _, d6, _⟩ := RBox.cells (show RBox wr p gt _ g len cap base n put got from (hbel.block p hpl).trans HB.out)
    clear hown hbel
    by_cases hlt : k < n
    · have hki : (k : Int) < n := by omega
      have ek : IntKind.i64.wrap ((k : Int) + 1) = (k : Int) + 1 := IntWalk.i64_in _ (by omega)
      have hhl : (hh F k).length ≤ 65280 := Nat.le_trans (hh_len F k) (by rw [HL.out]; exact Nat.le_trans (Nat.mul_le_mul (show k ≤ 255 by omega) f2) (by decide))
      have HHL := hid hhl
      clear hhl
      go_wp2
      go_loopw [3, 5] (fun x3 x5 wx => ∃ i : Nat, i ≤ fl ∧ x5 = .int .i64 i ∧ wx.ownsRow w.heap.size 3 1 x3 (hh F k ++ hk F k i).length ((hh F k ++ hk F k i).map encZ) ∧ Below w.heap.size w wx) (fun _ x5 _ => fl - (RowKit.intOf x5).toNat)
      case atStart =>
        refine ⟨0, Nat.zero_le _, rfl, ?_, HBL.out⟩
        rw [hk_zero, List.append_nil]
        exact HO.out
      case round =>
        clear HO HBL d2 d6
        obtain ⟨i, hi, rfl, hown, hbel⟩ := hrel
        have HO := hid hown
        have HBL := hid hbel
        have hsx := hbel.size
        have HBX : Hid (RBox wr p gt _ g len cap base n put got) := hid ((hbel.block p hpl).trans HB.out)
        obtain ⟨_, _, d2, _, _, _, d6, _⟩ := HBX.out.cells
        by_cases hil : i < fl
        · have hii : (i : Int) < fl := by omega
          have ei : IntKind.i64.wrap ((i : Int) + 1) = (i : Int) + 1 := IntWalk.i64_in _ (by omega)
          have hi0 : (0 : Int) ≤ (i : Int) := by omega
          obtain ⟨fb, fcc, hfv, hfb, hcells⟩ := HF.out.open_ (by rw [HL.out]; omega)
          simp only [Value.slice.injEq] at hfv
          obtain ⟨hfa, _, _⟩ := hfv
          subst hfa
          have c1 := (hcells i (by rw [HL.out]; exact hil)).1
          replace c1 := cell_later hbel c1
          have hs := hk_succ F k i (by rw [HL.out]; exact hil)
          have hl1 := hk_len F k i
          rw [HL.out] at hl1
          clear hown hbel hcells
          generalize hfh : (F.getD i (0, undef)).1 = fh at *
          have HS := hid hs
          clear hs hfh
          obtain ⟨va, vc, hv⟩ := owns_slice HO.out
          by_cases he : fh = k
          · have heb : ((fh : Int) == (k : Int)) = true := by rw [he]; simp
            have HE := hid he
            clear he
            have hl2 : (hh F k ++ hk F k i).length ≤ 65536 := by rw [List.length_append]; have := HHL.out; omega
            have HL2 := hid hl2
            have HO5 := hid (owns_below HO.out ((Below.refl _ wr).alloc (Nat.le_refl _) (.cells #[.int .i64 (k : Int)] 3)))
            have HB5 := hid (HBL.out.alloc hsx (.cells #[.int .i64 (k : Int)] 3))
            clear hl2 hv
            go_wp2_with (at_builtin; refine wpList_append_z rfl (.tmp 33) (.tmp 35) rfl w.heap.size wr (k : Int) _ (hh F k ++ hk F k i) rfl HO5.out _ rfl HL2.out hsx ?_; intro v6 w6 hown6 hgrow6)
            go_roundw
            case rel =>
              refine ⟨i + 1, by omega, by go_num, ?_, HB5.out.grown hgrow6.out HB5.out.size (fun b hb => (owns_lt HO5.out hb).2)⟩
              rw [HS.out, if_pos HE.out, ← List.append_assoc]
              exact hown6.out
            case measure => simp only [RowKit.intOf]; omega
          · have heb : ((fh : Int) == (k : Int)) = false := by simp; omega
            have HE := hid he
            clear he hv
            go_wp2
            go_roundw
            case rel =>
              refine ⟨i + 1, by omega, by go_num, ?_, HBL.out⟩
              rw [HS.out, if_neg HE.out, List.append_nil]
              exact HO.out
            case measure => simp only [RowKit.intOf]; omega
        · have hii : ¬ ((i : Int) < fl) := by omega
          clear hown hbel
          go_wp2
          go_roundw
          case rel =>
            refine ⟨k + 1, by omega, by go_num, ?_, HBL.out⟩
            obtain rfl : i = fl := by omega
            rw [hh, HL.out]
            exact HO.out
          case measure => simp only [RowKit.intOf]; omega
    · have hki : ¬ ((k : Int) < n) := by omega
      go_wp2
      go_ret
      obtain rfl : k = n := by omega
      exact ⟨_, rfl, HO.out, HBL.out⟩
end Go.Proofs.Ytjnhcbompgmknaa
