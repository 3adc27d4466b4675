/- readChain: the pieces of a chain as they are read. -/
import Derived.Test.YtdjghkngiicncaaGreatMemE
import Derived.Maps.AppendAt
namespace Go.Proofs.YtdjghkngiicncaaGreat
open Go.RowKit

def flagN (x : Int) : Bool := x % 2 == 1
def flagW (x : Int) : Bool := x / 2 % 2 == 1
theorem and_one (v : Int) (h0 : 0 ≤ v) (h1 : v < 65536) : bits .and .u64 v 1 = v % 2 := by
  rw [u64_and v 1 h0 (by omega) (by decide) (by decide)]
  have : v.toNat &&& (1 : Int).toNat = v.toNat % 2 := Nat.and_one_is_mod _
  rw [this]
  omega
theorem nat_and_two (x : Nat) : x &&& 2 = x / 2 % 2 * 2 := by
  apply Nat.eq_of_testBit_eq
  intro i
  rw [Nat.testBit_and]
  match i with
  | 0 => simp [Nat.testBit_zero]
  | 1 =>
    have h1 : Nat.testBit x 1 = decide (x / 2 % 2 = 1) := by
      rw [Nat.testBit_succ, Nat.testBit_zero]
    have h2 : Nat.testBit 2 1 = true := by decide
    have h3 : Nat.testBit (x / 2 % 2 * 2) 1 = decide (x / 2 % 2 * 2 / 2 % 2 = 1) := by
      rw [Nat.testBit_succ, Nat.testBit_zero]
    rw [h1, h2, h3, Bool.and_true]
    congr 1
    simp
  | i + 2 =>
    have h2 : Nat.testBit 2 (i + 2) = false := Nat.testBit_lt_two_pow (Nat.lt_of_lt_of_le (by decide : 2 < 2 ^ 2) (Nat.pow_le_pow_right (by decide) (by omega)))
    have h3 : Nat.testBit (x / 2 % 2 * 2) (i + 2) = false := Nat.testBit_lt_two_pow (Nat.lt_of_lt_of_le (by omega : x / 2 % 2 * 2 < 2 ^ 2) (Nat.pow_le_pow_right (by decide) (by omega)))
    rw [h2, h3, Bool.and_false]
theorem and_two (v : Int) (h0 : 0 ≤ v) (h1 : v < 65536) : bits .and .u64 v 2 = v / 2 % 2 * 2 := by
  rw [u64_and v 2 h0 (by omega) (by decide) (by decide)]
  have : v.toNat &&& (2 : Int).toNat = v.toNat / 2 % 2 * 2 := nat_and_two _
  rw [this]
  omega

/-- A chain as it is read from p on, behind L. -/
def rch (f : Nat → Int) (base n : Nat) : Nat → Nat → List Bf → Option (List Bf)
  | 0, _, _ => none
  | fuel + 1, p, L =>
    if n ≤ p ∨ L.length = n then none
    else if 4611686018427387904 < rd f (base + p * 16) 8 then none
    else if flagN (rd f (base + p * 16 + 12) 2) then rch f base n fuel (rd f (base + p * 16 + 14) 2).toNat (L ++ [⟨rd f (base + p * 16) 8, rd f (base + p * 16 + 8) 4, flagW (rd f (base + p * 16 + 12) 2)⟩])
    else some (L ++ [⟨rd f (base + p * 16) 8, rd f (base + p * 16 + 8) 4, flagW (rd f (base + p * 16 + 12) 2)⟩])

def cellsB (L : List Bf) : List Value := L.flatMap fun b => [.int .i64 b.addr, .int .i64 b.len, .bool b.wt]
theorem cellsB_snoc (L : List Bf) (b : Bf) : cellsB (L ++ [b]) = cellsB L ++ [.int .i64 b.addr, .int .i64 b.len, .bool b.wt] := by simp [cellsB]
def lenOf : Value → Nat
  | .slice _ l _ => l
  | _ => 0
theorem owns_slice {w : World} {base e s : Nat} {v : Value} {n : Nat} {xs : List Value} (h : w.ownsRow base e s v n xs) : ∃ a c, v = .slice a n c := by
  rcases h.2 with ⟨rfl, rfl⟩ | ⟨g, cap, cur, rfl, _⟩
  · exact ⟨_, _, rfl⟩
  · exact ⟨_, _, rfl⟩
theorem owns_mono {w : World} {base base' e s : Nat} {v : Value} {n : Nat} {xs : List Value} (h : w.ownsRow base e s v n xs) (hb : base' ≤ base) : w.ownsRow base' e s v n xs :=
  ⟨h.1, h.2.imp id (fun ⟨g, cap, cur, h1, h2, r⟩ => ⟨g, cap, cur, h1, Nat.le_trans hb h2, r⟩)⟩
theorem owns_below {w w' : World} {base e s : Nat} {v : Value} {n : Nat} {xs : List Value} (h : w.ownsRow base e s v n xs) (hb : Below w.heap.size w w') : w'.ownsRow base e s v n xs := by
  refine ⟨h.1, h.2.imp id (fun ⟨g, cap, cur, h1, h2, h3, r⟩ => ⟨g, cap, cur, h1, h2, (hb.block g (Array.getElem?_eq_some_iff.1 h3).1).trans h3, r⟩)⟩
theorem info51 : ∃ i, Tryz.prog.info? 88 = some i ∧ i.zero = some (.agg #[.int .i64 0, .int .i64 0, .bool false]) ∧ i.size = 3 ∧ i.bytes = 24 := by
  have : (Tryz.prog.info? 88).map (fun i => (i.zero, i.size, i.bytes)) = some (some (.agg #[.int .i64 0, .int .i64 0, .bool false]), 3, 24) := by kernel_rfl
  cases h : Tryz.prog.info? 88 with
  | none => rw [h] at this; cases this
  | some i => rw [h] at this; simp at this; exact ⟨i, rfl, this.1, this.2.1, this.2.2⟩
theorem add_addr (b off j : Nat) : (⟨b, off, none⟩ : Addr).add j = ⟨b, off + j, none⟩ := by unfold Addr.add; split <;> simp_all



theorem wpList_append_buf {ops : Array Oper} {rest : List Oper} {o : Oper} {a : Act} {Q : Exit → Act → World → Prop} (hgd : o.guard = none) (s x : Operand)
    (ho : o.op = .call { callee := .builtin .append, args := #[s, x], argTypes := #[89, 89] }) (base : Nat) (w4 : World) (x1 x2 : Int) (fw : Bool)
    (v : Value) (L : List Bf) (hs : a.eval s = v) (hown : (w4.alloc (.cells #[.int .i64 x1, .int .i64 x2, .bool fw] 88)).ownsRow base 88 3 v L.length (cellsB L)) (c : Nat) (hx : a.eval x = .slice (some ⟨w4.heap.size, 0, none⟩) 1 c)
    (hL : L.length ≤ 256) (hb : base ≤ w4.heap.size)
    (h : ∀ (v' : Value) (w' : World), Hid (w'.ownsRow base 88 3 v' (L ++ [Bf.mk x1 x2 fw]).length (cellsB (L ++ [Bf.mk x1 x2 fw]))) → Hid ((w4.alloc (.cells #[.int .i64 x1, .int .i64 x2, .bool fw] 88)).grownBy w' v.ownBlock) → wpList Tryz.prog ops Q rest (a.put o.dst v') w') :
    wpList Tryz.prog ops Q (o :: rest) a (w4.alloc (.cells #[.int .i64 x1, .int .i64 x2, .bool fw] 88)) := by
  obtain ⟨i0, hi, hz0, hz1, hz2⟩ := info51
  refine wpList_append_own_at _ hgd s x 89 ho base 88 i0 _ 3 24 Tryz.underlying89 hi hz0 hz1 hz2 rfl (by decide) v L.length (cellsB L) hs hown ⟨w4.heap.size, 0, none⟩ 1 c [.int .i64 x1, .int .i64 x2, .bool fw] hx rfl (fun j u hj => ?_) (by intro u hu; simp at hu; rcases hu with rfl | rfl | rfl <;> rfl) (by unfold maxLen; omega) (by omega) (by simp; omega) ?_
  · have hj3 : j < 3 := (List.getElem?_eq_some_iff.1 hj).1
    rw [add_addr, Nat.zero_add, new_cell w4 _ _ _ j (by simpa using hj3)]
    rcases (show j = 0 ∨ j = 1 ∨ j = 2 by omega) with rfl | rfl | rfl <;> simpa using hj
  · intro v' w' h1 h2 _ _
    refine h v' w' (hid ?_) (hid h2)
    rw [List.length_append, cellsB_snoc]
    exact h1

theorem owns_lt {w : World} {base s n g : Nat} {e : TypeId} {v : Value} {xs : List Value} (h : w.ownsRow base e s v n xs) (hg : v.ownBlock = some g) : g < w.heap.size ∧ base ≤ g := by
  rcases h.2 with ⟨rfl, _⟩ | ⟨g', cap, cur, rfl, hb, hh, _⟩
  · simp [Value.ownBlock] at hg
  · simp [Value.ownBlock] at hg
    subst hg
    obtain ⟨hlt, _⟩ := Array.getElem?_eq_some_iff.1 hh
    exact ⟨hlt, hb⟩
def ReadPost (w : World) (e : Ending) (w' : World) : Option (List Bf) → Prop
  | none => e = .returned (.tuple #[.slice none 0 0, .int .i64 15])
  | some L => ∃ v, e = .returned (.tuple #[v, .int .i64 0]) ∧ w'.ownsRow w.heap.size 88 3 v L.length (cellsB L)

set_option maxRecDepth 100000 in
set_option maxHeartbeats 2000000 in
theorem readChain_any (w : World) (g base n N po pu Ld Lo Lu hd : Nat) (f : Nat → Int) (h : Mem w g N f) (G : Geo base n N po pu Ld Lo Lu) (hh : hd < 65536) :
    Calls Tryz.prog 87 #[.agg (memC g base n po pu Ld Lo Lu).toArray, .int .i64 hd] w fun e w' => Below w.heap.size w w' ∧ ReadPost w e w' (rch f base n (n + 1) hd []) := by
  obtain ⟨i0, hi, hz0, hz1, hz2⟩ := info51
  have HM := hid h
  have HG := hid G
  have hglt := h.lt
  have gfit := G.fit
  have n2 := G.n2
  have gbig := G.big
  have HI := hid hi
  have HZ := hid (And.intro hz0 (And.intro hz1 hz2))
  have HC0 : Hid ((w.alloc (.cells (memC g base n po pu Ld Lo Lu).toArray 119)).heap[w.heap.size]? = some (.cells (memC g base n po pu Ld Lo Lu).toArray 119 (0, 0))) := hid (MapKept.heap_alloc w _).1
  clear h G hi hz0 hz1 hz2
  generalize hR : rch f base n (n + 1) hd [] = R
  have HR := hid hR
  clear hR
  rw [show (Value.agg (memC g base n po pu Ld Lo Lu).toArray) = .agg #[.int .i64 n, .slice (some ⟨g, base, none⟩) Ld Ld, .slice (some ⟨g, po, none⟩) Lo Lo, .int .i64 n, .int .i64 2, .slice (some ⟨g, pu, none⟩) Lu Lu, .int .i64 n, .int .i64 8] from rfl]
  go_enter Tryz.func87, Tryz.ntmps87
  go_wp2
  go_loopw [6, 7, 8] (fun x6 x7 x8 wr => ∃ (v : Value) (L : List Bf) (p : Nat) (more : Bool), x6 = v ∧ x7 = .int .i64 p ∧ x8 = .bool more ∧ L.length ≤ n ∧ p < 65536 ∧ Below w.heap.size w wr ∧ wr.heap[w.heap.size]? = some (.cells (memC g base n po pu Ld Lo Lu).toArray 119 (0, 0)) ∧ wr.ownsRow (w.heap.size + 1) 88 3 v L.length (cellsB L) ∧ (match more with | true => rch f base n (n + 1 - L.length) p L = R | false => some L = R))
    (fun x6 _ x8 _ => 2 * (n - lenOf x6) + (match x8 with | .bool true => 1 | _ => 0))
  case atStart => exact ⟨_, [], hd, true, rfl, rfl, rfl, Nat.zero_le _, hh, (Below.refl _ _).alloc (Nat.le_refl _) _, HC0.out, ⟨rfl, .inl ⟨rfl, rfl⟩⟩, HR.out⟩
  case round =>
    obtain ⟨v, L, p, more, rfl, rfl, rfl, hL, hp, hbel, hbox, hown, hrch⟩ := hrel
    have HBL := hid hbel
    have HBX := hid hbox
    have HOW := hid hown
    clear hbel hbox hown HC0 HR
    cases more
    · simp only at hrch
      have HRC := hid hrch
      clear hrch
      go_wp2
      go_ret2
      refine ⟨HBL.out, ?_⟩
      rw [← HRC.out]
      exact ⟨_, rfl, owns_mono HOW.out (by omega)⟩
    · simp only at hrch
      obtain ⟨fu, hfu⟩ : ∃ fu, n + 1 - L.length = fu + 1 := ⟨n - L.length, by omega⟩
      rw [hfu, rch] at hrch
      obtain ⟨d0, d1, d2, d3, d4, d5, d6, d7⟩ := box76 HBX.out
      obtain ⟨va, vc, hv⟩ := owns_slice HOW.out
      subst hv
      by_cases hpn : n ≤ p
      · rw [if_pos (.inl hpn)] at hrch
        have g0 : decide ((n : Int) ≤ p) = true := by simp; omega
        have HRC := hid hrch
        clear hrch
        go_wp2
        go_ret2
        refine ⟨HBL.out, ?_⟩
        rw [← HRC.out]
        rfl
      · have g0 : decide ((n : Int) ≤ p) = false := by simp; omega
        by_cases hLn : L.length = n
        · rw [if_pos (.inr hLn)] at hrch
          have g1 : ((L.length : Int) == (n : Int)) = true := by rw [hLn]; simp
          have HRC := hid hrch
          clear hrch hLn
          generalize L.length = len at *
          go_wp2
          go_ret2
          refine ⟨HBL.out, ?_⟩
          rw [← HRC.out]
          rfl
        · have g1 : ((L.length : Int) == (n : Int)) = false := by rw [beq_eq_false_iff_ne]; omega
          rw [if_neg (by omega)] at hrch
          have hmb := HM.out.below HBL.out
          have r1 := rd_bd hmb (base + p * 16) 8 (by omega)
          have r2 := rd_bd hmb (base + p * 16 + 8) 4 (by omega)
          have r3 := rd_bd hmb (base + p * 16 + 12) 2 (by omega)
          have r4 := rd_bd hmb (base + p * 16 + 14) 2 (by omega)
          have HD := hid (descriptor_any wr g base n N po pu Ld Lo Lu p HG.out (by omega))
          have hno : ∀ (wx : World) (a k : Nat), Below w.heap.size w wx → a + k ≤ 16 → Wid k → Calls Tryz.prog 82 #[.slice (some ⟨g, base + p * 16, none⟩) 16 16, .int .i64 a, .int .i64 k] wx fun e w' => e = .returned (.int .u64 (rd f (base + p * 16 + a) k)) ∧ ∃ q, w' = wx.drewN q :=
            fun wx a k hb ha hk => number_any wx g N (base + p * 16) 16 16 a k f (HM.out.below hb) (by omega) (Nat.le_refl _) (by unfold maxLen; omega) ha hk
          have HNO := hid hno
          clear hno hmb
          generalize e1 : rd f (base + p * 16) 8 = x1 at hrch r1
          generalize e2 : rd f (base + p * 16 + 8) 4 = x2 at hrch r2
          generalize e3 : rd f (base + p * 16 + 12) 2 = x3 at hrch r3
          generalize e4 : rd f (base + p * 16 + 14) 2 = x4 at hrch r4
          have E1 := hid e1
          have E2 := hid e2
          have E3 := hid e3
          have E4 := hid e4
          clear e1 e2 e3 e4
          have HLN := hid hLn
          clear hLn
          by_cases hbig : 4611686018427387904 < x1
          · rw [if_pos hbig] at hrch
            have HRC := hid hrch
            clear hrch
            go_wp2_with fail
            refine HD.out.mono ?_
            rintro e w1 ⟨rfl, hb1⟩
            have HB1 := hid (HBL.out.trans (hb1.mono HBL.out.size))
            clear hb1
            go_wp2_with fail
            refine (HNO.out w1 0 8 HB1.out (by omega) (.inr (.inr rfl))).mono ?_
            rintro e w2 ⟨rfl, q, rfl⟩
            rw [Nat.add_zero, E1.out]
            go_wp2_with fail
            refine (HNO.out (w1.drewN q) 12 2 (below_drewN HB1.out q) (by omega) (.inl rfl)).mono ?_
            rintro e w2 ⟨rfl, q2, rfl⟩
            rw [E3.out]
            go_wp2
            go_ret2
            refine ⟨below_drewN HB1.out _, ?_⟩
            rw [← HRC.out]
            rfl
          · rw [if_neg hbig] at hrch
            have hw1 : IntKind.i64.wrap x1 = x1 := IntWalk.i64_in _ (by omega)
            have hw2 : IntKind.i64.wrap x2 = x2 := IntWalk.i64_in _ (by omega)
            have hw4 : IntKind.i64.wrap x4 = x4 := IntWalk.i64_in _ (by omega)
            have hd1 := and_one x3 r3.1 (by omega)
            have hd2 := and_two x3 r3.1 (by omega)
            cases hfn : flagN x3
            · cases hfw : flagW x3
              · rw [if_neg (by simp [hfn])] at hrch
                rw [hfw] at hrch
                have k1 : bits .and .u64 x3 1 = 0 := by rw [hd1]; simp [flagN] at hfn; omega
                have k2 : bits .and .u64 x3 2 = 0 := by rw [hd2]; simp [flagW] at hfw; omega
                have HRC := hid hrch
                clear hrch hd1 hd2 hfn hfw
                go_wp2_with fail
                refine HD.out.mono ?_
                rintro e w1 ⟨rfl, hb1⟩
                have HB1 := hid (HBL.out.trans (hb1.mono HBL.out.size))
                have HOW1 := hid (owns_below HOW.out hb1)
                have HBX1 := hid ((hb1.block _ (Array.getElem?_eq_some_iff.1 HBX.out).1).trans HBX.out)
                clear hb1
                go_wp2_with fail
                refine (HNO.out w1 0 8 HB1.out (by omega) (.inr (.inr rfl))).mono ?_
                rintro e w2 ⟨rfl, q, rfl⟩
                rw [Nat.add_zero, E1.out]
                go_wp2_with fail
                refine (HNO.out (w1.drewN q) 12 2 (below_drewN HB1.out q) (by omega) (.inl rfl)).mono ?_
                rintro e w2 ⟨rfl, q2, rfl⟩
                rw [E3.out]
                go_wp2_with fail
                refine (HNO.out _ 8 4 (below_drewN HB1.out _) (by omega) (.inr (.inl rfl))).mono ?_
                rintro e w2 ⟨rfl, q3, rfl⟩
                rw [E2.out]
                have hb4 : Below w.heap.size w ((w1.drewN (q + q2)).drewN q3) := below_drewN (below_drewN HB1.out _) _
                have ho4 : ((w1.drewN (q + q2)).drewN q3).ownsRow (w.heap.size + 1) 88 3 (.slice va L.length vc) L.length (cellsB L) := HOW1.out
                have hx4 : ((w1.drewN (q + q2)).drewN q3).heap[w.heap.size]? = some (.cells (memC g base n po pu Ld Lo Lu).toArray 119 (0, 0)) := HBX1.out
                generalize (w1.drewN (q + q2)).drewN q3 = w4 at *
                have hs4 : w.heap.size < w4.heap.size := (Array.getElem?_eq_some_iff.1 hx4).1
                have ho5 := owns_below ho4 ((Below.refl _ w4).alloc (Nat.le_refl _) (.cells #[.int .i64 x1, .int .i64 x2, .bool false] 88))
                have hb5 : Below w.heap.size w (w4.alloc (.cells #[.int .i64 x1, .int .i64 x2, .bool false] 88)) := hb4.alloc (by omega) _
                have HB4 := hid hb4
                have HB5 := hid hb5
                have HX4 := hid hx4
                have HO5 := hid ho5
                clear hb4 ho4 hx4 ho5 hb5 HOW1 HBX1
                go_wp2_with (at_builtin; refine wpList_append_buf rfl (.tmp 34) (.tmp 44) rfl (w.heap.size + 1) w4 x1 x2 false _ L rfl HO5.out _ rfl (by omega) (by omega) ?_; intro v6 w6 hown6 hgrow6)
                have hb6 : Below w.heap.size w w6 := HB5.out.grown hgrow6.out HB5.out.size (fun k hk => by have := (owns_lt HO5.out hk).2; omega)
                have hx6 : w6.heap[w.heap.size]? = some (.cells (memC g base n po pu Ld Lo Lu).toArray 119 (0, 0)) := (hgrow6.out.block _ (by simp; omega) (fun hk => by have := (owns_lt HO5.out hk.symm).2; omega)).trans ((Below.heap_alloc w4 _ _ hs4).trans HX4.out)
                have HB6 := hid hb6
                have HX6 := hid hx6
                clear hb6 hx6 hgrow6
                go_wp2_with fail
                refine (HNO.out w6 14 2 HB6.out (by omega) (.inl rfl)).mono ?_
                rintro e w7 ⟨rfl, q4, rfl⟩
                rw [E4.out]
                go_wp2
                go_roundw
                case rel =>
                  refine ⟨v6, L ++ [Bf.mk x1 x2 false], x4.toNat, false, rfl, by rw [Int.toNat_of_nonneg r4.1], rfl, ?_, by omega, below_drewN HB6.out _, HX6.out, owns_below hown6.out (below_drewN (Below.refl _ _) _), ?_⟩
                  · rw [List.length_append]; simp; have := HLN.out; omega
                  · show _ = R
                    rw [← HRC.out]
                    skip
                case measure =>
                  obtain ⟨v6a, v6c, rfl⟩ := owns_slice hown6.out
                  have := HLN.out
                  simp [lenOf]
                  omega
              · rw [if_neg (by simp [hfn])] at hrch
                rw [hfw] at hrch
                have k1 : bits .and .u64 x3 1 = 0 := by rw [hd1]; simp [flagN] at hfn; omega
                have k2 : bits .and .u64 x3 2 = 2 := by rw [hd2]; simp [flagW] at hfw; omega
                have HRC := hid hrch
                clear hrch hd1 hd2 hfn hfw
                go_wp2_with fail
                refine HD.out.mono ?_
                rintro e w1 ⟨rfl, hb1⟩
                have HB1 := hid (HBL.out.trans (hb1.mono HBL.out.size))
                have HOW1 := hid (owns_below HOW.out hb1)
                have HBX1 := hid ((hb1.block _ (Array.getElem?_eq_some_iff.1 HBX.out).1).trans HBX.out)
                clear hb1
                go_wp2_with fail
                refine (HNO.out w1 0 8 HB1.out (by omega) (.inr (.inr rfl))).mono ?_
                rintro e w2 ⟨rfl, q, rfl⟩
                rw [Nat.add_zero, E1.out]
                go_wp2_with fail
                refine (HNO.out (w1.drewN q) 12 2 (below_drewN HB1.out q) (by omega) (.inl rfl)).mono ?_
                rintro e w2 ⟨rfl, q2, rfl⟩
                rw [E3.out]
                go_wp2_with fail
                refine (HNO.out _ 8 4 (below_drewN HB1.out _) (by omega) (.inr (.inl rfl))).mono ?_
                rintro e w2 ⟨rfl, q3, rfl⟩
                rw [E2.out]
                have hb4 : Below w.heap.size w ((w1.drewN (q + q2)).drewN q3) := below_drewN (below_drewN HB1.out _) _
                have ho4 : ((w1.drewN (q + q2)).drewN q3).ownsRow (w.heap.size + 1) 88 3 (.slice va L.length vc) L.length (cellsB L) := HOW1.out
                have hx4 : ((w1.drewN (q + q2)).drewN q3).heap[w.heap.size]? = some (.cells (memC g base n po pu Ld Lo Lu).toArray 119 (0, 0)) := HBX1.out
                generalize (w1.drewN (q + q2)).drewN q3 = w4 at *
                have hs4 : w.heap.size < w4.heap.size := (Array.getElem?_eq_some_iff.1 hx4).1
                have ho5 := owns_below ho4 ((Below.refl _ w4).alloc (Nat.le_refl _) (.cells #[.int .i64 x1, .int .i64 x2, .bool true] 88))
                have hb5 : Below w.heap.size w (w4.alloc (.cells #[.int .i64 x1, .int .i64 x2, .bool true] 88)) := hb4.alloc (by omega) _
                have HB4 := hid hb4
                have HB5 := hid hb5
                have HX4 := hid hx4
                have HO5 := hid ho5
                clear hb4 ho4 hx4 ho5 hb5 HOW1 HBX1
                go_wp2_with (at_builtin; refine wpList_append_buf rfl (.tmp 34) (.tmp 44) rfl (w.heap.size + 1) w4 x1 x2 true _ L rfl HO5.out _ rfl (by omega) (by omega) ?_; intro v6 w6 hown6 hgrow6)
                have hb6 : Below w.heap.size w w6 := HB5.out.grown hgrow6.out HB5.out.size (fun k hk => by have := (owns_lt HO5.out hk).2; omega)
                have hx6 : w6.heap[w.heap.size]? = some (.cells (memC g base n po pu Ld Lo Lu).toArray 119 (0, 0)) := (hgrow6.out.block _ (by simp; omega) (fun hk => by have := (owns_lt HO5.out hk.symm).2; omega)).trans ((Below.heap_alloc w4 _ _ hs4).trans HX4.out)
                have HB6 := hid hb6
                have HX6 := hid hx6
                clear hb6 hx6 hgrow6
                go_wp2_with fail
                refine (HNO.out w6 14 2 HB6.out (by omega) (.inl rfl)).mono ?_
                rintro e w7 ⟨rfl, q4, rfl⟩
                rw [E4.out]
                go_wp2
                go_roundw
                case rel =>
                  refine ⟨v6, L ++ [Bf.mk x1 x2 true], x4.toNat, false, rfl, by rw [Int.toNat_of_nonneg r4.1], rfl, ?_, by omega, below_drewN HB6.out _, HX6.out, owns_below hown6.out (below_drewN (Below.refl _ _) _), ?_⟩
                  · rw [List.length_append]; simp; have := HLN.out; omega
                  · show _ = R
                    rw [← HRC.out]
                    skip
                case measure =>
                  obtain ⟨v6a, v6c, rfl⟩ := owns_slice hown6.out
                  have := HLN.out
                  simp [lenOf]
                  omega
            · cases hfw : flagW x3
              · rw [if_pos (by simp [hfn])] at hrch
                rw [hfw] at hrch
                have k1 : bits .and .u64 x3 1 = 1 := by rw [hd1]; simp [flagN] at hfn; omega
                have k2 : bits .and .u64 x3 2 = 0 := by rw [hd2]; simp [flagW] at hfw; omega
                have HRC := hid hrch
                clear hrch hd1 hd2 hfn hfw
                go_wp2_with fail
                refine HD.out.mono ?_
                rintro e w1 ⟨rfl, hb1⟩
                have HB1 := hid (HBL.out.trans (hb1.mono HBL.out.size))
                have HOW1 := hid (owns_below HOW.out hb1)
                have HBX1 := hid ((hb1.block _ (Array.getElem?_eq_some_iff.1 HBX.out).1).trans HBX.out)
                clear hb1
                go_wp2_with fail
                refine (HNO.out w1 0 8 HB1.out (by omega) (.inr (.inr rfl))).mono ?_
                rintro e w2 ⟨rfl, q, rfl⟩
                rw [Nat.add_zero, E1.out]
                go_wp2_with fail
                refine (HNO.out (w1.drewN q) 12 2 (below_drewN HB1.out q) (by omega) (.inl rfl)).mono ?_
                rintro e w2 ⟨rfl, q2, rfl⟩
                rw [E3.out]
                go_wp2_with fail
                refine (HNO.out _ 8 4 (below_drewN HB1.out _) (by omega) (.inr (.inl rfl))).mono ?_
                rintro e w2 ⟨rfl, q3, rfl⟩
                rw [E2.out]
                have hb4 : Below w.heap.size w ((w1.drewN (q + q2)).drewN q3) := below_drewN (below_drewN HB1.out _) _
                have ho4 : ((w1.drewN (q + q2)).drewN q3).ownsRow (w.heap.size + 1) 88 3 (.slice va L.length vc) L.length (cellsB L) := HOW1.out
                have hx4 : ((w1.drewN (q + q2)).drewN q3).heap[w.heap.size]? = some (.cells (memC g base n po pu Ld Lo Lu).toArray 119 (0, 0)) := HBX1.out
                generalize (w1.drewN (q + q2)).drewN q3 = w4 at *
                have hs4 : w.heap.size < w4.heap.size := (Array.getElem?_eq_some_iff.1 hx4).1
                have ho5 := owns_below ho4 ((Below.refl _ w4).alloc (Nat.le_refl _) (.cells #[.int .i64 x1, .int .i64 x2, .bool false] 88))
                have hb5 : Below w.heap.size w (w4.alloc (.cells #[.int .i64 x1, .int .i64 x2, .bool false] 88)) := hb4.alloc (by omega) _
                have HB4 := hid hb4
                have HB5 := hid hb5
                have HX4 := hid hx4
                have HO5 := hid ho5
                clear hb4 ho4 hx4 ho5 hb5 HOW1 HBX1
                go_wp2_with (at_builtin; refine wpList_append_buf rfl (.tmp 34) (.tmp 44) rfl (w.heap.size + 1) w4 x1 x2 false _ L rfl HO5.out _ rfl (by omega) (by omega) ?_; intro v6 w6 hown6 hgrow6)
                have hb6 : Below w.heap.size w w6 := HB5.out.grown hgrow6.out HB5.out.size (fun k hk => by have := (owns_lt HO5.out hk).2; omega)
                have hx6 : w6.heap[w.heap.size]? = some (.cells (memC g base n po pu Ld Lo Lu).toArray 119 (0, 0)) := (hgrow6.out.block _ (by simp; omega) (fun hk => by have := (owns_lt HO5.out hk.symm).2; omega)).trans ((Below.heap_alloc w4 _ _ hs4).trans HX4.out)
                have HB6 := hid hb6
                have HX6 := hid hx6
                clear hb6 hx6 hgrow6
                go_wp2_with fail
                refine (HNO.out w6 14 2 HB6.out (by omega) (.inl rfl)).mono ?_
                rintro e w7 ⟨rfl, q4, rfl⟩
                rw [E4.out]
                go_wp2
                go_roundw
                case rel =>
                  refine ⟨v6, L ++ [Bf.mk x1 x2 false], x4.toNat, true, rfl, by rw [Int.toNat_of_nonneg r4.1], rfl, ?_, by omega, below_drewN HB6.out _, HX6.out, owns_below hown6.out (below_drewN (Below.refl _ _) _), ?_⟩
                  · rw [List.length_append]; simp; have := HLN.out; omega
                  · show _ = R
                    rw [← HRC.out]
                    rw [show n + 1 - (L ++ [Bf.mk x1 x2 false]).length = fu by rw [List.length_append]; simp; omega]
                case measure =>
                  obtain ⟨v6a, v6c, rfl⟩ := owns_slice hown6.out
                  have := HLN.out
                  simp [lenOf]
                  omega
              · rw [if_pos (by simp [hfn])] at hrch
                rw [hfw] at hrch
                have k1 : bits .and .u64 x3 1 = 1 := by rw [hd1]; simp [flagN] at hfn; omega
                have k2 : bits .and .u64 x3 2 = 2 := by rw [hd2]; simp [flagW] at hfw; omega
                have HRC := hid hrch
                clear hrch hd1 hd2 hfn hfw
                go_wp2_with fail
                refine HD.out.mono ?_
                rintro e w1 ⟨rfl, hb1⟩
                have HB1 := hid (HBL.out.trans (hb1.mono HBL.out.size))
                have HOW1 := hid (owns_below HOW.out hb1)
                have HBX1 := hid ((hb1.block _ (Array.getElem?_eq_some_iff.1 HBX.out).1).trans HBX.out)
                clear hb1
                go_wp2_with fail
                refine (HNO.out w1 0 8 HB1.out (by omega) (.inr (.inr rfl))).mono ?_
                rintro e w2 ⟨rfl, q, rfl⟩
                rw [Nat.add_zero, E1.out]
                go_wp2_with fail
                refine (HNO.out (w1.drewN q) 12 2 (below_drewN HB1.out q) (by omega) (.inl rfl)).mono ?_
                rintro e w2 ⟨rfl, q2, rfl⟩
                rw [E3.out]
                go_wp2_with fail
                refine (HNO.out _ 8 4 (below_drewN HB1.out _) (by omega) (.inr (.inl rfl))).mono ?_
                rintro e w2 ⟨rfl, q3, rfl⟩
                rw [E2.out]
                have hb4 : Below w.heap.size w ((w1.drewN (q + q2)).drewN q3) := below_drewN (below_drewN HB1.out _) _
                have ho4 : ((w1.drewN (q + q2)).drewN q3).ownsRow (w.heap.size + 1) 88 3 (.slice va L.length vc) L.length (cellsB L) := HOW1.out
                have hx4 : ((w1.drewN (q + q2)).drewN q3).heap[w.heap.size]? = some (.cells (memC g base n po pu Ld Lo Lu).toArray 119 (0, 0)) := HBX1.out
                generalize (w1.drewN (q + q2)).drewN q3 = w4 at *
                have hs4 : w.heap.size < w4.heap.size := (Array.getElem?_eq_some_iff.1 hx4).1
                have ho5 := owns_below ho4 ((Below.refl _ w4).alloc (Nat.le_refl _) (.cells #[.int .i64 x1, .int .i64 x2, .bool true] 88))
                have hb5 : Below w.heap.size w (w4.alloc (.cells #[.int .i64 x1, .int .i64 x2, .bool true] 88)) := hb4.alloc (by omega) _
                have HB4 := hid hb4
                have HB5 := hid hb5
                have HX4 := hid hx4
                have HO5 := hid ho5
                clear hb4 ho4 hx4 ho5 hb5 HOW1 HBX1
                go_wp2_with (at_builtin; refine wpList_append_buf rfl (.tmp 34) (.tmp 44) rfl (w.heap.size + 1) w4 x1 x2 true _ L rfl HO5.out _ rfl (by omega) (by omega) ?_; intro v6 w6 hown6 hgrow6)
                have hb6 : Below w.heap.size w w6 := HB5.out.grown hgrow6.out HB5.out.size (fun k hk => by have := (owns_lt HO5.out hk).2; omega)
                have hx6 : w6.heap[w.heap.size]? = some (.cells (memC g base n po pu Ld Lo Lu).toArray 119 (0, 0)) := (hgrow6.out.block _ (by simp; omega) (fun hk => by have := (owns_lt HO5.out hk.symm).2; omega)).trans ((Below.heap_alloc w4 _ _ hs4).trans HX4.out)
                have HB6 := hid hb6
                have HX6 := hid hx6
                clear hb6 hx6 hgrow6
                go_wp2_with fail
                refine (HNO.out w6 14 2 HB6.out (by omega) (.inl rfl)).mono ?_
                rintro e w7 ⟨rfl, q4, rfl⟩
                rw [E4.out]
                go_wp2
                go_roundw
                case rel =>
                  refine ⟨v6, L ++ [Bf.mk x1 x2 true], x4.toNat, true, rfl, by rw [Int.toNat_of_nonneg r4.1], rfl, ?_, by omega, below_drewN HB6.out _, HX6.out, owns_below hown6.out (below_drewN (Below.refl _ _) _), ?_⟩
                  · rw [List.length_append]; simp; have := HLN.out; omega
                  · show _ = R
                    rw [← HRC.out]
                    rw [show n + 1 - (L ++ [Bf.mk x1 x2 true]).length = fu by rw [List.length_append]; simp; omega]
                case measure =>
                  obtain ⟨v6a, v6c, rfl⟩ := owns_slice hown6.out
                  have := HLN.out
                  simp [lenOf]
                  omega
end Go.Proofs.YtdjghkngiicncaaGreat
