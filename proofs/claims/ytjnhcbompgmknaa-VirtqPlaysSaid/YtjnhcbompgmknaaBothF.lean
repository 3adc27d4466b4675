/- One call of both sides: taken. -/
import Derived.Test.YtjnhcbompgmknaaBothE
namespace Go.Proofs.Ytjnhcbompgmknaa
open Go.RowKit

theorem rch_len (f : Nat → Int) (base n : Nat) : ∀ (fuel p : Nat) (L R : List Bf), rch f base n fuel p L = some R → L.length ≤ n → R.length ≤ n := by
  intro fuel
  induction fuel with
  | zero => intro p L R h; simp [rch] at h
  | succ fuel ih =>
    intro p L R h hl
    rw [rch] at h
    by_cases h1 : n ≤ p ∨ L.length = n
    · rw [if_pos h1] at h; cases h
    · rw [if_neg h1] at h
      have h2 : L.length + 1 ≤ n := by omega
      by_cases h3 : 4611686018427387904 < rd f (base + p * 16) 8
      · rw [if_pos h3] at h; cases h
      · rw [if_neg h3] at h
        by_cases h4 : flagN (rd f (base + p * 16 + 12) 2) = true
        · rw [if_pos h4] at h
          exact ih _ _ _ h (by rw [List.length_append]; exact h2)
        · rw [if_neg h4] at h
          simp only [Option.some.injEq] at h
          rw [← h, List.length_append]
          exact h2
theorem takeR_len (q : Qu) (S : Sd) : (takeR q S).2.1.length ≤ 256 := by
  have hn := q.geo.n2
  unfold takeR
  split
  · simp
  · split
    · simp
    · rename_i L h
      exact Nat.le_trans (rch_len _ _ _ _ _ _ _ h (by simp)) hn
theorem wpList_append_zb {ops : Array Oper} {rest : List Oper} {o : Oper} {a : Act} {Q : Exit → Act → World → Prop} (hgd : o.guard = none) (s x : Operand)
    (ho : o.op = .call { callee := .builtin .append, args := #[s, x], argTypes := #[37, 37] }) (base : Nat) (w4 : World) (k : Int)
    (v : Value) (L : List Int) (hs : a.eval s = v) (hown : (w4.alloc (.cells #[.int .i64 k] 3)).ownsRow base 3 1 v L.length (L.map encZ)) (c : Nat) (hx : a.eval x = .slice (some ⟨w4.heap.size, 0, none⟩) 1 c)
    (hL : L.length ≤ 65536) (hb : base ≤ w4.heap.size)
    (h : ∀ (v' : Value) (w' : World), Hid (w'.ownsRow base 3 1 v' (L ++ [k]).length ((L ++ [k]).map encZ)) → Hid ((w4.alloc (.cells #[.int .i64 k] 3)).grownBy w' v.ownBlock) → Hid (v'.ownBlock = v.ownBlock ∨ v'.ownBlock = some (w4.alloc (.cells #[.int .i64 k] 3)).heap.size) → wpList Try.prog ops Q rest (a.put o.dst v') w') :
    wpList Try.prog ops Q (o :: rest) a (w4.alloc (.cells #[.int .i64 k] 3)) := by
  obtain ⟨i0, hi, hz0, hz1, hz2⟩ := info3b
  refine wpList_append_own_at _ hgd s x 37 ho base 3 i0 _ 1 8 Try.underlying37 hi hz0 hz1 hz2 rfl (by decide) v L.length (L.map encZ) hs hown ⟨w4.heap.size, 0, none⟩ 1 c [.int .i64 k] hx rfl (fun j u hj => ?_) (by intro u hu; simp at hu; subst hu; rfl) (by unfold maxLen; omega) (by omega) (by simp; omega) ?_
  · have hj1 : j < 1 := (List.getElem?_eq_some_iff.1 hj).1
    rw [add_addr, Nat.zero_add, new_cell w4 _ _ _ j (by simpa using hj1)]
    obtain rfl : j = 0 := by omega
    simpa using hj
  · intro v' w' h1 h2 _ h4
    refine h v' w' (hid ?_) (hid h2) (hid h4)
    rw [List.length_append, List.map_append]
    exact h1

/-- What a call leaves that makes blocks of nobody's. -/
def Wide (Z : Nat → Prop) (w0 w w' : World) (H : Hd) (c : Nat) (S S2 : Sd) (T : List Int) : Prop := Both (fun b => Z b ∨ (w.heap.size ≤ b ∧ b < w'.heap.size)) w0 w' H c S S2 T ∧ ∀ b, Z b → w'.heap[b]? = w.heap[b]?
section
variable {w0 w w' : World} {H : Hd} {c : Nat} {S S2 : Sd} {T : List Int} {vt : Value} {al ar : Nat → Prop} {lab : Nat → Nat} {Z : Nat → Prop}
theorem Bo.packW (_ : Bo w0 w H c S S2 T vt al ar lab) (hZ : ∀ b, Z b → b < w.heap.size ∧ lab b = 0) {P : Nat → Prop} (hmo : Mods P w w') (hP0 : ∀ b, P b → lab b ≠ 0)
    {c' : Nat} {S' S2' : Sd} {T' : List Int} {vt' : Value} {al' ar' : Nat → Prop} (h' : Bo w0 w' H c' S' S2' T' vt' al' ar' (nl w lab 0)) : Wide Z w0 w w' H c' S' S2' T' := by
  refine ⟨⟨vt', al', ar', _, h', fun b hb => ?_⟩, fun b hb => hmo.block b (hZ b hb).1 (fun e => hP0 b e (hZ b hb).2)⟩
  rcases hb with hb | ⟨h1, h2⟩
  · exact ⟨Nat.lt_of_lt_of_le (hZ b hb).1 hmo.size, by rw [nl_old (hZ b hb).1]; exact (hZ b hb).2⟩
  · exact ⟨h2, nl_new h1⟩
theorem Bo.toDevW (h : Bo w0 w H c S S2 T vt al ar lab) (hZ : ∀ b, Z b → b < w.heap.size ∧ lab b = 0) {o' u' : Nat} {f' : Nat → Int} (hmo : Mods (fun b => b = H.pv ∨ b = H.q.g) w w') (hd : Dev w' H.pv H.q o' u') (hm : Mem w' H.q.g H.q.N f') : Wide Z w0 w w' H c ⟨S.A, f', o', u'⟩ S2 T := by
  have hP : ∀ b, (b = H.pv ∨ b = H.q.g) → lab b = 2 ∨ lab b = 3 := fun b e => e.imp (fun e => by rw [e]; exact h.l2) (fun e => by rw [e]; exact h.l3)
  exact h.packW hZ hmo (fun b e => by have := hP b e; omega) (h.gen hmo (fun b e => by have := hP b e; omega) 0 (h.keepBox hmo (fun b e => by have := hP b e; omega)) (h.keepDrv hmo (fun b e => by have := hP b e; omega)) hd hm (h.keepRdrv hmo (fun b e => by have := hP b e; omega)) (h.keepRdev hmo (fun b e => by have := hP b e; omega)) (h.keepRmem hmo (fun b e => by have := hP b e; omega)) (h.keepTk hmo (fun b e => by have := hP b e; omega)) (fun b hb => .inl hb) (fun b hb => .inl hb) (fun b hb => .inl hb))
theorem Bo.toRdevW (h : Bo w0 w H c S S2 T vt al ar lab) (hZ : ∀ b, Z b → b < w.heap.size ∧ lab b = 0) {o' u' : Nat} {f' : Nat → Int} (hmo : Mods (fun b => b = H.py ∨ b = H.g) w w') (hd : RDev w' H.py H.g H.q.N H.q.N H.q.base H.q.n o' u') (hm : Mem w' H.g H.q.N f') : Wide Z w0 w w' H c S ⟨S2.A, f', o', u'⟩ T := by
  have hP : ∀ b, (b = H.py ∨ b = H.g) → lab b = 5 ∨ lab b = 6 := fun b e => e.imp (fun e => by rw [e]; exact h.l5) (fun e => by rw [e]; exact h.l6)
  exact h.packW hZ hmo (fun b e => by have := hP b e; omega) (h.gen hmo (fun b e => by have := hP b e; omega) 0 (h.keepBox hmo (fun b e => by have := hP b e; omega)) (h.keepDrv hmo (fun b e => by have := hP b e; omega)) (h.keepDev hmo (fun b e => by have := hP b e; omega)) (h.keepMem hmo (fun b e => by have := hP b e; omega)) (h.keepRdrv hmo (fun b e => by have := hP b e; omega)) hd hm (h.keepTk hmo (fun b e => by have := hP b e; omega)) (fun b hb => .inl hb) (fun b hb => .inl hb) (fun b hb => .inl hb))
end
section
variable {w0 w : World} {H : Hd} {c : Nat} {S S2 : Sd} {T : List Int} {Z : Nat → Prop}
theorem Both.take1W (h : Both Z w0 w H c S S2 T) : Calls Try.prog 21 #[.pointer (some ⟨H.pv, 0, none⟩)] w fun e w' => ∃ v, e = .returned (.tuple #[.int .i64 (takeR H.q S).1, v, .int .i64 (takeR H.q S).2.2]) ∧ w'.ownsRow w.heap.size 51 3 v (takeR H.q S).2.1.length (cellsB (takeR H.q S).2.1) ∧ Wide Z w0 w w' H c (takeS H.q S) S2 T ∧ Mods (fun b => b = H.pv) w w' := by
  obtain ⟨vt, al, ar, lab, b, hZ⟩ := h
  have hne : H.q.g ≠ H.pv := fun e => b.dev.2.2.2 e.symm
  refine (Take_any w H.pv H.q S.o S.u S.f b.dev b.mem).mono ?_
  rintro e w' ⟨hmo, hp⟩
  have hmo2 : Mods (fun b => b = H.pv ∨ b = H.q.g) w w' := hmo.weak (fun b e => .inl (.inl e))
  have hm := b.mem.mods hmo hne
  rcases hp with ⟨h1, rfl, hd⟩ | ⟨h1, hd, hx, h2, _, hr⟩
  · refine ⟨.slice none 0 0, ?_, ?_, ?_, hmo⟩
    · simp [takeR, h1]
    · rw [show (takeR H.q S).2.1 = [] by simp [takeR, h1]]
      exact ⟨rfl, .inl ⟨rfl, rfl⟩⟩
    · rw [show takeS H.q S = S by simp [takeS, h1]]
      exact b.toDevW hZ hmo2 hd hm
  · have hB := b.toDevW hZ hmo2 hd hm
    have hS : takeS H.q S = { S with o := (S.o + 1) % 65536 } := by simp [takeS, h1]
    rw [hS]
    have hx2 : (rd S.f (H.q.po + (4 + S.o % H.q.n * 2)) 2).toNat = hx := by rw [h2]; exact Int.toNat_natCast hx
    rcases hr with ⟨h3, rfl⟩ | ⟨L, v, h3, rfl, hown⟩
    · have ht : takeR H.q S = (0, [], 15) := by simp [takeR, h1, hx2, h3]
      rw [ht]
      exact ⟨.slice none 0 0, rfl, ⟨rfl, .inl ⟨rfl, rfl⟩⟩, hB, hmo⟩
    · have ht : takeR H.q S = ((hx : Int), L, 0) := by simp [takeR, h1, hx2, h3]
      rw [ht]
      exact ⟨v, rfl, hown, hB, hmo⟩
theorem Both.take2W (h : Both Z w0 w H c S S2 T) : Calls Try.prog 29 #[.pointer (some ⟨H.py, 0, none⟩)] w fun e w' => ∃ v, e = .returned (.tuple #[.int .i64 (takeR H.q S2).1, v, .int .i64 (takeR H.q S2).2.2]) ∧ w'.ownsRow w.heap.size 51 3 v (takeR H.q S2).2.1.length (cellsB (takeR H.q S2).2.1) ∧ Wide Z w0 w w' H c S (takeS H.q S2) T ∧ Mods (fun b => b = H.py) w w' := by
  obtain ⟨vt, al, ar, lab, b, hZ⟩ := h
  have hne : H.g ≠ H.py := fun e => b.rdev.2.2.2 e.symm
  have epo := H.q.geo.epo
  refine (refTake_any w H.py H.g H.q.N H.q.N H.q.base H.q.n H.q.N S2.o S2.u S2.f b.rdev b.rmem H.q.rgeo).mono ?_
  rintro e w' ⟨hmo, hp⟩
  have hmo2 : Mods (fun b => b = H.py ∨ b = H.g) w w' := hmo.weak (fun b e => .inl (.inl e))
  have hm := b.rmem.mods hmo hne
  unfold RTakePost at hp
  rw [← epo] at hp
  rcases hp with ⟨h1, rfl, hd⟩ | ⟨h1, hd, hx, h2, _, hr⟩
  · refine ⟨.slice none 0 0, ?_, ?_, ?_, hmo⟩
    · simp [takeR, h1]
    · rw [show (takeR H.q S2).2.1 = [] by simp [takeR, h1]]
      exact ⟨rfl, .inl ⟨rfl, rfl⟩⟩
    · rw [show takeS H.q S2 = S2 by simp [takeS, h1]]
      exact b.toRdevW hZ hmo2 hd hm
  · have hB := b.toRdevW hZ hmo2 hd hm
    have hS : takeS H.q S2 = { S2 with o := (S2.o + 1) % 65536 } := by simp [takeS, h1]
    rw [hS]
    have hx2 : (rd S2.f (H.q.po + (4 + S2.o % H.q.n * 2)) 2).toNat = hx := by rw [h2]; exact Int.toNat_natCast hx
    rcases hr with ⟨h3, rfl⟩ | ⟨L, v, h3, rfl, hown⟩
    · have ht : takeR H.q S2 = (0, [], 15) := by simp [takeR, h1, hx2, h3]
      rw [ht]
      exact ⟨.slice none 0 0, rfl, ⟨rfl, .inl ⟨rfl, rfl⟩⟩, hB, hmo⟩
    · have ht : takeR H.q S2 = ((hx : Int), L, 0) := by simp [takeR, h1, hx2, h3]
      rw [ht]
      exact ⟨v, rfl, hown, hB, hmo⟩

set_option maxRecDepth 100000 in
set_option maxHeartbeats 4000000 in
theorem do_take (h : Both (Z0 w0) w0 w H c S S T) (hTl : T.length ≤ 65000) (n m : Int) (va : Option Addr) (vn vc : Nat) :
    Calls Try.prog 11 #[.pointer (some ⟨H.pb, 0, none⟩), .agg #[.int .i64 2, .int .i64 n, .int .i64 m, .slice va vn vc]] w fun e w' => e = .returned (.bool true) ∧ ∃ S' T', Both (Z0 w0) w0 w' H (c + 1) S' S' T' ∧ T'.length ≤ T.length + 1 := by
  have h1 := h.below ((Below.refl _ w).alloc (Nat.le_refl _) (.cells #[.int .i64 2, .int .i64 n, .int .i64 m, .slice va vn vc] 30))
  have hc1 := h1.take1W
  obtain ⟨d0, d1, d2, d3, d4, d5⟩ := h1.cells
  have HC1 := hid hc1
  clear h h1 hc1
  go_enter Try.func11, Try.ntmps11
  go_wp2_with fail
  refine HC1.out.mono ?_
  generalize w.alloc (.cells #[.int .i64 2, .int .i64 n, .int .i64 m, .slice va vn vc] 30) = w1 at *
  have hRL := takeR_len H.q S
  generalize hR : takeR H.q S = R at *
  generalize hS : takeS H.q S = S' at *
  obtain ⟨r1, L, r3⟩ := R
  simp only at hRL ⊢
  have HR := hid hR
  have HS := hid hS
  clear hR hS
  rintro e w2 ⟨v1, rfl, hown1, hg2, _⟩
  obtain ⟨d0, d1, d2, d3, d4, d5⟩ := hg2.1.cells
  have hc2 := hg2.1.take2W
  rw [HR.out, HS.out] at hc2
  simp only at hc2
  have HC2 := hid hc2
  obtain ⟨a1, c1, hv1, hB1, hk1⟩ := owns_cbufs hown1
  subst hv1
  have HB1 := hid hB1
  have HK1 := hid hk1
  clear hc2 hown1 hB1 hk1 hg2 HC1 HR HS
  go_wp2_with fail
  refine HC2.out.mono ?_
  rintro e w3 ⟨v2, rfl, hown2, hg3, _⟩
  obtain ⟨a2, c2, hv2, hB2, hk2⟩ := owns_cbufs hown2
  subst hv2
  have HB13 : Hid (CBufs w3 a1 L) := hid (HB1.out.keep (fun hp b off e => hg3.2 b (.inr (HK1.out hp b off e))))
  have HB23 := hid hB2
  have HK2 := hid hk2
  have HG3 := hid hg3
  obtain ⟨d0, d1, d2, d3, d4, d5⟩ := hg3.1.cells
  have hrr : (r1 == r1) = true := by simp
  have hrr3 : (r3 == r3) = true := by simp
  clear HC2 HB1 hown2 hB2 hk2 hg3
  by_cases h3 : r3 = 0
  · obtain ⟨vt, al, ar, lab, b, hZ⟩ := HG3.out.1
    obtain ⟨_, _, _, _, _, _, d6, fz6⟩ := b.cells
    obtain ⟨ta, tc, hvt⟩ := owns_slice b.tk
    subst hvt
    have HBo := hid b
    have HZ := hid hZ
    have hpbl := b.pblt
    have hbe5 : Below w3.heap.size w3 (w3.alloc (.cells #[.int .i64 r1] 3)) := (Below.refl _ w3).alloc (Nat.le_refl _) _
    have HO5 := hid (owns_below b.tk hbe5)
    have HBX5 : Hid ((w3.alloc (.cells #[.int .i64 r1] 3)).heap[H.pb]? = some (.cells (boxV H (.slice ta T.length tc)) 39 (0, 0))) := hid ((hbe5.block H.pb hpbl).trans b.box)
    have HNE : Hid (∀ x, (Value.slice ta T.length tc).ownBlock = some x → x ≠ H.pb) := hid (fun x hx e => by have h1 := b.l8 x hx; have h2 := b.l7; rw [e] at h1; omega)
    have hTl2 : T.length ≤ 65536 := by omega
    have hs5 : (w3.alloc (.cells #[.int .i64 r1] 3)).heap.size = w3.heap.size + 1 := by simp
    have HS5 := hid hs5
    have hr30 : (r3 == 0) = true := by rw [h3]; rfl
    clear b hZ hbe5 hs5
    go_wp2_with ((at_builtin; refine wpList_append_zb rfl (.tmp 90) (.tmp 92) rfl 0 w3 r1 _ T rfl HO5.out _ rfl hTl2 (Nat.zero_le _) ?_; intro v6 w6 hown6 hgrow6 hob6; have hbx6 : w6.heap[H.pb]? = some (.cells (boxV H (.slice ta T.length tc)) 39 (0, 0)) := (hgrow6.out.block H.pb (by rw [HS5.out]; omega) (fun e => HNE.out _ e.symm rfl)).trans HBX5.out; obtain ⟨va6, vc6, hv6⟩ := owns_slice hown6.out; subst hv6; have HBX6 := hid hbx6; obtain ⟨y6, z6⟩ : w6.cell? ⟨H.pb, 6, none⟩ = some (.slice ta T.length tc) ∧ w6.frozen? ⟨H.pb, 6, none⟩ = false := (by unfold World.cell? World.frozen?; simp [hbx6, boxV]); clear hbx6; have hsz6 : (T ++ [r1]).length = T.length + 1 := List.length_append; rw [hsz6] at hown6 hob6 ⊢))
    have hmo7 : Mods (fun b => b = H.pb ∨ (Value.slice ta T.length tc).ownBlock = some b) w3 (w6.setCell ⟨H.pb, 6, none⟩ (.slice va6 (T.length + 1) vc6)) := (((Mods.refl _ w3).alloc (.cells #[.int .i64 r1] 3)).grown hgrow6.out (fun b hb => .inl (.inr hb))).setCell H.pb 6 _ (.inl rfl)
    have hown7 : w6.ownsRow 0 3 1 (.slice va6 (T.length + 1) vc6) (T ++ [r1]).length ((T ++ [r1]).map encZ) := by rw [hsz6]; exact hown6.out
    have hv7 : ∀ b, (Value.slice va6 (T.length + 1) vc6).ownBlock = some b → (Value.slice ta T.length tc).ownBlock = some b ∨ w3.heap.size ≤ b := fun b hb => by
      rcases hob6.out with h | h
      · exact .inl (h ▸ hb)
      · rw [hb, HS5.out] at h
        simp only [Option.some.injEq] at h
        exact .inr (by omega)
    have hg7 := HBo.out.toTaken (T' := T ++ [r1]) HZ.out hmo7 (setc HBX6.out 6 _) (owns_keep hown7 (fun b hb => Below.heap_setCell _ _ _ _ (by
      show b ≠ H.pb
      rcases hv7 b hb with h | h
      · exact HNE.out b h
      · omega))) hv7
    have HB17 : Hid (CBufs (w6.setCell ⟨H.pb, 6, none⟩ (.slice va6 (T.length + 1) vc6)) a1 L) := hid (HB13.out.keep (fun hp b off e => hg7.2 b (.inl (.inr (HK1.out hp b off e)))))
    have HB27 : Hid (CBufs (w6.setCell ⟨H.pb, 6, none⟩ (.slice va6 (T.length + 1) vc6)) a2 L) := hid (HB23.out.keep (fun hp b off e => hg7.2 b (.inr (HK2.out hp b off e))))
    have HG7 := hid hg7
    clear hg7 hmo7 hown7 hv7
    refine (sameBufs_same _ a1 a2 c1 c2 L (by omega) HB17.out HB27.out).mono ?_
    rintro e w9 ⟨rfl, ⟨qd, hw9⟩⟩
    rw [hw9]
    clear hw9 w9
    go_wp2
    go_ret
    exact ⟨by simp, S', T ++ [r1], ((HG7.out.1.below (below_drewN (Below.refl _ _) _)).count (Nat.le_succ c)).less (fun b hb => .inl (.inl hb)), by rw [hsz6]; exact Nat.le_refl _⟩
  · have hr30 : (r3 == 0) = false := by simpa using h3
    go_wp2_with (go_at_call 28; refine (sameBufs_same w3 a1 a2 c1 c2 L (by omega) HB13.out HB23.out).mono ?_; rintro e w9 ⟨rfl, ⟨qd, hw9⟩⟩; rw [hw9]; clear hw9 w9)
    go_ret
    exact ⟨by simp, S', T, ((HG3.out.1.below (below_drewN (Below.refl _ _) _)).count (Nat.le_succ c)).less (fun b hb => .inl (.inl hb)), Nat.le_succ _⟩
end
end Go.Proofs.Ytjnhcbompgmknaa
