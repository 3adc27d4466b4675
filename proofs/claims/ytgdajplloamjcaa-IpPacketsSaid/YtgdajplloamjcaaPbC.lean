/- Package ip's Cut. -/
import Derived.Test.YtgdajplloamjcaaPbB
namespace Go.Proofs.Ytgdajplloamjcaa
open Go.RowKit Go.Maps
set_option linter.unusedVariables false
def cutE (p : Pk) (mtu : Int) : Int := if mtu < 28 then 1 else if (decide (p.off = 0) && !p.more) = false then 15 else 0
def cutP (p : Pk) (mtu : Int) : List Pk :=
  if mtu < 28 then [] else if (decide (p.off = 0) && !p.more) = false then [] else if 20 + (p.body.length : Int) ≤ mtu then [{ p with whole := true }] else partsL p ((mtu - 20) / 8 * 8).toNat (numP p.body.length ((mtu - 20) / 8 * 8).toNat)
theorem PL.one (w : World) (t B : Nat) (W : World) (x : Px) (hx : By w (fun b => B ≤ b) x.a x.p.body) (hB : B ≤ w.heap.size) (hc : x.p.body.length ≤ x.c) (hW : W = w.alloc (.cells (pxV x).toArray t)) : PL W t B (.slice (some ⟨w.heap.size, 0, none⟩) 1 1) [x] := by
  subst hW
  have h1 : (w.alloc (.cells (pxV x).toArray t)).heap[w.heap.size]? = some (.cells (pxV x).toArray t (0, 0)) := alloc_new w _
  have hb : Below w.heap.size w (w.alloc (.cells (pxV x).toArray t)) := below_alloc (Below.refl _ _) (Nat.le_refl _) _
  refine ⟨⟨by rw [cellsPx_len], .inr ⟨w.heap.size, 0, 1, _, rfl, h1, by simp, by unfold maxLen; omega, by simp [pxV_len], fun j hj => ?_⟩⟩, fun b hb => ?_, fun y hy => ?_⟩
  · rw [Nat.zero_add]; simp [cellsPx]
  · simp [blkV] at hb; omega
  · obtain rfl : y = x := by simpa using hy
    refine ⟨?_, hc⟩
    have h2 := (hx.weak (S' := fun b => B ≤ b ∧ b < w.heap.size) (fun b h1 h2 => ⟨h1, h2⟩)).later hb
    exact h2.weak (fun b h _ => ⟨h.1, fun e => by simp [blkV] at e; have := h.2; omega⟩)
theorem parts_at (w : World) (s d pr i o : Int) (m q : Bool) (t : Int) (a : Option Addr) (n c : Nat) (l : List Int) (hn : l.length = n) (hl : n ≤ 70000) (hc : n ≤ c) (hb : Bytes w a l) (z : Nat) (hz : 0 < z) (hz2 : z ≤ 9223372036854000000) (Z : Int) (hZ : (z : Int) = Z) :
    Calls Try.prog 32 #[.agg (pkC s d pr i o m q t (.slice a n c)), .int .i64 Z] w fun e w' => ∃ v L, e = .returned v ∧ PL w' 25 w.heap.size v L ∧ L.map Px.p = partsL ⟨s, d, pr, i, o, m, q, t, l⟩ z (numP n z) ∧ Below w.heap.size w w' := by
  subst hZ
  exact parts_any w s d pr i o m q t a n c l hn hl hc hb z hz hz2
set_option maxRecDepth 100000 in
set_option maxHeartbeats 2000000 in
theorem Cut_any (w : World) (s d pr i o : Int) (m q : Bool) (t : Int) (a : Option Addr) (n c : Nat) (l : List Int) (mtu : Int) (hmt : II mtu) (hn : l.length = n) (hl : n ≤ 16384) (hc : n ≤ c) (hb : Bytes w a l) :
    Calls Try.prog 15 #[.agg (pkC s d pr i o m q t (.slice a n c)), .int .i64 mtu] w fun e w' => ∃ v, e = .returned (.tuple #[v, .int .i64 (cutE ⟨s, d, pr, i, o, m, q, t, l⟩ mtu)]) ∧ ∃ L, PL w' 25 w.heap.size v L ∧ L.map Px.p = cutP ⟨s, d, pr, i, o, m, q, t, l⟩ mtu ∧ Below w.heap.size w w' := by
  unfold II at hmt
  unfold cutE cutP
  dsimp only
  obtain ⟨W1, hW1, h1, b1⟩ := boxP w (pkC s d pr i o m q t (.slice a n c)) 25
  obtain ⟨g, hg⟩ : ∃ g, w.heap.size = g := ⟨_, rfl⟩
  rw [hg] at h1
  have c8 := cell_of h1 (i := 8) (v := .slice a n c) rfl
  have H1 := hid h1
  have HB1 := hid b1
  have HG := hid hg
  have HN := hid hn
  have HBY := hid hb
  have HW := hW1.symm
  clear h1 b1 hW1 hn hb
  by_cases hm1 : mtu < 28
  · rw [if_pos hm1, if_pos hm1]
    clear hg
    go_enter Try.func15, Try.ntmps15
    go_wp2
    go_ret2
    exact ⟨_, rfl, [], PL.nil _ _ _, rfl, HB1.out⟩
  · rw [if_neg hm1, if_neg hm1]
    have HIW := hid (isWhole_any W1 s d pr i o m q t (.slice a n c))
    cases hwh : (decide (o = 0) && !m)
    · rw [if_pos rfl, if_pos rfl]
      rw [hwh] at HIW
      go_enter Try.func15, Try.ntmps15
      go_wp2_with (first
        | (refine wpList_load_row rfl 25 _ rfl g rfl 25 _ (0, 0) _ H1.out Try.underlying25 rfl sizePk ?_)
        | (go_at_call 24; refine HIW.out.mono ?_; rintro e w2 ⟨rfl, hb2⟩; have HB2 := hid (HB1.out.trans (hb2.mono HB1.out.size)); clear hb2))
      go_ret2
      exact ⟨_, rfl, [], PL.nil _ _ _, rfl, HB2.out⟩
    · rw [if_neg (by simp), if_neg (by simp)]
      rw [hwh] at HIW
      by_cases hfit : 20 + (n : Int) ≤ mtu
      · rw [HN.out, if_pos hfit]
        go_enter Try.func15, Try.ntmps15
        go_wp2_with (first
          | (refine wpList_load_row rfl 25 _ rfl g rfl 25 _ (0, 0) _ H1.out Try.underlying25 rfl sizePk ?_)
          | (refine wpList_load_row rfl 25 _ rfl g rfl 25 _ (0, 0) _ H2.out Try.underlying25 rfl sizePk ?_)
          | (go_at_call 24; refine HIW.out.mono ?_; rintro e w2 ⟨rfl, hb2⟩; have h2 := (hb2.block g (Array.getElem?_eq_some_iff.1 H1.out).1).trans H1.out; have c28 := cell_of h2 (i := 8) (v := .slice a n c) rfl; have H2 := hid h2; have HB2 := hid (HB1.out.trans (hb2.mono HB1.out.size)); clear hb2 h2 c8)
          | (go_at_call 31; refine (whole_any _ s d pr i o m q t a n c l HN.out (by omega) (HBY.out.later HB2.out)).mono ?_; rintro e w3 ⟨a3, c3, rfl, hy3, hc3, hb3⟩; obtain ⟨W4, hW4⟩ : ∃ W, W = w3.alloc (.cells #[.int .u32 s, .int .u32 d, .int .i64 pr, .int .i64 i, .int .i64 o, .bool m, .bool true, .int .i64 t, .slice a3 n c3] 25) := ⟨_, rfl⟩; have HY3 := hid hy3; have HC3 := hid hc3; have HB3 := hid (HB2.out.trans (hb3.mono HB2.out.size)); clear hy3 hc3 hb3 c28; have HW4 := hid hW4; have hW4' := hW4.symm; clear hW4))
        go_ret2
        have e1 : W4 = w3.alloc (.cells (pxV ⟨⟨s, d, pr, i, o, m, true, t, l⟩, a3, c3⟩).toArray 25) := by rw [HW4.out, ← HN.out]; rfl
        have hp := PL.one w3 25 w.heap.size W4 ⟨⟨s, d, pr, i, o, m, true, t, l⟩, a3, c3⟩ (HY3.out.weak (fun b hb _ => Nat.le_trans HB2.out.size hb)) HB3.out.size (by show l.length ≤ c3; rw [HN.out]; exact HC3.out) e1
        have b4 : Below w.heap.size w W4 := by rw [e1]; exact HB3.out.alloc HB3.out.size _
        exact ⟨_, rfl, _, hp, rfl, b4⟩
      · rw [HN.out, if_neg hfit]
        obtain ⟨z, hz⟩ : ∃ z : Nat, ((mtu - 20) / 8 * 8).toNat = z := ⟨_, rfl⟩
        have hz1 : ((z : Nat) : Int) = (mtu - 20) / 8 * 8 := by rw [← hz]; omega
        rw [hz]
        have hdiv : (mtu - 20).tdiv 8 = (mtu - 20) / 8 := Int.tdiv_eq_ediv_of_nonneg (by omega)
        have hw1 : IntKind.i64.wrap (mtu - 20) = mtu - 20 := IntWalk.i64_in _ (by omega)
        have hw2 : IntKind.i64.wrap ((mtu - 20) / 8 * 8) = (mtu - 20) / 8 * 8 := IntWalk.i64_in _ (by omega)
        have hw3 : IntKind.i64.wrap ((mtu - 20) / 8) = (mtu - 20) / 8 := IntWalk.i64_in _ (by omega)
        have hzp : 0 < z := by omega
        have HZ := hid hz1
        clear hz
        go_enter Try.func15, Try.ntmps15
        go_wp2_with (first
          | (refine wpList_load_row rfl 25 _ rfl g rfl 25 _ (0, 0) _ H1.out Try.underlying25 rfl sizePk ?_)
          | (refine wpList_load_row rfl 25 _ rfl g rfl 25 _ (0, 0) _ H2.out Try.underlying25 rfl sizePk ?_)
          | (go_at_call 24; refine HIW.out.mono ?_; rintro e w2 ⟨rfl, hb2⟩; have h2 := (hb2.block g (Array.getElem?_eq_some_iff.1 H1.out).1).trans H1.out; have c28 := cell_of h2 (i := 8) (v := .slice a n c) rfl; have H2 := hid h2; have HB2 := hid (HB1.out.trans (hb2.mono HB1.out.size)); clear hb2 h2 c8)
          | (go_at_call 32; refine (parts_at _ s d pr i o m q t a n c l HN.out (by omega) hc (HBY.out.later HB2.out) z hzp (by have := HZ.out; omega) _ HZ.out).mono ?_; rintro e w3 ⟨v3, L, rfl, hp3, hl3, hb3⟩; have HP3 := hid hp3; have HL3 := hid hl3; have HB3 := hid (HB2.out.trans (hb3.mono HB2.out.size)); clear hp3 hl3 hb3 c28))
        go_ret2
        exact ⟨_, rfl, L, HP3.out.mono HB2.out.size, HL3.out, HB3.out⟩
end Go.Proofs.Ytgdajplloamjcaa
