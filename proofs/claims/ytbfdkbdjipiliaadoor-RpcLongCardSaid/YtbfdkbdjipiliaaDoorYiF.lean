/- Why a call is none: what is answered. -/
import Derived.Test.YtbfdkbdjipiliaaDoorYiE
import Derived.Test.YtbfdkbdjipiliaaDoorYfB
namespace Go.Proofs.YtbfdkbdjipiliaaDoor
open Go.RowKit Go.Maps
set_option linter.unusedVariables false

/-- A Wrong in block g. -/
def WrAt (w : World) (B g : Nat) (e : Int) (l : List Int) : Prop := B ≤ g ∧ ∃ a n c, w.heap[g]? = some (.cells #[.int .i64 e, .slice a n c] 56 (0, 0)) ∧ By w (fun b => B ≤ b) a l ∧ l.length = n ∧ n ≤ c
theorem WrAt.later {w w' : World} {B g : Nat} {e : Int} {l : List Int} (h : WrAt w B g e l) (hb : Below w.heap.size w w') : WrAt w' B g e l := by
  obtain ⟨h1, a, n, c, h2, h3, h4⟩ := h
  exact ⟨h1, a, n, c, (hb.block g (Array.getElem?_eq_some_iff.1 h2).1).trans h2, h3.later hb, h4⟩
theorem WrAt.side {w w' : World} {B g : Nat} {e : Int} {l : List Int} {X : Nat → Prop} (h : WrAt w B g e l) (hm : Mods X w w') (hx : ∀ b, X b → b < B) : WrAt w' B g e l := by
  obtain ⟨h1, a, n, c, h2, h3, h4⟩ := h
  exact ⟨h1, a, n, c, (hm.block g (Array.getElem?_eq_some_iff.1 h2).1 (fun e => by have := hx g e; omega)).trans h2, h3.side hm (fun b hb _ e => by have := hx b e; have h : B ≤ b := hb; omega), h4⟩
theorem WrAt.mono {w : World} {B B' g : Nat} {e : Int} {l : List Int} (h : WrAt w B g e l) (hB : B' ≤ B) : WrAt w B' g e l := by
  obtain ⟨h1, a, n, c, h2, h3, h4⟩ := h
  exact ⟨Nat.le_trans hB h1, a, n, c, h2, h3.weak (fun b hb _ => Nat.le_trans hB hb), h4⟩
theorem WrAt.er {w : World} {B g : Nat} {e : Int} {l : List Int} (h : WrAt w B g e l) : ErAt w B (.iface 52 (.pointer (some ⟨g, 0, none⟩))) (.wrg e l) := by
  obtain ⟨h1, a, n, c, h2, h3, h4⟩ := h
  exact ⟨g, a, n, c, rfl, h1, h2, h3, h4⟩
theorem wr_new {W : World} {B n c : Nat} {a : Option Addr} {e : Int} {l : List Int} (hB : B ≤ W.heap.size) (hh : By W (fun b => B ≤ b) a l) (hn : l.length = n) (hc : n ≤ c) :
    WrAt (W.alloc (.cells #[.int .i64 e, .slice a n c] 56)) B W.heap.size e l :=
  ⟨hB, _, n, c, alloc_new W _, hh.later (below_alloc (Below.refl _ _) (Nat.le_refl _) _), hn, hc⟩
def wrgN (x E : Int) : Int × List Int := if E = 34 then (34, faultL x 1) else if E = 35 then (35, faultL x 2) else if E = 36 then (36, faultL x 3) else (31, [])
def wrgP (x : Int) : Er → Int × List Int
  | .no => (31, [])
  | .wrg e l => (e, l)
  | .num E => wrgN x E
/-- The numbers that outcomes tells. -/
theorem outcomes_any (w : World) : Calls Tryd.prog 43 #[] w fun e w' => e = .returned (.agg #[.int .i64 0, .int .i64 34, .int .i64 35, .int .i64 36, .int .i64 33]) ∧ Below w.heap.size w w' := by
  obtain ⟨g, hg⟩ : ∃ g, w.heap.size = g := ⟨_, rfl⟩
  obtain ⟨W1, hW1⟩ : ∃ W, W = w.alloc (.cells #[.int .i64 0, .int .i64 0, .int .i64 0, .int .i64 0, .int .i64 0] 112) := ⟨_, rfl⟩
  have b1 : Below w.heap.size w W1 := by rw [hW1]; exact below_alloc (Below.refl _ _) (Nat.le_refl _) _
  have z1 : W1.heap[g]? = some (.cells #[.int .i64 0, .int .i64 0, .int .i64 0, .int .i64 0, .int .i64 0] 112 (0, 0)) := by rw [hW1, ← hg]; exact alloc_new w _
  have HZ := hid z1
  have HB := hid b1
  have hW1' := hW1.symm
  have size5 : (Tryd.prog.info? 112).map (·.size) = some 5 := by kernel_rfl
  clear b1 z1 hW1
  go_enter Tryd.func43, Tryd.ntmps43
  go_wp2_with ((try rw [hW1']); refine wpList_store_row rfl 112 _ _ rfl g #[.int .i64 0, .int .i64 34, .int .i64 35, .int .i64 36, .int .i64 33] rfl rfl 112 _ HZ.out size5 rfl (by simp [Value.oneCell']) ?_)
  refine bodyPost_ret (results_a rfl _ _ g #[.int .i64 0, .int .i64 34, .int .i64 35, .int .i64 36, .int .i64 33] _ _ _ rfl (setRow_heap _ g _ _ _ _ HZ.out) Tryd.underlying112 size5) rfl ?_
  exact ⟨rfl, (setRow_mods W1 g _).to_below HB.out HB.out.size (fun b hb => by have h : b = g := hb; omega)⟩
set_option maxRecDepth 100000 in
set_option maxHeartbeats 4000000 in
theorem wrong_wrg (w : World) (x : Int) (hg : Gl w) (B g : Nat) (e : Int) (l : List Int) (h : WrAt w B g e l) (hB : B ≤ w.heap.size) :
    Calls Tryd.prog 24 #[.int .u32 x, .iface 52 (.pointer (some ⟨g, 0, none⟩))] w fun r w' => r = .returned (.pointer (some ⟨g, 0, none⟩)) ∧ WrAt w' B g e l ∧ Below w.heap.size w w' := by
  obtain ⟨t, ht⟩ : ∃ g, w.heap.size = g := ⟨_, rfl⟩
  obtain ⟨W1, hW1⟩ : ∃ W, W = w.alloc (.cells #[.pointer none] 52) := ⟨_, rfl⟩
  have b1 : Below w.heap.size w W1 := by rw [hW1]; exact below_alloc (Below.refl _ _) (Nat.le_refl _) _
  have z1 : W1.heap[t]? = some (.cells #[.pointer none] 52 (0, 0)) := by rw [hW1, ← ht]; exact alloc_new w _
  have HAS := hid (As_wrong g t (.pointer none) W1 (hg.later b1) (cell_of z1 (i := 0) rfl) (froz_of z1 0))
  have HWR := hid (h.later b1)
  have HZ := hid z1
  have HB1 := hid b1
  have hW1' := hW1.symm
  have HGT : Hid (g < t) := hid (by obtain ⟨_, a, n, c, h2, _⟩ := h; have := (Array.getElem?_eq_some_iff.1 h2).1; omega)
  clear b1 z1 hW1 h hg
  go_enter Tryd.func24, Tryd.ntmps24
  go_wp2_with (go_at_call 14; (try rw [hW1']); refine HAS.out.mono ?_; rintro r w' ⟨rfl, w2, hb2, hw'⟩; have hz2 := (hb2.block t (Array.getElem?_eq_some_iff.1 HZ.out).1).trans HZ.out; have hz3 := setc hz2 0 (.pointer (some ⟨g, 0, none⟩)); rw [← hw'] at hz3; have hm3 : Mods (fun b => b = t) w2 w' := (by rw [hw']; exact (Mods.refl _ _).setCell t 0 _ rfl); have yt := cell_of hz3 (i := 0) (v := .pointer (some ⟨g, 0, none⟩)) rfl; have HM3 := hid hm3; have HB2 := hid hb2; clear hw' hz2 hz3 hm3 hb2 HAS)
  go_ret
  have hW := HB1.out.trans (HB2.out.mono HB1.out.size)
  have hW3 := HM3.out.to_below hW hW.size (fun b hb => by have h : b = t := hb; omega)
  refine ⟨rfl, ?_, hW3⟩
  have h2 := HWR.out.later HB2.out
  obtain ⟨h1, a, n, c, hh, hy, hn⟩ := h2
  have hy2 := hy.off ((HB2.out.block t (Array.getElem?_eq_some_iff.1 HZ.out).1).trans HZ.out) (by decide)
  exact ⟨h1, a, n, c, (HM3.out.block g (Array.getElem?_eq_some_iff.1 hh).1 (fun e => by have h : g = t := e; have := HGT.out; omega)).trans hh, (hy2.side HM3.out (fun b hb _ e => hb.2 e)).weak (fun b hb _ => hb.1), hn⟩
theorem idx0 (w : World) : (Instr.index 112 (.agg #[.int .i64 0, .int .i64 34, .int .i64 35, .int .i64 36, .int .i64 33]) (.int .i64 0)).run Tryd.prog w = .ok (.int .i64 0) w := by kernel_rfl
theorem idx1 (w : World) : (Instr.index 112 (.agg #[.int .i64 0, .int .i64 34, .int .i64 35, .int .i64 36, .int .i64 33]) (.int .i64 1)).run Tryd.prog w = .ok (.int .i64 34) w := by kernel_rfl
theorem idx2 (w : World) : (Instr.index 112 (.agg #[.int .i64 0, .int .i64 34, .int .i64 35, .int .i64 36, .int .i64 33]) (.int .i64 2)).run Tryd.prog w = .ok (.int .i64 35) w := by kernel_rfl
theorem idx3 (w : World) : (Instr.index 112 (.agg #[.int .i64 0, .int .i64 34, .int .i64 35, .int .i64 36, .int .i64 33]) (.int .i64 3)).run Tryd.prog w = .ok (.int .i64 36) w := by kernel_rfl
theorem idx4 (w : World) : (Instr.index 112 (.agg #[.int .i64 0, .int .i64 34, .int .i64 35, .int .i64 36, .int .i64 33]) (.int .i64 4)).run Tryd.prog w = .ok (.int .i64 33) w := by kernel_rfl
set_option maxRecDepth 100000 in
set_option maxHeartbeats 8000000 in
theorem wrong_num (w : World) (x : Int) (hx : IsU x) (hg : Gl w) (E : Int) (h0 : E ≠ 0) (h33 : E ≠ 33) :
    Calls Tryd.prog 24 #[.int .u32 x, .iface 30 (.int .i64 E)] w fun r w' => ∃ g, r = .returned (.pointer (some ⟨g, 0, none⟩)) ∧ WrAt w' w.heap.size g (wrgP x (.num E)).1 (wrgP x (.num E)).2 ∧ Below w.heap.size w w' := by
  obtain ⟨t, ht⟩ : ∃ g, w.heap.size = g := ⟨_, rfl⟩
  obtain ⟨W1, hW1⟩ : ∃ W, W = w.alloc (.cells #[.pointer none] 52) := ⟨_, rfl⟩
  have b1 : Below w.heap.size w W1 := by rw [hW1]; exact below_alloc (Below.refl _ _) (Nat.le_refl _) _
  have HAS := hid (as_miss (.int .i64 E) ⟨t, 0, none⟩ (.pointer none) W1 (hg.later b1))
  have HB1 := hid b1
  have hW1' := hW1.symm
  obtain ⟨⟨ee, ll⟩, hw⟩ : ∃ z, wrgN x E = z := ⟨_, rfl⟩
  have hw2 : wrgP x (.num E) = (ee, ll) := hw
  rw [hw2]
  simp only
  have HWP := hid hw
  have HUX := hid hx
  clear b1 hW1 hg hw hw2 hx
  have i0 := idx0
  have i1 := idx1
  have i2 := idx2
  have i3 := idx3
  have i4 := idx4
  by_cases h34 : E = 34
  · subst h34
    have hw : (34, faultL x 1) = (ee, ll) := by have := HWP.out; unfold wrgN at this; rw [if_pos rfl] at this; exact this
    have HEE := hid (Prod.mk.inj hw).1
    have HLL := hid (Prod.mk.inj hw).2
    clear hw h0 h33
    go_enter Tryd.func24, Tryd.ntmps24
    go_wp2_with (first
      | (go_at_call 14; (try rw [hW1']); refine HAS.out.mono ?_; rintro r w2 ⟨rfl, hb2⟩; have HB2 := hid (HB1.out.trans (hb2.mono HB1.out.size)); clear hb2 HAS)
      | (go_at_call 43; refine (outcomes_any _).mono ?_; rintro r w3 ⟨rfl, hb3⟩; have HB3 := hid (HB2.out.trans (hb3.mono HB2.out.size)); clear hb3))
    refine wp_loop_rounds 6 ?_
    rw [rounds_succ]
    go_wp2_with (first
      | (go_at_call 44; refine (is_num _ 0 _).mono ?_; rintro r wi ⟨rfl, hwi⟩; rw [hwi]; clear hwi))
    rw [rounds_succ]
    go_wp2_with (first
      | (go_at_call 44; refine (is_num _ 34 _).mono ?_; rintro r wi ⟨rfl, hwi⟩; rw [hwi]; clear hwi)
      | (go_at_call 45; refine (fault_any w3 x 1 HUX.out (by unfold IsU; omega)).mono ?_; rintro r w4 ⟨k4, hk4, hk5, h4⟩; obtain ⟨a4, c4, rfl, hy4, hc4, hb4⟩ := h4.by_ (by unfold faultL; split <;> exact nuL_isB 4 _); have hsz : w.heap.size ≤ w4.heap.size := Nat.le_trans HB3.out.size hb4.size; have HW := hid (wr_new (e := 34) hsz (hy4.weak (fun b hb _ => Nat.le_trans HB3.out.size hb)) hk4.symm hc4); have HB4 := hid ((HB3.out.trans (hb4.mono HB3.out.size)).alloc hsz (.cells #[.int .i64 34, .slice a4 k4 c4] 56)); clear h4 hy4 hc4 hb4 hsz hk4 hk5))
    go_ret
    exact ⟨_, rfl, by rw [← HEE.out, ← HLL.out]; exact HW.out, HB4.out⟩
  · by_cases h35 : E = 35
    · subst h35
      have hw : (35, faultL x 2) = (ee, ll) := by have := HWP.out; unfold wrgN at this; rw [if_neg (by decide), if_pos rfl] at this; exact this
      have HEE := hid (Prod.mk.inj hw).1
      have HLL := hid (Prod.mk.inj hw).2
      clear hw h0 h33 h34
      go_enter Tryd.func24, Tryd.ntmps24
      go_wp2_with (first
        | (go_at_call 14; (try rw [hW1']); refine HAS.out.mono ?_; rintro r w2 ⟨rfl, hb2⟩; have HB2 := hid (HB1.out.trans (hb2.mono HB1.out.size)); clear hb2 HAS)
        | (go_at_call 43; refine (outcomes_any _).mono ?_; rintro r w3 ⟨rfl, hb3⟩; have HB3 := hid (HB2.out.trans (hb3.mono HB2.out.size)); clear hb3))
      refine wp_loop_rounds 6 ?_
      rw [rounds_succ]
      go_wp2_with (first
        | (go_at_call 44; refine (is_num _ 0 _).mono ?_; rintro r wi ⟨rfl, hwi⟩; rw [hwi]; clear hwi))
      rw [rounds_succ]
      go_wp2_with (first
        | (go_at_call 44; refine (is_num _ 34 _).mono ?_; rintro r wi ⟨rfl, hwi⟩; rw [hwi]; clear hwi))
      rw [rounds_succ]
      go_wp2_with (first
        | (go_at_call 44; refine (is_num _ 35 _).mono ?_; rintro r wi ⟨rfl, hwi⟩; rw [hwi]; clear hwi)
        | (go_at_call 45; refine (fault_any w3 x 2 HUX.out (by unfold IsU; omega)).mono ?_; rintro r w4 ⟨k4, hk4, hk5, h4⟩; obtain ⟨a4, c4, rfl, hy4, hc4, hb4⟩ := h4.by_ (by unfold faultL; split <;> exact nuL_isB 4 _); have hsz : w.heap.size ≤ w4.heap.size := Nat.le_trans HB3.out.size hb4.size; have HW := hid (wr_new (e := 35) hsz (hy4.weak (fun b hb _ => Nat.le_trans HB3.out.size hb)) hk4.symm hc4); have HB4 := hid ((HB3.out.trans (hb4.mono HB3.out.size)).alloc hsz (.cells #[.int .i64 35, .slice a4 k4 c4] 56)); clear h4 hy4 hc4 hb4 hsz hk4 hk5))
      go_ret
      exact ⟨_, rfl, by rw [← HEE.out, ← HLL.out]; exact HW.out, HB4.out⟩
    · by_cases h36 : E = 36
      · subst h36
        have hw : (36, faultL x 3) = (ee, ll) := by have := HWP.out; unfold wrgN at this; rw [if_neg (by decide), if_neg (by decide), if_pos rfl] at this; exact this
        have HEE := hid (Prod.mk.inj hw).1
        have HLL := hid (Prod.mk.inj hw).2
        clear hw h0 h33 h34 h35
        go_enter Tryd.func24, Tryd.ntmps24
        go_wp2_with (first
          | (go_at_call 14; (try rw [hW1']); refine HAS.out.mono ?_; rintro r w2 ⟨rfl, hb2⟩; have HB2 := hid (HB1.out.trans (hb2.mono HB1.out.size)); clear hb2 HAS)
          | (go_at_call 43; refine (outcomes_any _).mono ?_; rintro r w3 ⟨rfl, hb3⟩; have HB3 := hid (HB2.out.trans (hb3.mono HB2.out.size)); clear hb3))
        refine wp_loop_rounds 6 ?_
        rw [rounds_succ]
        go_wp2_with (first
          | (go_at_call 44; refine (is_num _ 0 _).mono ?_; rintro r wi ⟨rfl, hwi⟩; rw [hwi]; clear hwi))
        rw [rounds_succ]
        go_wp2_with (first
          | (go_at_call 44; refine (is_num _ 34 _).mono ?_; rintro r wi ⟨rfl, hwi⟩; rw [hwi]; clear hwi))
        rw [rounds_succ]
        go_wp2_with (first
          | (go_at_call 44; refine (is_num _ 35 _).mono ?_; rintro r wi ⟨rfl, hwi⟩; rw [hwi]; clear hwi))
        rw [rounds_succ]
        go_wp2_with (first
          | (go_at_call 44; refine (is_num _ 36 _).mono ?_; rintro r wi ⟨rfl, hwi⟩; rw [hwi]; clear hwi)
          | (go_at_call 45; refine (fault_any w3 x 3 HUX.out (by unfold IsU; omega)).mono ?_; rintro r w4 ⟨k4, hk4, hk5, h4⟩; obtain ⟨a4, c4, rfl, hy4, hc4, hb4⟩ := h4.by_ (by unfold faultL; split <;> exact nuL_isB 4 _); have hsz : w.heap.size ≤ w4.heap.size := Nat.le_trans HB3.out.size hb4.size; have HW := hid (wr_new (e := 36) hsz (hy4.weak (fun b hb _ => Nat.le_trans HB3.out.size hb)) hk4.symm hc4); have HB4 := hid ((HB3.out.trans (hb4.mono HB3.out.size)).alloc hsz (.cells #[.int .i64 36, .slice a4 k4 c4] 56)); clear h4 hy4 hc4 hb4 hsz hk4 hk5))
        go_ret
        exact ⟨_, rfl, by rw [← HEE.out, ← HLL.out]; exact HW.out, HB4.out⟩
      · have hw : (31, ([] : List Int)) = (ee, ll) := by have := HWP.out; unfold wrgN at this; rw [if_neg h34, if_neg h35, if_neg h36] at this; exact this
        have HEE := hid (Prod.mk.inj hw).1
        have HLL := hid (Prod.mk.inj hw).2
        have q0 : (E == 0) = false := by simpa using h0
        have q34 : (E == 34) = false := by simpa using h34
        have q35 : (E == 35) = false := by simpa using h35
        have q36 : (E == 36) = false := by simpa using h36
        have q33 : (E == 33) = false := by simpa using h33
        clear hw h0 h33 h34 h35 h36
        go_enter Tryd.func24, Tryd.ntmps24
        go_wp2_with (first
          | (go_at_call 14; (try rw [hW1']); refine HAS.out.mono ?_; rintro r w2 ⟨rfl, hb2⟩; have HB2 := hid (HB1.out.trans (hb2.mono HB1.out.size)); clear hb2 HAS)
          | (go_at_call 43; refine (outcomes_any _).mono ?_; rintro r w3 ⟨rfl, hb3⟩; have HB3 := hid (HB2.out.trans (hb3.mono HB2.out.size)); clear hb3))
        refine wp_loop_rounds 6 ?_
        rw [rounds_succ]
        go_wp2_with (first
          | (go_at_call 44; refine (is_num _ 0 _).mono ?_; rintro r wi ⟨rfl, hwi⟩; rw [hwi]; clear hwi))
        rw [rounds_succ]
        go_wp2_with (first
          | (go_at_call 44; refine (is_num _ 34 _).mono ?_; rintro r wi ⟨rfl, hwi⟩; rw [hwi]; clear hwi))
        rw [rounds_succ]
        go_wp2_with (first
          | (go_at_call 44; refine (is_num _ 35 _).mono ?_; rintro r wi ⟨rfl, hwi⟩; rw [hwi]; clear hwi))
        rw [rounds_succ]
        go_wp2_with (first
          | (go_at_call 44; refine (is_num _ 36 _).mono ?_; rintro r wi ⟨rfl, hwi⟩; rw [hwi]; clear hwi))
        rw [rounds_succ]
        go_wp2_with (first
          | (go_at_call 44; refine (is_num _ 33 _).mono ?_; rintro r wi ⟨rfl, hwi⟩; rw [hwi]; clear hwi))
        rw [rounds_succ]
        go_wp2
        go_ret
        have hsz : w.heap.size ≤ w3.heap.size := HB3.out.size
        have HW := wr_new (W := w3) (e := 31) (l := []) (a := none) (n := 0) (c := 0) hsz (By.nil _ _ _) rfl (Nat.le_refl _)
        exact ⟨_, rfl, by rw [← HEE.out, ← HLL.out]; exact HW, HB3.out.alloc hsz _⟩
end Go.Proofs.YtbfdkbdjipiliaaDoor
