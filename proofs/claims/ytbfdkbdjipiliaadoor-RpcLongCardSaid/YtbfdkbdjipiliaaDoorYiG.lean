/- A call read. -/
import Derived.Test.YtbfdkbdjipiliaaDoorYiF
namespace Go.Proofs.YtbfdkbdjipiliaaDoor
open Go.RowKit Go.Maps
set_option linter.unusedVariables false

theorem prfR_e {r : Rd} (h : E0 r.e) : E0 (prfR r).2.2.e := by unfold prfR; exact rdBy_e (rd32_e h)
theorem prfR_l (r : Rd) : (prfR r).2.2.l = r.l := by unfold prfR; simp only; rw [rdBy_l, rd32_l]
theorem opnP_e {r : Rd} (h : E0 r.e) : E0 (opnP r).2.2.e := by unfold opnP; exact rd32_e (rd32_e (rd32_e h))
theorem askP_33 (p v k : Int) : askP p v k ≠ 33 := by unfold askP; split; decide; split; decide; split <;> decide
theorem opn_num {r : Rd} {E : Int} (h : E0 r.e) (h2 : (opnP r).2.1 = .num E) : E ≠ 0 ∧ E ≠ 33 := by
  have he := opnP_e h
  unfold opnP at h2 he
  simp only at h2 he
  unfold E0 at he
  split at h2
  · cases h2; omega
  · split at h2
    · cases h2; decide
    · split at h2
      · cases h2
      · cases h2
theorem up_num {r : Rd} {E : Int} (h : E0 r.e) (h2 : (upP r).2.1 = .num E) : E ≠ 0 ∧ E ≠ 33 := by
  have he := opnP_e h
  have hn := opn_num (E := E) h
  unfold upP at h2
  obtain ⟨⟨x, er, r3⟩, ho⟩ : ∃ o, opnP r = o := ⟨_, rfl⟩
  rw [ho] at h2 he hn
  simp only at h2 he hn
  cases er with
  | num E1 => exact hn h2
  | wrg e l => cases h2
  | no =>
    simp only at h2
    have he8 := prfR_e (prfR_e (rd32_e (rd32_e (rd32_e he))))
    unfold E0 at he8
    split at h2
    · cases h2; omega
    · split at h2
      · cases h2
      · simp only at h2
        split at h2
        · cases h2
        · cases h2; exact ⟨by assumption, askP_33 _ _ _⟩
def prsQ (U : Ca × Er × Rd) (b : List Int) : Ca × Int × List Int :=
  match U.2.1 with
  | .no => ({ U.1 with body := b.drop U.2.2.k }, 0, [])
  | e => (Ca0, wrgP U.1.xid e)
def prsP (b : List Int) : Ca × Int × List Int := prsQ (upP ⟨b, 0, 0⟩) b
theorem jud_ask (c : Ca) : judP c = if askP c.prog c.vers c.proc = 0 then (c, 0, []) else (Ca0, wrgN c.xid (askP c.prog c.vers c.proc)) := by
  unfold judP askP
  by_cases h1 : c.prog ≠ 100003 ∧ c.prog ≠ 100005
  · rw [if_pos h1, if_pos h1, if_neg (by decide)]; rfl
  · rw [if_neg h1, if_neg h1]
    by_cases h2 : c.vers ≠ 3
    · rw [if_pos h2, if_pos h2, if_neg (by decide)]; rfl
    · rw [if_neg h2, if_neg h2]
      by_cases h3 : 21 < c.proc ∨ c.prog = 100005 ∧ 5 < c.proc
      · rw [if_pos h3, if_pos h3, if_neg (by decide)]; rfl
      · rw [if_neg h3, if_neg h3, if_pos rfl]
/-- The program's reading is the document's. -/
theorem prs_parse (b : List Int) : prsP b = parseP b := by
  unfold prsP prsQ upP parseP
  have hE3 : E0 (opnP ⟨b, 0, 0⟩).2.2.e := opnP_e (.inl rfl)
  obtain ⟨⟨x, r1⟩, e1⟩ : ∃ a, rd32 ⟨b, 0, 0⟩ = a := ⟨_, rfl⟩
  obtain ⟨⟨kd, r2⟩, e2⟩ : ∃ a, rd32 r1 = a := ⟨_, rfl⟩
  obtain ⟨⟨vr, r3⟩, e3⟩ : ∃ a, rd32 r2 = a := ⟨_, rfl⟩
  have ho : opnP ⟨b, 0, 0⟩ = (x, if r3.e ≠ 0 then .num r3.e else if kd ≠ 0 then .num 31 else if vr ≠ 2 then .wrg 31 (nuL 4 [x, 1, 1, 0, 2, 2]) else .no, r3) := by unfold opnP; simp only [e1, e2, e3]
  rw [ho] at hE3 ⊢
  simp only at hE3
  simp only [e1, e2, e3]
  have w31 : ∀ E, E0 E → E ≠ 0 → wrgP x (.num E) = (31, []) := fun E h h0 => by
    unfold E0 at h
    show wrgN x E = _
    unfold wrgN
    rw [if_neg (by omega), if_neg (by omega), if_neg (by omega)]
  by_cases h1 : r3.e ≠ 0
  · rw [if_pos h1, if_pos (show r3.e ≠ 0 ∨ kd ≠ 0 from .inl h1)]
    simp only
    rw [w31 _ hE3 h1]
  · rw [if_neg h1]
    by_cases h2 : kd ≠ 0
    · rw [if_pos h2, if_pos (show r3.e ≠ 0 ∨ kd ≠ 0 from .inr h2)]
      simp only
      have : wrgP x (.num 31) = (31, []) := by show wrgN x 31 = _; unfold wrgN; rw [if_neg (by decide), if_neg (by decide), if_neg (by decide)]
      rw [this]
    · rw [if_neg h2, if_neg (show ¬ (r3.e ≠ 0 ∨ kd ≠ 0) from fun h => h.elim h1 h2)]
      by_cases h3 : vr ≠ 2
      · rw [if_pos h3, if_pos h3]
        rfl
      · rw [if_neg h3, if_neg h3]
        simp only
        obtain ⟨⟨pg, r4⟩, e4⟩ : ∃ a, rd32 r3 = a := ⟨_, rfl⟩
        obtain ⟨⟨vs, r5⟩, e5⟩ : ∃ a, rd32 r4 = a := ⟨_, rfl⟩
        obtain ⟨⟨pc, r6⟩, e6⟩ : ∃ a, rd32 r5 = a := ⟨_, rfl⟩
        obtain ⟨⟨k1, r7⟩, e7⟩ : ∃ a, rd32 r6 = a := ⟨_, rfl⟩
        obtain ⟨⟨l1, r8⟩, e8⟩ : ∃ a, rdBy 400 r7 = a := ⟨_, rfl⟩
        obtain ⟨⟨k2, r9⟩, e9⟩ : ∃ a, rd32 r8 = a := ⟨_, rfl⟩
        obtain ⟨⟨l2, r10⟩, e10⟩ : ∃ a, rdBy 400 r9 = a := ⟨_, rfl⟩
        have p1 : prfR r6 = (k1, l1, r8) := by unfold prfR; simp only [e7, e8]
        have p2 : prfR r8 = (k2, l2, r10) := by unfold prfR; simp only [e9, e10]
        have hE8 : E0 r10.e := by
          have := prfR_e (prfR_e (rd32_e (rd32_e (rd32_e hE3))))
          rw [e4] at this; simp only [e5] at this; simp only [e6] at this; simp only [p1] at this; simp only [p2] at this; exact this
        simp only [e4, e5, e6, p1, p2, e7, e8, e9, e10]
        by_cases h4 : r10.e ≠ 0
        · rw [if_pos h4, if_pos h4]
          simp only
          rw [w31 _ hE8 h4]
        · rw [if_neg h4, if_neg h4]
          have hcl : (clm k1 l1).1 = (crdP k1 l1).1 ∧ ((crdP k1 l1).1 = 0 → (clm k1 l1).2 = (crdP k1 l1).2) := by
            unfold clm
            split
            · exact ⟨rfl, fun _ => rfl⟩
            · rename_i hne; exact ⟨rfl, fun h => absurd h hne⟩
          unfold calP
          rw [hcl.1]
          obtain ⟨wy, hwy⟩ : ∃ z, whyP (crdP k1 l1).1 k2 l2 = z := ⟨_, rfl⟩
          rw [hwy]
          by_cases h5 : wy = 0
          · have hc0 : (crdP k1 l1).1 = 0 := by
              unfold whyP at hwy
              split at hwy
              · rename_i hh; exact hh.1
              · omega
            rw [if_pos h5]
            simp only [ne_eq, not_true_eq_false, if_false, h5]
            rw [hcl.2 hc0, jud_ask]
            simp only
            by_cases h6 : askP pg vs pc = 0
            · rw [if_pos h6, if_pos h6]
            · rw [if_neg h6, if_neg h6]
              rfl
          · rw [if_neg h5]
            simp only [ne_eq, h5, not_false_eq_true, if_true]
            rfl
/-- What Parse leaves. -/
def ParsePost (w : World) (R : Ca × Int × List Int) (e : Ending) (w' : World) : Prop := Below w.heap.size w w' ∧
  (R.2.1 = 0 → ∃ ag ng cg ab nb cb, e = .returned (.tuple #[.agg (caC R.1.xid R.1.prog R.1.vers R.1.proc R.1.cr.uid R.1.cr.gid (.slice ag ng cg) (.slice ab nb cb)), .nilIface]) ∧ UT w' (New w) ag R.1.cr.gids ∧ R.1.cr.gids.length = ng ∧ ng ≤ cg ∧ By w' (New w) ab R.1.body ∧ R.1.body.length = nb ∧ nb ≤ cb) ∧
  (R.2.1 ≠ 0 → ∃ g, e = .returned (.tuple #[.agg (caC 0 0 0 0 0 0 nilS nilS), .iface 52 (.pointer (some ⟨g, 0, none⟩))]) ∧ WrAt w' w.heap.size g R.2.1 R.2.2)
theorem sizeCall : (Tryd.prog.info? 46).map (·.size) = some 8 := by kernel_rfl
theorem sizeRg : (Tryd.prog.info? 73).map (·.size) = some 9 := by kernel_rfl
theorem caC_one (x p v k u g : Int) (ag : Option Addr) (ng cg : Nat) (ab : Option Addr) (nb cb : Nat) : (caC x p v k u g (.slice ag ng cg) (.slice ab nb cb)).all (·.oneCell') = true := by simp [Value.oneCell']
theorem rgC_one (q : Nat) (x p v k u g : Int) (ag : Option Addr) (ng cg : Nat) (ab : Option Addr) (nb cb : Nat) : (rgC q x p v k u g (.slice ag ng cg) (.slice ab nb cb)).all (·.oneCell') = true := by simp [Value.oneCell']
abbrev rgZ : Array Value := #[.pointer none, .int .u32 0, .int .u32 0, .int .u32 0, .int .u32 0, .int .u32 0, .int .u32 0, nilS, nilS]
theorem upP_l (r : Rd) : (upP r).2.2.l = r.l := by
  have h3 : (opnP r).2.2.l = r.l := by unfold opnP; simp only; rw [rd32_l, rd32_l, rd32_l]
  unfold upP
  obtain ⟨⟨x, er, r3⟩, ho⟩ : ∃ o, opnP r = o := ⟨_, rfl⟩
  rw [ho] at h3 ⊢
  simp only at h3 ⊢
  cases er with
  | num E => exact h3
  | wrg e l => exact h3
  | no =>
    have h8 : (prfR (prfR (rd32 (rd32 (rd32 r3).2).2).2).2.2).2.2.l = r.l := by rw [prfR_l, prfR_l, rd32_l, rd32_l, rd32_l]; exact h3
    simp only
    split
    · exact h8
    · split
      · exact h8
      · exact h8
theorem wrg_ne (x : Int) (e : Er) (h : ∀ a l, e = .wrg a l → a ≠ 0) : (wrgP x e).1 ≠ 0 := by
  cases e with
  | no => show (31 : Int) ≠ 0; decide
  | wrg a l => exact h a l rfl
  | num E => show (wrgN x E).1 ≠ 0; unfold wrgN; split; exact (by decide : (34 : Int) ≠ 0); split; exact (by decide : (35 : Int) ≠ 0); split; exact (by decide : (36 : Int) ≠ 0); exact (by decide : (31 : Int) ≠ 0)
theorem up_wrg {r : Rd} {a : Int} {l : List Int} (h : (upP r).2.1 = .wrg a l) : a ≠ 0 := by
  unfold upP at h
  obtain ⟨⟨x, er, r3⟩, ho⟩ : ∃ o, opnP r = o := ⟨_, rfl⟩
  rw [ho] at h
  simp only at h
  cases er with
  | num E => cases h
  | wrg e l =>
    unfold opnP at ho
    simp only [Prod.mk.injEq] at ho
    have h2 := ho.2.1
    split at h2
    · cases h2
    · split at h2
      · cases h2
      · split at h2
        · cases h2; cases h; decide
        · cases h2
  | no =>
    simp only at h
    split at h
    · cases h
    · split at h
      · cases h; decide
      · simp only at h
        split at h <;> cases h
set_option maxRecDepth 100000 in
set_option maxHeartbeats 8000000 in
theorem Parse_any (w : World) (hG : Gl w) (a : Option Addr) (n c : Nat) (b : List Int) (hn : b.length = n) (hnc : n ≤ c) (hl : n ≤ 900000) (hb : Bytes w a b) :
    Calls Tryd.prog 12 #[.slice a n c] w fun e w' => ParsePost w (parseP b) e w' := by
  rw [← prs_parse]
  obtain ⟨g0, hg0⟩ : ∃ g, w.heap.size = g := ⟨_, rfl⟩
  obtain ⟨W1, hW1⟩ : ∃ W, W = w.alloc (.cells (caC 0 0 0 0 0 0 nilS nilS) 46) := ⟨_, rfl⟩
  have b1 : Below w.heap.size w W1 := by rw [hW1]; exact below_alloc (Below.refl _ _) (Nat.le_refl _) _
  have z1 : W1.heap[g0]? = some (.cells (caC 0 0 0 0 0 0 nilS nilS) 46 (0, 0)) := by rw [hW1, ← hg0]; exact alloc_new w _
  have HNR := hid (NewReader_any W1 a n c b hn hl (hb.later b1))
  obtain ⟨⟨C, er, rr⟩, hU⟩ : ∃ u, upP ⟨b, 0, 0⟩ = u := ⟨_, rfl⟩
  have hul : rr.l = b := by have := upP_l ⟨b, 0, 0⟩; rw [hU] at this; exact this
  obtain ⟨PR, hPR⟩ : ∃ z, prsP b = z := ⟨_, rfl⟩
  have hP : prsQ (C, er, rr) b = PR := by rw [← hPR]; unfold prsP; rw [hU]
  rw [hPR]
  have hnum : ∀ E, er = .num E → E ≠ 0 ∧ E ≠ 33 := fun E h => up_num (r := ⟨b, 0, 0⟩) (.inl rfl) (by rw [hU]; exact h)
  have hwrg : ∀ a l, er = .wrg a l → a ≠ 0 := fun a l h => up_wrg (r := ⟨b, 0, 0⟩) (by rw [hU]; exact h)
  have HXU : Hid (IsU C.xid) := hid (by
    have hx : C.xid = (opnP ⟨b, 0, 0⟩).1 := by
      have h1 : (upP ⟨b, 0, 0⟩).1 = C := by rw [hU]
      rw [← h1]
      unfold upP
      split
      · simp only; split; rfl; split <;> rfl
      · rfl
    rw [hx]
    unfold opnP
    exact rd32_u (r := ⟨b, 0, 0⟩) hb.isB)
  have HUP := hid (fun W p q (h : RY W 103 p ⟨b, 0, 0⟩) hq hpq => upTo_any (w := W) (p := p) (q := q) h hb.isB hq hpq)
  rw [hU] at HUP
  have HUL := hid hul
  have HP := hid hP
  have HNUM := hid hnum
  have HWRG := hid hwrg
  have HZ1 := hid z1
  have HB1 := hid b1
  have HGL := hid hG
  have HBY := hid hb
  have HNN := hid hn
  have HNC := hid hnc
  have HG0 : Hid (g0 < W1.heap.size) := hid (Array.getElem?_eq_some_iff.1 z1).1
  have hW1' := hW1.symm
  clear hb b1 z1 hW1 hul hP hPR hnum hwrg hG hU hn
  go_enter Tryd.func12, Tryd.ntmps12
  go_upto_region 3 with (first
    | (go_at_call 22
       (try rw [hW1'])
       refine HNR.out.mono ?_
       rintro e w2 ⟨p, rfl, hp1, hx, hp2, hb2, hp3⟩
       have hx0 := hx (fun b => p ≤ b) (Nat.le_refl _) (fun b _ h1 h2 => by omega)
       obtain ⟨q, hq⟩ : ∃ g, w2.heap.size = g := ⟨_, rfl⟩
       obtain ⟨W3, hW3⟩ : ∃ W, W = w2.alloc (.cells rgZ 73) := ⟨_, rfl⟩
       have b3 : Below w2.heap.size w2 W3 := by rw [hW3]; exact below_alloc (Below.refl _ _) (Nat.le_refl _) _
       have z3 : W3.heap[q]? = some (.cells rgZ 73 (0, 0)) := by rw [hW3, ← hq]; exact alloc_new w2 _
       obtain ⟨W4, hW4⟩ : ∃ W, W = W3.setRow q (rgC p 0 0 0 0 0 0 nilS nilS) := ⟨_, rfl⟩
       have z4 : W4.heap[q]? = some (.cells (rgC p 0 0 0 0 0 0 nilS nilS) 73 (0, 0)) := by rw [hW4]; exact setRow_heap _ q _ _ _ _ z3
       have hm4 : Mods (fun b => b = q) W3 W4 := by rw [hW4]; exact setRow_mods _ _ _
       have hpq : p < q := by omega
       have hx4 := RY.side (RX.later hx0 b3) hm4 (fun b hb => by have h : b = q := hb; omega)
       have hsz := HG0.out
       have hb4 : Below W1.heap.size W1 W4 := hm4.to_below (hb2.trans (b3.mono hb2.size)) (by have := hb2.size; have := b3.size; omega) (fun b hb => by have h : b = q := hb; have := hb2.size; omega)
       have HUP4 := hid (HUP.out W4 p q hx4 z4 hpq)
       have HZ3 := hid z3
       have HB4 := hid hb4
       have HPQ := hid (And.intro hp1 hpq)
       have HQS : Hid (q < W4.heap.size) := hid (Array.getElem?_eq_some_iff.1 z4).1
       have hW3' := hW3.symm
       have hW4' := hW4.symm
       clear hx hb2 b3 z3 z4 hm4 hx0 hx4 hpq hb4 hW3 hW4 hp1 hp2 hp3 hsz HNR HUP)
    | ((try rw [hW3']); refine wpList_store_row rfl 73 _ _ rfl q (rgC p 0 0 0 0 0 0 nilS nilS) rfl rfl 73 _ HZ3.out sizeRg rfl (by simp [Value.oneCell']) ?_; (try rw [hW4']))
    | (go_at_call 23
       refine HUP4.out.mono ?_
       rintro e w5 ⟨⟨v5, rfl, hv5⟩, hx5, hm5, pr, vv, kk, uu, gg, ag, ng, cg, hq5, hok5⟩
       simp only at hv5 hx5 hq5 hok5
       have hW5 : Below w.heap.size w w5 := hm5.to_below (HB1.out.trans (HB4.out.mono HB1.out.size)) (by have := HB1.out.size; have := HB4.out.size; omega) (fun b hb => by have := HPQ.out; have := HB1.out.size; rcases hb with h | h <;> omega)
       have hz5 := (hm5.block g0 (by have := HG0.out; have := HB4.out.size; omega) (fun e => by have := HPQ.out; have := HG0.out; rcases e with h | h <;> omega)).trans ((HB4.out.block g0 HG0.out).trans HZ1.out)
       have HV5 := hid (hv5.mono (B' := w.heap.size) (by have := HB1.out.size; have := HB4.out.size; omega))
       have HX5 := hid hx5
       have HQ5 := hid hq5
       have HOK := hid hok5
       have HW5 := hid hW5
       have HZ5 := hid hz5
       have HGL5 := hid (HGL.out.later hW5)
       have y1 := cell_of hq5 (i := 1) (v := .int .u32 C.xid) rfl
       clear hv5 hx5 hm5 hq5 hok5 hW5 hz5 HUP4))
  have HSZ : Hid (w.heap.size ≤ W4.heap.size) := hid (by have := HB1.out.size; have := HB4.out.size; omega)
  have HWG : Hid (∀ X : Nat → Prop, True) := hid (fun _ => trivial)
  cases er with
  | num E =>
    obtain rfl := HV5.out
    have hPR := HP.out
    simp only [prsQ] at hPR
    have HPR := hid hPR
    clear hPR
    go_wp2_with (first
      | (go_at_call 24
         refine (wrong_num w5 C.xid HXU.out HGL5.out E (HNUM.out E rfl).1 (HNUM.out E rfl).2).mono ?_; rintro r w6 ⟨g6, rfl, hh6, hb6⟩; replace hh6 := hh6.mono HW5.out.size
         have hz6 := (hb6.block g0 (Array.getElem?_eq_some_iff.1 HZ5.out).1).trans HZ5.out
         have HZ6 := hid hz6
         have HB6 := hid (HW5.out.trans (hb6.mono HW5.out.size))
         have HH6 := hid hh6
         clear hb6 hz6 hh6)
      | (refine wpList_store_row rfl 46 _ _ rfl g0 (caC 0 0 0 0 0 0 nilS nilS) rfl rfl 46 _ HZ6.out sizeCall rfl (caC_one _ _ _ _ _ _ _ _ _ _ _ _) ?_))
    refine bodyPost_ret (results_ct rfl _ _ g0 (caC 0 0 0 0 0 0 nilS nilS) _ _ rfl (setRow_heap _ g0 _ _ _ _ HZ6.out) Tryd.underlying46 sizeCall) rfl ?_
    have hq := setRow_mods w6 g0 (caC 0 0 0 0 0 0 nilS nilS)
    rw [← HPR.out]
    have hyw := HH6.out
    obtain ⟨h1, aa, nn, cc, h2, h3, h4⟩ := hyw
    have h3' := h3.off HZ6.out (by decide)
    have hgg : g6 ≠ g0 := fun e => by
      rw [e, HZ6.out] at h2
      simp only [Option.some.injEq, Obj.cells.injEq] at h2
      exact absurd h2.2.1 (by decide)
    refine ⟨hq.to_below HB6.out HB6.out.size (fun b hb => by have h : b = g0 := hb; omega), fun h => absurd h (wrg_ne _ _ HWRG.out), fun _ => ⟨g6, rfl, h1, aa, nn, cc, (hq.block _ (Array.getElem?_eq_some_iff.1 h2).1 hgg).trans h2, (h3'.side hq (fun b hb _ e => hb.2 e)).weak (fun b hb _ => hb.1), h4⟩⟩
  | wrg ew lw =>
    obtain ⟨g6, a6, n6, c6, rfl, hwr⟩ := HV5.out; have HWR := hid (show WrAt w5 w.heap.size g6 ew lw from ⟨hwr.1, a6, n6, c6, hwr.2⟩); clear hwr
    have hPR := HP.out
    simp only [prsQ] at hPR
    have HPR := hid hPR
    clear hPR
    go_wp2_with (first
      | (go_at_call 24
         refine (wrong_wrg w5 C.xid HGL5.out w.heap.size g6 ew lw HWR.out HW5.out.size).mono ?_; rintro r w6 ⟨rfl, hh6, hb6⟩
         have hz6 := (hb6.block g0 (Array.getElem?_eq_some_iff.1 HZ5.out).1).trans HZ5.out
         have HZ6 := hid hz6
         have HB6 := hid (HW5.out.trans (hb6.mono HW5.out.size))
         have HH6 := hid hh6
         clear hb6 hz6 hh6)
      | (refine wpList_store_row rfl 46 _ _ rfl g0 (caC 0 0 0 0 0 0 nilS nilS) rfl rfl 46 _ HZ6.out sizeCall rfl (caC_one _ _ _ _ _ _ _ _ _ _ _ _) ?_))
    refine bodyPost_ret (results_ct rfl _ _ g0 (caC 0 0 0 0 0 0 nilS nilS) _ _ rfl (setRow_heap _ g0 _ _ _ _ HZ6.out) Tryd.underlying46 sizeCall) rfl ?_
    have hq := setRow_mods w6 g0 (caC 0 0 0 0 0 0 nilS nilS)
    rw [← HPR.out]
    have hyw := HH6.out
    obtain ⟨h1, aa, nn, cc, h2, h3, h4⟩ := hyw
    have h3' := h3.off HZ6.out (by decide)
    have hgg : g6 ≠ g0 := fun e => by
      rw [e, HZ6.out] at h2
      simp only [Option.some.injEq, Obj.cells.injEq] at h2
      exact absurd h2.2.1 (by decide)
    refine ⟨hq.to_below HB6.out HB6.out.size (fun b hb => by have h : b = g0 := hb; omega), fun h => absurd h (wrg_ne _ _ HWRG.out), fun _ => ⟨g6, rfl, h1, aa, nn, cc, (hq.block _ (Array.getElem?_eq_some_iff.1 h2).1 hgg).trans h2, (h3'.side hq (fun b hb _ e => hb.2 e)).weak (fun b hb _ => hb.1), h4⟩⟩
  | no =>
    obtain rfl := HV5.out
    obtain ⟨rfl, rfl, rfl, rfl, rfl, hut, hng, hcg⟩ := HOK.out rfl
    have hPR := HP.out
    simp only [prsQ] at hPR
    have HPR := hid hPR
    obtain ⟨k, hk⟩ : ∃ k, rr.k = k := ⟨_, rfl⟩
    have hkl : k ≤ n := by have h1 := HX5.out.hk; have h2 := HUL.out; rw [h2] at h1; have := HNN.out; omega
    obtain ⟨a7, hcut, hby7⟩ := cut_l a n c k hkl HNC.out
    have HBD := hid (hby7 w b HNN.out HBY.out)
    have HAT := hid (RAt_any HX5.out)
    rw [hk] at HAT HPR
    obtain ⟨nb, hnb⟩ : ∃ m, n - k = m := ⟨_, rfl⟩
    rw [hnb] at hcut
    have HNB : Hid ((b.drop k).length = nb) := hid (by rw [List.length_drop, HNN.out]; exact hnb)
    have HCL := hid (Clone_all w5 a7 nb (c - k) (b.drop k) HNB.out (by omega) (HBD.out.later HW5.out))
    have HUT := hid hut
    have HNG := hid (And.intro hng hcg)
    obtain ⟨ck, hck⟩ : ∃ m, c - k = m := ⟨_, rfl⟩
    rw [hck] at hcut HCL
    have y0 := cell_of HQ5.out (i := 0) (v := .pointer (some ⟨p, 0, none⟩)) rfl
    clear hPR hk hkl hby7 hnb hut hng hcg hck
    go_wp2_with (first
      | (go_at_call 26; refine HAT.out.mono ?_; rintro e w6 ⟨rfl, hw6⟩; rw [hw6]; clear hw6 HAT)
      | (go_at_call 25
         refine HCL.out.mono ?_
         rintro e w7 ⟨a8, c8, rfl, hy8, hc8, hb8⟩
         have hq7 := (hb8.block q (Array.getElem?_eq_some_iff.1 HQ5.out).1).trans HQ5.out
         have hz7 := (hb8.block g0 (Array.getElem?_eq_some_iff.1 HZ5.out).1).trans HZ5.out
         have y8 := cell_of hq7 (i := 8) (v := nilS) rfl
         have f8 := froz_of hq7 8
         obtain ⟨W8, hW8⟩ : ∃ W, W = w7.setCell ⟨q, 8, none⟩ (.slice a8 nb c8) := ⟨_, rfl⟩
         have z8 : W8.heap[q]? = some (.cells (rgC p C.xid C.prog C.vers C.proc C.cr.uid C.cr.gid (.slice ag ng cg) (.slice a8 nb c8)) 73 (0, 0)) := by rw [hW8]; exact setc hq7 8 _
         have hm8 : Mods (fun b => b = q) w7 W8 := by rw [hW8]; exact (Mods.refl _ _).setCell q 8 _ rfl
         have hgq : g0 ≠ q := by have := HG0.out; have := HPQ.out; omega
         have HZ8 := hid ((hm8.block g0 (Array.getElem?_eq_some_iff.1 hz7).1 hgq).trans hz7)
         have HQ8 := hid z8
         have HW7 := hid (HW5.out.trans (hb8.mono HW5.out.size))
         have HW8 := hid (hm8.to_below HW7.out HW7.out.size (fun b hb => by have h : b = q := hb; have := HPQ.out; have := HB1.out.size; omega))
         have HY8 := hid (((hy8.off hq7 (by decide)).side hm8 (fun b hb _ e => hb.2 e)).weak (S' := New w) (fun b hb _ => Nat.le_trans HW5.out.size hb.1))
         have HU8 := hid (((HUT.out.later hb8).keep hm8.size (fun b hb hl => hm8.block b hl (fun e => by have h : b = q := e; have h2 : W4.heap.size ≤ b := hb; have := HQS.out; omega))))
         have HC8 := hid hc8
         have hW8' := hW8.symm
         clear hy8 hc8 hb8 hq7 hz7 z8 hm8 hgq hW8 HCL)
      | ((try rw [hW8']); refine wpList_load_mid rfl 46 _ rfl q 1 rfl [.int .u32 C.xid, .int .u32 C.prog, .int .u32 C.vers, .int .u32 C.proc, .int .u32 C.cr.uid, .int .u32 C.cr.gid, .slice ag ng cg, .slice a8 nb c8] _ (World.rangeAt_of_block HQ8.out 1 8) Tryd.underlying46 rfl sizeCall ?_)
      | (refine wpList_store_row rfl 46 _ _ rfl g0 (caC C.xid C.prog C.vers C.proc C.cr.uid C.cr.gid (.slice ag ng cg) (.slice a8 nb c8)) rfl rfl 46 _ HZ8.out sizeCall rfl (caC_one _ _ _ _ _ _ _ _ _ _ _ _) ?_))
    refine bodyPost_ret (results_ct rfl _ _ g0 (caC C.xid C.prog C.vers C.proc C.cr.uid C.cr.gid (.slice ag ng cg) (.slice a8 nb c8)) _ _ rfl (setRow_heap _ g0 _ _ _ _ HZ8.out) Tryd.underlying46 sizeCall) rfl ?_
    have hq := setRow_mods W8 g0 (caC C.xid C.prog C.vers C.proc C.cr.uid C.cr.gid (.slice ag ng cg) (.slice a8 nb c8))
    rw [← HPR.out]
    refine ⟨hq.to_below HW8.out HW8.out.size (fun b hb => by have h : b = g0 := hb; omega), fun _ => ⟨ag, ng, cg, a8, nb, c8, rfl, ?_, HNG.out.1, HNG.out.2, ?_, HNB.out, HC8.out⟩, fun h => absurd rfl h⟩
    · exact (HU8.out.keep hq.size (fun b hb hl => hq.block b hl (fun e => by have h : b = g0 := e; have h2 : W4.heap.size ≤ b := hb; have := HQS.out; have := HPQ.out; have := HG0.out; omega))).weak (fun b hb _ => Nat.le_trans HSZ.out hb)
    · exact ((HY8.out.off HZ8.out (by decide)).side hq (fun b hb _ e => hb.2 e)).weak (fun b hb _ => hb.1)
end Go.Proofs.YtbfdkbdjipiliaaDoor
