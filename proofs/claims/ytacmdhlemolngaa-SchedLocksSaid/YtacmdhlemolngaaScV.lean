/- SchedWakes: those that sleep on a channel are woken in the order in which they fell asleep. -/
import Derived.Test.YtacmdhlemolngaaScL
import Derived.Test.YtacmdhlemolngaaScU
namespace Go.Proofs.Ytacmdhlemolngaa
open Go.RowKit Go.Maps

theorem nodup_le : ∀ (l m : List Int), l.Nodup → (∀ x ∈ l, x ∈ m) → l.length ≤ m.length
  | [], m, _, _ => by simp
  | x :: r, m, hn, h => by
    have h1 := nodup_le r (m.erase x) (List.nodup_cons.1 hn).2 (fun y hy => by
      have hne : y ≠ x := fun e => (List.nodup_cons.1 hn).1 (by rw [← e]; exact hy)
      exact (List.mem_erase_of_ne hne).2 (h y (List.mem_cons_of_mem _ hy)))
    have h2 := List.length_erase_of_mem (h x (by simp))
    have h3 : 0 < m.length := List.length_pos_of_mem (h x (by simp))
    rw [List.length_cons]
    omega
/-- Workers that are ready or asleep. -/
structure Wa (A : Ab) (N : Nat) : Prop where
  inv : Inv A none
  len : A.ws.length = N
  st : ∀ x, A.has x = true → (A.wk x).st = 1 ∨ (A.wk x).st = 2
theorem Wa.start (T : TypeId) (cs : List Nat) : Wa (tS T cs 0) cs.length := ⟨tS_inv _ _ _, tS_len _ _ _, fun x hx => by
  rw [tS_has] at hx
  simp at hx
  obtain ⟨i, rfl⟩ : ∃ i : Nat, x = i := ⟨x.toNat, by omega⟩
  rw [tS_wk T cs 0 i (by omega)]
  exact .inl rfl⟩
theorem Wa.has {A : Ab} {N : Nat} (h : Wa A N) (i : Nat) : A.has (i : Int) = decide (i < N) := by unfold Ab.has; rw [h.len]; simp
theorem Wa.allow {A : Ab} {N : Nat} (h : Wa A N) {x : Int} (hx : A.has x = true) : ((A.wk x).st = 1 ∧ allowR A x 0 = 0) ∨ ((A.wk x).st = 2 ∧ allowR A x 0 = 8) := by
  rcases h.st x hx with e | e
  · exact .inl ⟨e, by unfold allowR; rw [hx, e]; rfl⟩
  · exact .inr ⟨e, by unfold allowR; rw [hx, e]; rfl⟩
theorem Wa.sleep {A : Ab} {N : Nat} (h : Wa A N) {x k : Int} (hx : A.has x = true) (h1 : (A.wk x).st = 1) (hI : IsI k) : Wa (A.sleep x k) N ∧ ∀ j, (A.sleep x k).sl j = if j = k then A.sl k ++ [x] else A.sl j := by
  have hws : (A.sleep x k).ws = setw A.ws x 2 k := rfl
  refine ⟨⟨h.inv.sleep hx h1 hI, by rw [hws, setw_len]; exact h.len, fun y hy => ?_⟩, fun j => rfl⟩
  rw [has_setw hws] at hy
  by_cases e : y = x
  · rw [e, wk_setw_same hx hws]; exact .inr rfl
  · rw [wk_setw_other hx (has_bd hy).1 e hws]; exact h.st y hy
theorem stateR_has {A : Ab} {x : Int} (h : A.has x = true) : stateR A x = .tuple #[.int .i64 (A.wk x).st, .int .i64 0] := by unfold stateR; rw [h]; rfl
/-- The ready ones below i, rising. -/
def rdl (A : Ab) (i : Nat) : List Int := ((List.range i).filter fun j => decide ((A.wk ((j : Nat) : Int)).st = 1)).map fun (j : Nat) => (j : Int)
theorem rdl_succ (A : Ab) (i : Nat) : rdl A (i + 1) = if (A.wk (i : Int)).st = 1 then rdl A i ++ [(i : Int)] else rdl A i := by
  unfold rdl
  rw [List.range_succ, List.filter_append, List.map_append]
  split
  · rename_i h; simp [h]
  · rename_i h; simp [h]
theorem rdl_nd (A : Ab) (i : Nat) : (rdl A i).Nodup := by
  unfold rdl
  rw [List.nodup_iff_pairwise_ne, List.pairwise_map]
  refine ((List.nodup_iff_pairwise_ne.1 List.nodup_range).filter _).imp (fun {a b} hne e => hne (by omega))
theorem Wa.rdl_len {A : Ab} {N : Nat} (h : Wa A N) : (rdl A N).length = A.q.length := by
  have hm : ∀ x, x ∈ rdl A N ↔ x ∈ A.q := fun x => by
    unfold rdl
    simp only [List.mem_map, List.mem_filter, List.mem_range, decide_eq_true_eq]
    constructor
    · rintro ⟨j, ⟨h1, h2⟩, rfl⟩
      exact h.inv.q2 _ (by rw [h.has]; simpa using h1) h2 (by simp) (by simp)
    · intro hx
      have h1 := h.inv.q1 x hx
      have h2 := has_bd h1.1
      rw [h.len] at h2
      exact ⟨x.toNat, ⟨by omega, by rw [show ((x.toNat : Nat) : Int) = x by omega]; exact h1.2.1⟩, by omega⟩
  exact Nat.le_antisymm (nodup_le _ _ (rdl_nd A N) (fun x hx => (hm x).1 hx)) (nodup_le _ _ h.inv.ndq (fun x hx => (hm x).2 hx))
theorem rdl_le (A : Ab) (i : Nat) : (rdl A i).length ≤ i := by
  unfold rdl
  rw [List.length_map]
  exact Nat.le_trans (List.length_filter_le _ _) (by simp)
theorem Wa.wake {A : Ab} {N : Nat} (h : Wa A N) (k : Int) : (A.wake k).q = A.q ++ A.sl k ∧ (A.wake k).sl k = [] ∧ Inv (A.wake k) none ∧ (A.wake k).ws.length = N := by
  refine ⟨rfl, ?_, h.inv.wake k, ?_⟩
  · show upd A.sl k [] k = []
    rw [upd_same]
  · show (rdy A.ws (A.sl k)).length = N
    rw [rdy_len]; exact h.len
set_option maxRecDepth 100000 in
set_option maxHeartbeats 16000000 in
theorem Wakes_any (w0 : World) (x y : Int) (ad : Option Addr) (on : List Int) (cap ln : Nat) (hon : Ints w0 ad on) (hln : on.length = ln) (hl : ln ≤ maxLen) :
    Calls Try.prog 4 #[.int .i64 x, .slice ad ln cap, .int .i64 y] w0 fun e w' => e = .returned (.bool true) ∧ Below w0.heap.size w0 w' := by
  have HKN := hid (known_any w0)
  obtain ⟨N, hN, hN1, hN2⟩ : ∃ N : Nat, 1 + wi x 12 = (N : Int) ∧ 1 ≤ N ∧ N ≤ 12 := by
    have := wi_bd x 12 (by omega)
    exact ⟨(1 + wi x 12).toNat, by omega, by omega, by omega⟩
  have HW1 : Hid (∀ w : World, Calls Try.prog 24 #[.int .i64 x, .int .i64 12] w fun e w' => e = .returned (.int .i64 (wi x 12)) ∧ w' = w) := hid (fun w => within_any x 12 (by omega) (by omega) w)
  have HW3 : Hid (∀ (z : Int) (w : World), Calls Try.prog 24 #[.int .i64 z, .int .i64 3] w fun e w' => e = .returned (.int .i64 (wi z 3)) ∧ w' = w) := hid (fun z w => within_any z 3 (by omega) (by omega) w)
  have HI3 : Hid (∀ z, IsI (wi z 3)) := hid (fun z => by have := wi_bd z 3 (by omega); exact isI_of (by omega) (by omega))
  have hwr : IntKind.i64.wrap (1 + wi x 12) = (N : Int) := by rw [hN]; exact IntWalk.i64_in _ (by omega)
  have HON := hid hon
  have HLN := hid hln
  have hlm : (ln : Int) ≤ 9223372036854775807 := by unfold maxLen at hl; omega
  clear hN hon hln hl
  generalize wi x 12 = wx at *
  go_enter Try.func4, Try.ntmps4
  go_wp2_with fail
  refine HKN.out.mono ?_
  rintro e w1 ⟨rfl, hb1⟩
  have HB1 := hid hb1
  clear hb1
  go_wp2_with fail
  refine (HW1.out w1).mono ?_
  rintro e w2 ⟨rfl, hw2⟩
  rw [hw2]
  clear hw2
  go_wp2_with fail
  refine (some_any w1 N hN2).mono ?_
  rintro e w2 ⟨p, lab, cs, rfl, hS, hcs, hL⟩
  have HS := hid hS
  have HL : Hid (Lb w0 w2 lab) := hid ⟨fun b hb => hL.1 b (Nat.lt_of_lt_of_le hb HB1.out.size), HB1.out.trans (hL.2.mono HB1.out.size)⟩
  have HWA : Hid (Wa (tS 106 cs 0) N) := hid (by rw [← hcs]; exact Wa.start _ _)
  have HCS := hid hcs
  clear hS hcs hL
  go_wp2_with fail
  refine (HW3.out y w2).mono ?_
  rintro e w3 ⟨rfl, hw3⟩
  rw [hw3]
  clear hw3
  have HIW := hid (HI3.out y)
  generalize wi y 3 = wk at *
  go_wp2_with fail
  go_loopw [8, 10] (fun v i wr => ∃ (k : Nat) (lab1 : Nat → Own) (A : Ab), k ≤ N ∧ i = .int .i64 k ∧ Sc wr p lab1 A (2 * k) ∧ Wa A N ∧ Lr w0 wr lab1 v (A.sl wk) ∧ Lb w0 wr lab1) (fun _ i _ => N - (RowKit.intOf i).toNat)
  case atStart => exact ⟨0, lab, tS 106 cs 0, Nat.zero_le _, rfl, HS.out, HWA.out, Lr.nil _ _ _, HL.out⟩
  case round =>
    obtain ⟨k, lab1, A, hk, rfl, hS1, hA1, hR1, hL1⟩ := hrel
    have HS1 := hid hS1
    have HA1 := hid hA1
    have HR1 := hid hR1
    have HL1 := hid hL1
    by_cases hlt : k < N
    · have hki : (k : Int) < N := by omega
      have hN0 : ¬ ((N : Int) = 0) := by omega
      obtain ⟨id, hid1, hid2⟩ : ∃ id : Nat, (5 * (k : Int) + (N : Int)).tmod (N : Int) = (id : Int) ∧ id < N := by
        refine ⟨(5 * k + N) % N, ?_, Nat.mod_lt _ (by omega)⟩
        rw [Int.tmod_eq_emod_of_nonneg (by omega)]
        rfl
      have hw5 : IntKind.i64.wrap (5 * (k : Int)) = 5 * (k : Int) := IntWalk.i64_in _ (by omega)
      have hw6 : IntKind.i64.wrap (5 * (k : Int) + (N : Int)) = 5 * (k : Int) + (N : Int) := IntWalk.i64_in _ (by omega)
      have hhas : A.has (id : Int) = true := by rw [hA1.has]; simpa using hid2
      have HST := hid (State_any hS1 (id : Int))
      rw [stateR_has hhas] at HST
      have HSL : Hid (∀ c, IsI c → Calls Try.prog 26 #[.pointer (some ⟨p, 0, none⟩), .int .i64 (id : Int), .int .i64 c] wr fun e w' => e = .returned (.int .i64 (allowR A id 0)) ∧ Goes wr w' p lab1 (sleepS A id c) (2 * k + 2)) := hid (fun c hc => Sleep_any hS1 (hA1.inv.fit (by rw [hA1.len]; omega)) (by omega) id c hc)
      have HSA := hid (hA1.allow hhas)
      have HSS : Hid (∀ c, IsI c → (A.wk id).st = 1 → sleepS A id c = A.sleep id c ∧ Wa (A.sleep id c) N ∧ ∀ j, (A.sleep id c).sl j = if j = c then A.sl c ++ [(id : Int)] else A.sl j) := hid (fun c hc h1 => ⟨by
        unfold sleepS
        rw [if_pos]
        rcases HSA.out with ⟨_, e⟩ | ⟨e, _⟩
        · exact e
        · omega, hA1.sleep hhas h1 hc⟩)
      have HSN : Hid (∀ c, (A.wk id).st = 2 → sleepS A id c = A) := hid (fun c h2 => by
        unfold sleepS
        rw [if_neg]
        rcases HSA.out with ⟨e, _⟩ | ⟨_, e⟩
        · omega
        · rw [e]; omega)
      have HQL : Hid (∀ z, z = A.sl wk → z.length ≤ 12) := hid (fun z hz => by
        rw [hz]
        have := few A.ws.length _ (hA1.inv.nds wk) (fun x hx => has_bd (hA1.inv.s1 wk x hx).1)
        rw [hA1.len] at this
        omega)
      clear hS1 hA1 hR1 hL1
      obtain ⟨a8, c8, e8⟩ := owns_slice HR1.out.1
      subst e8
      generalize hln8 : (A.sl wk).length = ln8 at *
      clear hln8
      generalize hst : (A.wk (id : Int)).st = st at *
      generalize har : allowR A (id : Int) 0 = ar at *
      clear hst har
      by_cases hon0 : 0 < ln
      · have hp : (0 : Int) < (ln : Int) := by omega
        have hp0 : ¬ ((ln : Int) = 0) := by omega
        obtain ⟨ix, hix, hixl⟩ : ∃ ix : Nat, (k : Int).tmod (ln : Int) = (ix : Int) ∧ ix < ln := ⟨k % ln, by rw [Int.tmod_eq_emod_of_nonneg (by omega)]; rfl, Nat.mod_lt _ (by omega)⟩
        obtain ⟨bo, off, had, hcell, _⟩ := HON.out ix (by rw [HLN.out]; exact hixl)
        subst had
        replace hcell := cell_later HL1.out.2 hcell
        have hixi : (ix : Int) < (ln : Int) := by omega
        have HC := hid (HW3.out (on.getD ix 0) wr)
        have HIC := hid (HI3.out (on.getD ix 0))
        generalize wi (on.getD ix 0) 3 = cv at *
        generalize on.getD ix 0 = ov at *
        rcases HSA.out with ⟨s1, s2⟩ | ⟨s1, s2⟩
        · subst s1 s2
          obtain ⟨k1, k2, k3⟩ := HSS.out cv HIC.out rfl
          have HSLc := hid (HSL.out cv HIC.out)
          rw [k1] at HSLc
          have HK2 := hid k2
          have HK3 := hid k3
          clear k1 k2 k3 HSS HSN HSL HSA
          by_cases hcw : cv = wk
          · subst hcw
            go_wp2_with (first | (go_at_call 24; refine HC.out.mono ?_; rintro e w4 ⟨rfl, hw4⟩; rw [hw4]; clear hw4) | (go_at_call 22; refine HST.out.mono ?_; rintro e w4 ⟨rfl, hw4⟩; rw [hw4]; clear hw4))
            refine HSLc.out.mono ?_
            rintro e w5 ⟨rfl, lab5, h5, hK5⟩
            have HR5 := hid (HR1.out.keep hK5)
            have HL5 := hid (HL1.out.keep hK5)
            obtain ⟨v6, w6, hap, hR6, hm6, hv6⟩ := HR5.out.push HL5.out.2.size h5.lt (by have := HQL.out _ rfl; omega) (id : Int)
            have H6 := hid (HR5.out.off h5 hm6)
            have HR6 := hid hR6
            have HL6 := hid (HL5.out.mods hm6 (fun b e => (HR5.out.2 b e).2))
            obtain ⟨a9, c9, e9⟩ := owns_slice hR6.1
            subst e9
            clear h5 hK5 hR6 hm6 hv6
            generalize hl9 : (A.sl _ ++ [(id : Int)]).length = ln9 at *
            go_wp2_with (at_builtin; refine wpList_append_run rfl _ _ 31 rfl rfl rfl hap ?_)
            go_roundw
            case rel => exact ⟨k + 1, lab5, A.sleep id cv, by omega, by go_num, H6.out.more (by omega), HK2.out, by rw [HK3.out, if_pos rfl]; exact HR6.out, HL6.out⟩
            case measure => simp [RowKit.intOf]; omega
          · have hcb : ((cv) == wk) = false := by simpa using hcw
            go_wp2_with (first | (go_at_call 24; refine HC.out.mono ?_; rintro e w4 ⟨rfl, hw4⟩; rw [hw4]; clear hw4) | (go_at_call 22; refine HST.out.mono ?_; rintro e w4 ⟨rfl, hw4⟩; rw [hw4]; clear hw4) | (go_at_call 26; refine HSLc.out.mono ?_; rintro e w5 ⟨rfl, lab5, h5, hK5⟩; have H5 := hid h5; have HR5 := hid (HR1.out.keep hK5); have HL5 := hid (HL1.out.keep hK5); clear h5 hK5))
            go_roundw
            case rel => exact ⟨k + 1, lab5, A.sleep id cv, by omega, by go_num, H5.out.more (by omega), HK2.out, by rw [HK3.out, if_neg (fun e => hcw e.symm)]; exact HR5.out, HL5.out⟩
            case measure => simp [RowKit.intOf]; omega
        · subst s1 s2
          have HSLc := hid (HSL.out cv HIC.out)
          rw [HSN.out cv rfl] at HSLc
          clear HSS HSN HSL HSA
          go_wp2_with (first | (go_at_call 24; refine HC.out.mono ?_; rintro e w4 ⟨rfl, hw4⟩; rw [hw4]; clear hw4) | (go_at_call 22; refine HST.out.mono ?_; rintro e w4 ⟨rfl, hw4⟩; rw [hw4]; clear hw4) | (go_at_call 26; refine HSLc.out.mono ?_; rintro e w5 ⟨rfl, lab5, h5, hK5⟩; have H5 := hid h5; have HR5 := hid (HR1.out.keep hK5); have HL5 := hid (HL1.out.keep hK5); clear h5 hK5))
          go_roundw
          case rel => exact ⟨k + 1, lab5, A, by omega, by go_num, H5.out.more (by omega), HA1.out, HR5.out, HL5.out⟩
          case measure => simp [RowKit.intOf]; omega
      · have hp : ¬ ((0 : Int) < (ln : Int)) := by omega
        obtain ⟨cv, hcv⟩ : ∃ cv : Int, cv = 0 := ⟨0, rfl⟩
        have HIC : Hid (IsI 0) := hid (isI_of (by omega) (by omega))
        rcases HSA.out with ⟨s1, s2⟩ | ⟨s1, s2⟩
        · subst s1 s2
          obtain ⟨k1, k2, k3⟩ := HSS.out (0 : Int) HIC.out rfl
          have HSLc := hid (HSL.out (0 : Int) HIC.out)
          rw [k1] at HSLc
          have HK2 := hid k2
          have HK3 := hid k3
          clear k1 k2 k3 HSS HSN HSL HSA
          by_cases hcw : (0 : Int) = wk
          · subst hcw
            go_wp2_with (first | (go_at_call 22; refine HST.out.mono ?_; rintro e w4 ⟨rfl, hw4⟩; rw [hw4]; clear hw4))
            refine HSLc.out.mono ?_
            rintro e w5 ⟨rfl, lab5, h5, hK5⟩
            have HR5 := hid (HR1.out.keep hK5)
            have HL5 := hid (HL1.out.keep hK5)
            obtain ⟨v6, w6, hap, hR6, hm6, hv6⟩ := HR5.out.push HL5.out.2.size h5.lt (by have := HQL.out _ rfl; omega) (id : Int)
            have H6 := hid (HR5.out.off h5 hm6)
            have HR6 := hid hR6
            have HL6 := hid (HL5.out.mods hm6 (fun b e => (HR5.out.2 b e).2))
            obtain ⟨a9, c9, e9⟩ := owns_slice hR6.1
            subst e9
            clear h5 hK5 hR6 hm6 hv6
            generalize hl9 : (A.sl _ ++ [(id : Int)]).length = ln9 at *
            go_wp2_with (at_builtin; refine wpList_append_run rfl _ _ 31 rfl rfl rfl hap ?_)
            go_roundw
            case rel => exact ⟨k + 1, lab5, A.sleep id 0, by omega, by go_num, H6.out.more (by omega), HK2.out, by rw [HK3.out, if_pos rfl]; exact HR6.out, HL6.out⟩
            case measure => simp [RowKit.intOf]; omega
          · have hcb : (((0 : Int)) == wk) = false := by simpa using hcw
            go_wp2_with (first | (go_at_call 22; refine HST.out.mono ?_; rintro e w4 ⟨rfl, hw4⟩; rw [hw4]; clear hw4) | (go_at_call 26; refine HSLc.out.mono ?_; rintro e w5 ⟨rfl, lab5, h5, hK5⟩; have H5 := hid h5; have HR5 := hid (HR1.out.keep hK5); have HL5 := hid (HL1.out.keep hK5); clear h5 hK5))
            go_roundw
            case rel => exact ⟨k + 1, lab5, A.sleep id (0 : Int), by omega, by go_num, H5.out.more (by omega), HK2.out, by rw [HK3.out, if_neg (fun e => hcw e.symm)]; exact HR5.out, HL5.out⟩
            case measure => simp [RowKit.intOf]; omega
        · subst s1 s2
          have HSLc := hid (HSL.out (0 : Int) HIC.out)
          rw [HSN.out (0 : Int) rfl] at HSLc
          clear HSS HSN HSL HSA
          go_wp2_with (first | (go_at_call 22; refine HST.out.mono ?_; rintro e w4 ⟨rfl, hw4⟩; rw [hw4]; clear hw4) | (go_at_call 26; refine HSLc.out.mono ?_; rintro e w5 ⟨rfl, lab5, h5, hK5⟩; have H5 := hid h5; have HR5 := hid (HR1.out.keep hK5); have HL5 := hid (HL1.out.keep hK5); clear h5 hK5))
          go_roundw
          case rel => exact ⟨k + 1, lab5, A, by omega, by go_num, H5.out.more (by omega), HA1.out, HR5.out, HL5.out⟩
          case measure => simp [RowKit.intOf]; omega
    · have hki : ¬ ((k : Int) < N) := by omega
      obtain rfl : k = N := by omega
      clear hS1 hA1 hR1 hL1
      obtain ⟨a8, c8, e8⟩ := owns_slice HR1.out.1
      subst e8
      have HQL : Hid ((A.sl wk).length ≤ 12) := hid (by
        have := few A.ws.length _ (HA1.out.inv.nds wk) (fun x hx => has_bd (HA1.out.inv.s1 wk x hx).1)
        rw [HA1.out.len] at this
        omega)
      obtain ⟨wl, hwl⟩ : ∃ wl, wl = A.sl wk := ⟨_, rfl⟩
      rw [← hwl] at HR1 HQL ⊢
      have HWL := hid hwl
      clear hwl
      obtain ⟨l8, hl8⟩ : ∃ l8, l8 = wl.length := ⟨_, rfl⟩
      rw [← hl8] at HR1 HQL ⊢
      have HL8 := hid hl8
      clear hl8
      clear HS HL HB1 HW1 HKN HCS HWA HON HLN
      go_wp2_with fail
      go_loopw [9, 16] (fun v i wr => ∃ (m : Nat), m ≤ k ∧ i = .int .i64 m ∧ Sc wr p lab1 A (2 * k) ∧ Lr w0 wr lab1 (.slice a8 l8 c8) wl ∧ Lr w0 wr lab1 v (rdl A m) ∧ Lb w0 wr lab1 ∧ ∀ g, v.ownBlock = some g → (Value.slice a8 l8 c8).ownBlock ≠ some g) (fun _ i _ => k - (RowKit.intOf i).toNat)
      case atStart => exact ⟨0, Nat.zero_le _, rfl, HS1.out, HR1.out, Lr.nil _ _ _, HL1.out, fun g hg => by simp [Value.ownBlock] at hg⟩
      case round =>
        obtain ⟨m, hm, rfl, hS2, hR2, hR3, hL2, hap2⟩ := hrel
        have HS2 := hid hS2
        have HR2 := hid hR2
        have HR3 := hid hR3
        have HL2 := hid hL2
        have HAP := hid hap2
        clear hap2
        by_cases hml : m < k
        · have hmi : (m : Int) < k := by omega
          have hhas : A.has (m : Int) = true := by rw [HA1.out.has]; simpa using hml
          have HST := hid (State_any hS2 (m : Int))
          rw [stateR_has hhas] at HST
          obtain ⟨a9, c9, e9⟩ := owns_slice hR3.1
          subst e9
          have HRS := hid (rdl_succ A m)
          have hle := rdl_le A m
          obtain ⟨v6, w6, hap, hR6, hm6, hv6⟩ := hR3.push hL2.2.size hS2.lt (by omega) (m : Int)
          have H6 := hid (hR3.off hS2 hm6)
          have HR6 := hid hR6
          have HL6 := hid (hL2.mods hm6 (fun b e => (HR3.out.2 b e).2))
          have HR26 := hid (hR2.mods hm6 (fun g hg e => HAP.out g e hg))
          have HAP6 : Hid (∀ g, v6.ownBlock = some g → (Value.slice a8 l8 c8).ownBlock ≠ some g) := hid (fun g hg e => by
            rcases hv6 g hg with h | h
            · exact HAP.out g h e
            · have := (owns_lt HR2.out.1 e).1; omega)
          obtain ⟨a10, c10, e10⟩ := owns_slice hR6.1
          subst e10
          clear hS2 hR2 hR3 hL2 hR6 hm6 hv6 hhas hle
          generalize hl9 : (rdl A m ++ [(m : Int)]).length = ln9 at *
          generalize hl10 : (rdl A m).length = ln10 at *
          clear hl9 hl10
          by_cases hst : (A.wk (m : Int)).st = 1
          · have hrs := HRS.out
            rw [if_pos hst] at hrs
            rw [hst] at HST
            have HRS2 := hid hrs
            clear hst hrs HRS
            go_wp2_with (first | (go_at_call 22; refine HST.out.mono ?_; rintro e w4 ⟨rfl, hw4⟩; rw [hw4]; clear hw4) | (at_builtin; refine wpList_append_run rfl _ _ 31 rfl rfl rfl hap ?_))
            go_roundw
            case rel => exact ⟨m + 1, by omega, by go_num, H6.out, HR26.out, by rw [HRS2.out]; exact HR6.out, HL6.out, HAP6.out⟩
            case measure => simp [RowKit.intOf]; omega
          · have hrs := HRS.out
            rw [if_neg hst] at hrs
            have HRS2 := hid hrs
            generalize (A.wk (m : Int)).st = st at *
            have hsb : (st == 1) = false := by simpa using hst
            clear hrs HRS
            go_wp2_with (go_at_call 22; refine HST.out.mono ?_; rintro e w4 ⟨rfl, hw4⟩; rw [hw4]; clear hw4)
            go_roundw
            case rel => exact ⟨m + 1, by omega, by go_num, HS2.out, HR2.out, by rw [HRS2.out]; exact HR3.out, HL2.out, HAP.out⟩
            case measure => simp [RowKit.intOf]; omega
        · have hmi : ¬ ((m : Int) < k) := by omega
          obtain rfl : m = k := by omega
          obtain ⟨a9, c9, e9⟩ := owns_slice hR3.1
          subst e9
          have hrl := HA1.out.rdl_len
          have hrle := rdl_le A m
          have HWK := hid (Wake_any hS2 (HA1.out.inv.fit (by rw [HA1.out.len]; omega)) wk HIW.out)
          rw [← HWL.out, ← HL8.out] at HWK
          obtain ⟨x1, x2, x3, x4⟩ := HA1.out.wake wk
          have HX := hid (And.intro x1 (And.intro x2 (And.intro x3 x4)))
          clear x1 x2 x3 x4 hS2 hR2 hR3 hL2
          rw [hrl] at hrle HR3 ⊢
          obtain ⟨q1, hq1⟩ : ∃ q1, q1 = A.q.length := ⟨_, rfl⟩
          rw [← hq1] at hrle HR3 ⊢
          have HQ1 := hid hq1
          have HQQ := hid hrle
          clear hq1 hrl
          go_wp2_with fail
          refine HWK.out.mono ?_
          rintro e w3 ⟨rfl, lab3, h3, hK3⟩
          have HWK2 := hid (Wake_any h3 (HX.out.2.2.1.fit (by rw [HX.out.2.2.2]; omega)) wk HIW.out)
          rw [HX.out.2.1] at HWK2
          have HRD : Hid (∀ w4 lab4 n4, Sc w4 p lab4 ((A.wake wk).wake wk) n4 → Calls Try.prog 21 #[.pointer (some ⟨p, 0, none⟩)] w4 fun e w' => ∃ u, e = .returned u ∧ w'.ownsRow w4.heap.size 3 1 u (q1 + l8) (ints (A.q ++ wl)) ∧ Below w4.heap.size w4 w') := hid (fun w4 lab4 n4 h4 => by
            have e1 : ((A.wake wk).wake wk).q = A.q ++ wl := by
              show (A.wake wk).q ++ (A.wake wk).sl wk = _
              rw [HX.out.2.1, HX.out.1, List.append_nil, HWL.out]
            have e2 : (A.q ++ wl).length = q1 + l8 := by rw [List.length_append, HQ1.out, HL8.out]
            have := Ready_any h4 (by rw [e1, e2]; have := HQL.out; have := HQQ.out; omega)
            rw [e1, e2] at this
            exact this)
          have HR3' := hid (HR3.out.keep hK3)
          have HR2' := hid (HR2.out.keep hK3)
          have HL3 := hid (HL2.out.keep hK3)
          clear h3 hK3
          simp only [List.length_nil] at HWK2
          go_wp2_with (go_at_call 27; refine HWK2.out.mono ?_; rintro e w4 ⟨rfl, lab4, h4, hK4⟩; have H4 := hid h4; have HR4 := hid (HR3'.out.keep hK4); have HR24 := hid (HR2'.out.keep hK4); have HL4 := hid (HL3.out.keep hK4); clear h4 hK4)
          refine (HRD.out w4 lab4 _ H4.out).mono ?_
          rintro e w5 ⟨u5, rfl, ho5, hb5⟩
          have HR5 := hid (HR24.out.keep (Keep.below hb5))
          have HL5 := hid (HL4.out.keep (Keep.below hb5))
          obtain ⟨a5, c5, e5⟩ := owns_slice ho5
          subst e5
          have HO5 := hid ho5
          clear ho5 hb5
          have hq12 := HQL.out
          have hwq : IntKind.i64.wrap ((q1 : Int) + (l8 : Int)) = (q1 : Int) + (l8 : Int) := IntWalk.i64_in _ (by omega)
          have hcast : ((q1 + l8 : Nat) : Int) = (q1 : Int) + (l8 : Int) := by omega
          have HGT : Hid (∀ i, i < l8 → (A.q ++ wl).getD (q1 + i) 0 = wl.getD i 0) := hid (fun i hi => by
            rw [HQ1.out]
            simp only [List.getD]
            rw [List.getElem?_append_right (by omega)]
            congr 2
            omega)
          have HGL : Hid ((A.q ++ wl).length = q1 + l8) := hid (by rw [List.length_append, HQ1.out, HL8.out])
          clear HS2 HR2 HR3 HL2 HWK HX HWK2 HRD HR3' HR2' HL3 H4 HR4 HR24 HL4 HAP HS1 HA1 HR1 HL1
          go_wp2_with fail
          go_loopw [20] (fun i wr => ∃ (z : Nat), z ≤ l8 ∧ i = .int .i64 z ∧ Below w5.heap.size w5 wr) (fun i _ => l8 - (RowKit.intOf i).toNat)
          case atStart => exact ⟨0, Nat.zero_le _, rfl, Below.refl _ _⟩
          case round =>
            obtain ⟨z, hz, rfl, hb6⟩ := hrel
            have HB6 := hid hb6
            by_cases hzl : z < l8
            · have hzi : (z : Int) < l8 := by omega
              have hz8 : z < wl.length := by rw [← HL8.out]; exact hzl
              obtain ⟨gw, cw, ew, hcw, _⟩ := owns_int HR5.out.1 hz8
              simp only [Value.slice.injEq] at ew
              obtain ⟨rfl, ew1, rfl⟩ := ew
              clear ew1
              have ho := HO5.out
              rw [← HGL.out] at ho
              obtain ⟨gq, cq, eq, hcq, _⟩ := owns_int (j := q1 + z) ho (by rw [HGL.out]; omega)
              simp only [Value.slice.injEq] at eq
              obtain ⟨rfl, eq1, rfl⟩ := eq
              clear eq1 ho
              rw [HGT.out z hzl] at hcq
              replace hcw := cell_later hb6 hcw
              replace hcq := cell_later hb6 hcq
              have hwz : IntKind.i64.wrap ((q1 : Int) + (z : Int)) = (q1 : Int) + (z : Int) := IntWalk.i64_in _ (by omega)
              have hlz : (q1 : Int) + (z : Int) < (q1 : Int) + (l8 : Int) := by omega
              have hnz : ((q1 : Int) + (z : Int)).toNat = q1 + z := by omega
              generalize wl.getD z 0 = vz at *
              clear hb6
              go_wp2_with fail
              go_quiet (fail)
              go_wp2
              go_roundw
              case rel => exact ⟨z + 1, by omega, by go_num, below_drewN HB6.out _⟩
              case measure => simp [RowKit.intOf]; omega
            · have hzi : ¬ ((z : Int) < l8) := by omega
              go_wp2
              go_ret
              exact ⟨rfl, HL5.out.2.trans (HB6.out.mono HL5.out.2.size)⟩
end Go.Proofs.Ytacmdhlemolngaa
