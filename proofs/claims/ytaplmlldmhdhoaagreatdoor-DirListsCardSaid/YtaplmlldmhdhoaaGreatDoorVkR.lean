/- VkK, VkP, VkR in one text. -/
import Derived.Test.YtaplmlldmhdhoaaGreatDoorVkS
import Derived.Lib.SlKeysI
/- The numbers of what was put, rising: maps.Keys, slices.Sorted at a view's map. -/
namespace Go.Proofs.YtaplmlldmhdhoaaGreatDoor
open Go.RowKit Go.Maps
set_option linter.unusedVariables false

theorem keys_of {w : World} {b n : Nat} {M : Int → Option Value} {D : DataW Value} (h1 : w.ownsMap Tryz.prog 3 raw b n D) (h2 : ∀ k, IsI k → ∀ z, D.atKey (.int .i64 k) z = ((M k).map DataW.held).getD z) :
    (intKeys D).Nodup ∧ ∀ k, k ∈ intKeys D ↔ IsI k ∧ (M k).isSome = true := by
  obtain ⟨es, hD, hpw, _⟩ := h1.entries intKey
  obtain ⟨es', hD', hko⟩ := h1.keysOf
  obtain rfl : es = es' := by rw [hD] at hD'; simpa using hD'
  subst hD
  have hk : ∀ p ∈ es, ∃ x, p.1 = .int .i64 x ∧ IsI x := fun p hp => by
    obtain ⟨v, hv⟩ := hko p hp
    obtain ⟨x, _, hx, hw⟩ := Maps.keyOf_int_inv Tryz.underlying3 hv
    exact ⟨x, hx, hw⟩
  refine ⟨?_, fun k => ?_⟩
  · show (es.map fun p => Go.intOf p.1).Nodup
    refine List.pairwise_map.2 (hpw.imp_of_mem fun {p q} hp' hq' hne e => hne ?_)
    obtain ⟨a, ha, _⟩ := hk p hp'
    obtain ⟨b, hb, _⟩ := hk q hq'
    rw [ha, hb] at e ⊢
    exact congrArg _ e
  · have hh : ∀ (hI : IsI k), (Maps.has (.map es) (.int .i64 k) = true ↔ (M k).isSome = true) := by
      intro hI
      cases hM : M k with
      | none =>
        rw [has_false_of_atKey (D := .map es) (k := .int .i64 k) (fun z => by rw [h2 k hI z, hM]; rfl)]
        simp
      | some v =>
        rw [has_true_of_atKey (D := .map es) (k := .int .i64 k) (y := .held v) (fun z => by rw [h2 k hI z, hM]; rfl)]
        simp
    show k ∈ es.map (fun p => Go.intOf p.1) ↔ _
    rw [List.mem_map]
    constructor
    · rintro ⟨p, hp', e⟩
      obtain ⟨a, ha, hI⟩ := hk p hp'
      rw [ha] at e
      obtain rfl : a = k := e
      refine ⟨hI, (hh hI).1 ?_⟩
      rw [has_eq, List.any_eq_true]
      exact ⟨p, hp', by rw [ha]; simp [Lit.sameKey]⟩
    · rintro ⟨hI, hs⟩
      have := (hh hI).2 hs
      rw [has_eq, List.any_eq_true] at this
      obtain ⟨p, hp', hs'⟩ := this
      obtain ⟨a, ha, _⟩ := hk p hp'
      rw [ha] at hs'
      exact ⟨p, hp', by rw [ha]; simpa [Lit.sameKey, Go.intOf] using hs'⟩


open Go.Sort Go.Shelf
theorem sorts_any (m : Nat) : AnyZI.SortsIn Tryz.prog Tryz.sortedA_ren Fence.wide m :=
  ⟨fun blk off cap ss W hH hblk hsz => callsIn_wide.2 (AnyM.slices_Sort_int Tryz.sortA blk off cap ss W hH hblk hsz),
   fun p cap W => callsIn_wide.2 (AnyM.slices_Sort_int_none Tryz.sortA p cap W)⟩
/-- L: the numbers that have something, rising. -/
def KeysL (M : Int → Option Value) (L : List Int) : Prop := L.Pairwise (· < ·) ∧ ∀ k, k ∈ L ↔ IsI k ∧ (M k).isSome = true
theorem Keys_any (mb : Option Nat) (W : World) : Calls Tryz.prog 98 #[.map mb] W fun e w' => e = .returned (.func (.func 104) #[] #[.pointer (some ⟨W.heap.size, 0, none⟩)]) ∧ w' = W.alloc (.cells #[.map mb] 123) :=
  (callsIn_wide (n := 5)).1 (AnyZI.keys_in Tryz.keysD Fence.wide 5 trivial rfl mb W)
set_option maxHeartbeats 1000000 in
theorem Sorted_any {w : World} {m n : Nat} {MV : Int → Option Value} (h : MapIs w m n MV) (hn : n ≤ 1099511627776) :
    Calls Tryz.prog 97 #[.func (.func 104) #[] #[.pointer (some ⟨w.heap.size, 0, none⟩)]] (w.alloc (.cells #[.map (some m)] 123)) fun e w' => ∃ (v : Value) (L : List Int), e = .returned v ∧ KeysL MV L ∧ L.length ≤ n ∧ w'.ownsRow w.heap.size 3 1 v L.length (L.map encZ) ∧ Below w.heap.size w w' := by
  obtain ⟨D0, hown, hat⟩ := h
  have hsz := hown.size_le
  have hmax : Maps.size D0 ≤ maxLen := by unfold maxLen; omega
  have hbytes : Maps.size D0 * 8 ≤ 140737488355328 := by omega
  have hbl := hown.lt
  have hseq : SeqGives Fence.wide 2 Tryz.prog 104 #[.pointer (some ⟨w.heap.size, 0, none⟩)] encZ (fun ss => ss.Perm (intKeys D0)) (Maps.size D0) (w.alloc (.cells #[.map (some m)] 123)) :=
    AnyZI.keys_gives (ρ := Tryz.keysD_ren) { Tryz.keysD with } Fence.wide _ trivial rfl (by omega) w.heap.size m n D0 _ (by simp) (by simp) (by
      obtain ⟨es, clock, hb, Ft, hs, hD⟩ := hown
      exact ⟨es, clock, (Below.heap_alloc _ _ m hbl).trans hb, Ft, hs, hD⟩)
  have cS := AnyZI.sorted_in Tryz.sortedA Fence.wide 5 trivial trivial trivial trivial rfl (by omega) (sorts_any _) (enters_of Tryz.func103 (by kernel_rfl) rfl) 104 #[.pointer (some ⟨w.heap.size, 0, none⟩)] trivial (enters_of Tryz.func104 (by kernel_rfl) rfl) _ _ hmax hbytes _ hseq
  change CallsIn _ _ Tryz.prog 97 _ _ _ at cS
  refine (callsIn_wide.1 cS).mono ?_
  rintro e w' ⟨v, ss, rfl, hS, hrow, hnil, hb⟩
  obtain ⟨hnd, hm⟩ := keys_of hown hat
  have hp2 : (ss.mergeSort (fun x y => decide (x ≤ y))).Perm (intKeys D0) := (List.mergeSort_perm _ _).trans hS
  refine ⟨v, ss.mergeSort (fun x y => decide (x ≤ y)), rfl, ⟨?_, fun k => ?_⟩, ?_, ?_, ((Below.refl _ w).alloc (Nat.le_refl _) _).trans (hb.mono (by simp))⟩
  · have hs : (ss.mergeSort (fun x y => decide (x ≤ y))).Pairwise (fun x y => decide (x ≤ y) = true) := List.pairwise_mergeSort (le := fun x y : Int => decide (x ≤ y)) (fun a b c h h' => by simp at *; omega) (fun a b => by simp; omega) ss
    have hn2 : (ss.mergeSort (fun x y => decide (x ≤ y))).Nodup := hp2.nodup_iff.2 hnd
    exact (hs.and hn2).imp fun ⟨h, h'⟩ => by simp at h; omega
  · rw [hp2.mem_iff, hm k]
  · rw [hp2.length_eq]
    have e : (intKeys D0).length = Maps.size D0 := by cases D0 <;> simp [intKeys, Maps.size]
    omega
  · rw [List.length_mergeSort]
    exact owns_base hrow (fun g hg => by have := (owns_lt hrow hg).2; simp at this; omega)
end Go.Proofs.YtaplmlldmhdhoaaGreatDoor

/- Puts: what was put, rising. -/
namespace Go.Proofs.YtaplmlldmhdhoaaGreatDoor
open Go.RowKit Go.Maps
set_option linter.unusedVariables false

variable {w w' wr : World} {pv n : Nat} {S : Nat → Prop} {b i : Int} {base : Value} {P : Int → Option (List Int)}
theorem PO.pushN {w wr : World} {v : Value} {M : List Pw} (h : PO wr (New w) v M) (hb : Below w.heap.size w wr) (blk : Int) (d : List Int) (a : Option Addr) (n c : Nat) (hn : d.length = n) (hp : By wr (New w) a d) (hc : n ≤ c) (hl : M.length ≤ 900000) :
    ∃ a' k c' w', (Builtin.append_ #[106, 106] 106 #[v, .slice (some ⟨wr.heap.size, 0, none⟩) 1 1]).run Tryz.prog (wr.alloc (.cells #[n64 blk, .slice a n c] 113)) = .ok (.slice a' k c') w' ∧ PO w' (New w) (.slice a' k c') (M ++ [⟨blk, a, c, d⟩]) ∧ Below w.heap.size w w' := by
  subst hn
  obtain ⟨W1, hW1⟩ : ∃ W1, W1 = wr.alloc (.cells #[n64 blk, .slice a d.length c] 113) := ⟨_, rfl⟩
  have hb1 : Below wr.heap.size wr W1 := by rw [hW1]; exact (Below.refl _ _).alloc (Nat.le_refl _) _
  have hh1 : W1.heap[wr.heap.size]? = some (.cells #[n64 blk, .slice a d.length c] 113 (0, 0)) := by rw [hW1]; exact alloc_new wr _
  have hpo := h.later hb1
  have hB1 : Below w.heap.size w W1 := hb.trans (hb1.mono hb.size)
  obtain ⟨a', k, c', w', hap, _, hpo', hmo, hob⟩ := hpo.push ⟨blk, a, c, d⟩ (hp.later hb1) hc wr.heap.size 0 (cell_of hh1 rfl) (cell_of hh1 rfl) 1 (by omega) 106
  rw [← hW1]
  refine ⟨a', k, c', w', hap, hpo'.weak (fun g hg _ => ?_), hmo.to_below hB1 hB1.size (fun g hg => hpo.2.1 g hg)⟩
  rcases hg with h2 | h2
  · exact h2
  · subst h2; exact hB1.size
def putPt (P : Int → Option (List Int)) (k : Int) : Pt := ⟨k, (P k).getD []⟩
/-- L: the numbers that were put, rising. -/
def PutK (P : Int → Option (List Int)) (L : List Int) : Prop := L.Pairwise (· < ·) ∧ ∀ k, k ∈ L ↔ IsI k ∧ (P k).isSome = true
theorem ints_enc (L : List Int) : L.map encZ = ints L := rfl
set_option maxRecDepth 100000 in
set_option maxHeartbeats 2000000 in
theorem Puts_any (h : Vw w pv S b i base n P) (hn : n ≤ 800000) :
    Calls Tryz.prog 83 #[.pointer (some ⟨pv, 0, none⟩)] w fun e w' => ∃ v M L, e = .returned v ∧ PutK P L ∧ L.length ≤ n ∧ PO w' (New w) v M ∧ M.map Pw.pt = L.map (putPt P) ∧ Below w.heap.size w w' := by
  obtain ⟨m, MV, h1, s1, s2, h2, h3⟩ := h
  have p1 : w.cell? ⟨pv, 1, none⟩ = some (.map (some m)) := cell_of h1 rfl
  have HS := hid (Sorted_any h2 (by omega))
  have HK := hid (Keys_any (some m) w)
  have HH := hid (And.intro h1 (And.intro h2 h3))
  obtain ⟨W1, hW1⟩ : ∃ W, W = w.alloc (.cells #[.map (some m)] 123) := ⟨_, rfl⟩
  rw [← hW1] at HS HK
  have HNI : Hid (∀ L, KeysL MV L → PutK P L) := hid (fun L hL => by
    refine ⟨hL.1, fun k => (hL.2 k).trans ⟨fun ⟨a1, a2⟩ => ⟨a1, ?_⟩, fun ⟨a1, a2⟩ => ⟨a1, ?_⟩⟩⟩
    · rcases h3 k a1 with ⟨_, e⟩ | ⟨l, _, _, e, _⟩
      · rw [e] at a2; cases a2
      · rw [e]; rfl
    · rcases h3 k a1 with ⟨e, _⟩ | ⟨l, a, c, _, e, _⟩
      · rw [e] at a2; cases a2
      · rw [e]; rfl)
  clear h1 h2 h3 hW1
  go_enter Tryz.func83, Tryz.ntmps83
  go_wp2_with fail
  refine HK.out.mono ?_
  rintro e w1 ⟨rfl, rfl⟩
  go_wp2_with fail
  refine HS.out.mono ?_
  rintro e w2 ⟨kv, L, rfl, hKL, hLn, hrow, hb2⟩
  rw [ints_enc] at hrow
  obtain ⟨ka, kc, rfl⟩ := owns_slice hrow
  have HR := hid hrow
  have HB2 := hid hb2
  have HKL := hid (And.intro (HNI.out L hKL) hLn)
  obtain ⟨nL, hnL⟩ : ∃ nL, nL = L.length := ⟨_, rfl⟩
  have hnL' := hnL.symm
  have HNL := hid hnL
  rw [← hnL]
  clear hrow hb2 hKL hLn HS HK hnL hnL' p1 HNI
  go_wp2
  go_loopw [3, 14] (fun v z wr => ∃ (j : Nat) (M : List Pw), j ≤ nL ∧ z = n64 j ∧ PO wr (New w2) v M ∧ M.map Pw.pt = (L.take j).map (putPt P) ∧ Below w2.heap.size w2 wr) (fun _ z _ => nL - (RowKit.intOf z).toNat)
  case atStart => exact ⟨0, [], by omega, rfl, PO.nil w2 _, rfl, Below.refl _ _⟩
  case round =>
    obtain ⟨j, M, hj, rfl, hpo, hM, hb⟩ := hrel
    rename World => V
    have HPO := hid hpo
    have HMM := hid hM
    have HB := hid hb
    have hVb : Below w.heap.size w V := HB2.out.trans (hb.mono HB2.out.size)
    have HVb := hid hVb
    clear hpo hM hb
    by_cases hlt : j < nL
    · have hlt' : (j : Int) < nL := by omega
      have hjL : j < L.length := by rw [← HNL.out]; exact hlt
      obtain ⟨kg, kcap, e5, hk5, _, _⟩ := owns_int HR.out hjL
      simp only [Value.slice.injEq] at e5
      obtain ⟨rfl, _, rfl⟩ := e5
      have hkV := cell_later HB.out hk5
      obtain ⟨x, hx⟩ : ∃ x, x = L.getD j 0 := ⟨_, rfl⟩
      rw [← hx] at hkV
      have hxm : x ∈ L := by rw [hx]; exact mem_getD L (fun y => y ∈ L) (fun y hy => hy) j hjL
      obtain ⟨hxI, hxS⟩ := (HKL.out.1.2 x).1 hxm
      have h1V := (hVb.block _ (Array.getElem?_eq_some_iff.1 HH.out.1).1).trans HH.out.1
      have p1 : V.cell? ⟨pv, 1, none⟩ = some (.map (some m)) := cell_of h1V rfl
      have hmV := HH.out.2.1.keep (hVb.block _ HH.out.2.1.lt)
      have hlk := hmV.look (t := 123) (e := 59) Tryz.underlying123 (zeroBs V) hxI
      rcases HH.out.2.2 x hxI with ⟨e, _⟩ | ⟨l, a, c, e1, e2, hlen, hy, hc⟩
      · rw [e] at hxS; cases hxS
      · rw [e2] at hlk
        simp only [Option.getD_some] at hlk
        have HCL := hid (Clone_any V S a 512 c l hlen (by decide) (by decide) (hy.later hVb))
        have HX1 : Hid (putPt P x = ⟨x, l⟩) := hid (by unfold putPt; rw [e1]; rfl)
        have HXX := hid hx
        have hw2 : IntKind.i64.wrap ((j : Int) + 1) = ((j + 1 : Nat) : Int) := by rw [IntWalk.i64_in _ (by have := HKL.out.2; have := HNL.out; omega)]; omega
        have HLN : Hid (l.length = 512) := hid hlen
        have hMl : M.length = j := by
          have := congrArg List.length HMM.out
          rw [List.length_map, List.length_map, List.length_take] at this
          omega
        have HML := hid hMl
        clear hk5 hx hxm hxI hxS h1V hmV e1 e2 hlen hy hc hMl hj hVb
        go_wp2_with fail
        refine HCL.out.mono ?_
        rintro e w4 ⟨a4, c4, rfl, hc4, hy4, hb4, _⟩
        have hB4 : Below w2.heap.size w2 w4 := HB.out.trans (hb4.mono HB.out.size)
        obtain ⟨a7, n7, c7, w7, hap7, hpo7, hb7⟩ := (HPO.out.later hb4).pushN hB4 x l a4 512 c4 HLN.out (hy4.weak (fun g hg _ => Nat.le_trans HB.out.size hg)) hc4 (by have := HML.out; have := HKL.out.2; have := HNL.out; omega)
        obtain ⟨X7, hX7⟩ : ∃ X, X = w4.alloc (.cells #[n64 x, .slice a4 512 c4] 113) := ⟨_, rfl⟩
        rw [← hX7] at hap7
        have HP7 := hid hpo7
        have HB7 := hid hb7
        clear hc4 hy4 hb4 hB4 hpo7 hb7 HCL
        go_wp2_with (first | (at_builtin; rw [← hX7]; clear hX7; refine wpList_append_run rfl _ _ 106 rfl rfl rfl hap7 ?_; clear hap7))
        go_roundw
        case rel => exact ⟨j + 1, M ++ [⟨x, a4, c4, l⟩], by omega, by first | rfl | go_num, HP7.out, by
          rw [List.map_append, HMM.out, take_snoc L j hjL, ← HXX.out, List.map_append]
          simp only [List.map_cons, List.map_nil, HX1.out]
          rfl, HB7.out⟩
        case measure => simp [RowKit.intOf]; omega
    · have hlt' : ¬ (j : Int) < nL := by omega
      obtain rfl : j = nL := by omega
      go_wp2
      go_ret
      refine ⟨_, rfl, M, L, HKL.out.1, HKL.out.2, HPO.out.weak (fun g hg _ => Nat.le_trans HB2.out.size hg), ?_, HVb.out⟩
      rw [HMM.out, HNL.out, List.take_length]
end Go.Proofs.YtaplmlldmhdhoaaGreatDoor

/- Put, Get of a view that refuse. -/
namespace Go.Proofs.YtaplmlldmhdhoaaGreatDoor
open Go.RowKit Go.Maps
set_option linter.unusedVariables false

variable {w w' : World} {pv n q N : Nat} {S S' T : Nat → Prop} {b i : Int} {base : Value} {P : Int → Option (List Int)} {bc : Nat → List Int} {lk : Nat → Bool}
set_option maxRecDepth 100000 in
set_option maxHeartbeats 1000000 in
theorem Put_far (h : Vw w pv S b i base n P) (k : Int) (hk : ¬ (0 ≤ k ∧ k < b)) (d : Value) :
    Calls Tryz.prog 84 #[.pointer (some ⟨pv, 0, none⟩), n64 k, d] w fun e w' => e = .returned (.iface 57 (n64 1)) ∧ Below w.heap.size w w' := by
  obtain ⟨c2, c3, c4, c5, c6, c7, c8, c9⟩ := superCells h
  have HH := has_any w b i 1 2 68 69 (planT b) (planD b i) k
  have e : (decide (0 ≤ k) && decide (k < b)) = false := by
    rw [← Bool.decide_and]; exact decide_eq_false hk
  rw [e] at HH
  replace HH := hid HH
  clear h e
  go_enter Tryz.func84, Tryz.ntmps84
  go_wp2_with fail
  refine HH.out.mono ?_
  rintro e w1 ⟨rfl, hb1⟩
  have HB1 := hid hb1
  clear hb1 HH c2 c3 c4 c5 c6 c7 c8 c9
  go_wp2
  go_ret
  exact ⟨rfl, HB1.out⟩
set_option maxRecDepth 100000 in
set_option maxHeartbeats 1000000 in
theorem Put_short (h : Vw w pv S b i base n P) (k : Int) (hk : 0 ≤ k ∧ k < b) (a : Option Addr) (m c : Nat) (hm : m ≠ 512) :
    Calls Tryz.prog 84 #[.pointer (some ⟨pv, 0, none⟩), n64 k, .slice a m c] w fun e w' => e = .returned (.iface 57 (n64 14)) ∧ Below w.heap.size w w' := by
  obtain ⟨c2, c3, c4, c5, c6, c7, c8, c9⟩ := superCells h
  have HH := has_any w b i 1 2 68 69 (planT b) (planD b i) k
  have e : (decide (0 ≤ k) && decide (k < b)) = true := by
    rw [← Bool.decide_and]; exact decide_eq_true hk
  rw [e] at HH
  replace HH := hid HH
  have hm' : ¬ (m : Int) = 512 := by omega
  clear h e
  go_enter Tryz.func84, Tryz.ntmps84
  go_wp2_with fail
  refine HH.out.mono ?_
  rintro e w1 ⟨rfl, hb1⟩
  have HB1 := hid hb1
  clear hb1 HH c2 c3 c4 c5 c6 c7 c8 c9
  go_wp2
  go_ret
  exact ⟨rfl, HB1.out⟩
set_option maxRecDepth 100000 in
set_option maxHeartbeats 1000000 in
theorem Get_far (h : Vw w pv S b i base n P) (k : Int) (hk : ¬ (0 ≤ k ∧ k < b)) :
    Calls Tryz.prog 33 #[.pointer (some ⟨pv, 0, none⟩), n64 k] w fun e w' => e = .returned (.tuple #[.slice none 0 0, .iface 57 (n64 1)]) ∧ Below w.heap.size w w' := by
  obtain ⟨c2, c3, c4, c5, c6, c7, c8, c9⟩ := superCells h
  have HH := has_any w b i 1 2 68 69 (planT b) (planD b i) k
  have e : (decide (0 ≤ k) && decide (k < b)) = false := by
    rw [← Bool.decide_and]; exact decide_eq_false hk
  rw [e] at HH
  replace HH := hid HH
  clear h e
  go_enter Tryz.func33, Tryz.ntmps33
  go_wp2_with fail
  refine HH.out.mono ?_
  rintro e w1 ⟨rfl, hb1⟩
  have HB1 := hid hb1
  clear hb1 HH c2 c3 c4 c5 c6 c7 c8 c9
  go_wp2
  go_ret2
  exact ⟨rfl, HB1.out⟩
end Go.Proofs.YtaplmlldmhdhoaaGreatDoor
