/- startingWith: the rows that begin with a number, rising. -/
import Derived.Test.YtacmdhlemolngaaScQ
import Derived.Test.YtacmdhlemolngaaScSort
namespace Go.Proofs.Ytacmdhlemolngaa
open Go.RowKit Go.Maps Go.Sort Go.Shelf

def srt (l : List Int) : List Int := l.mergeSort (fun x y => decide (x ≤ y))
theorem srt_mem (l : List Int) (x : Int) : x ∈ srt l ↔ x ∈ l := by unfold srt; rw [List.mem_mergeSort]
theorem srt_len (l : List Int) : (srt l).length = l.length := by unfold srt; exact List.length_mergeSort _
theorem srt_sorted (l : List Int) (h : l.Nodup) : (srt l).Pairwise (· < ·) := by
  unfold srt
  have h1 := List.pairwise_mergeSort (le := fun x y : Int => decide (x ≤ y)) (by intro a b c; simp; omega) (by intro a b; simp; omega) l
  have h2 : (l.mergeSort (fun x y => decide (x ≤ y))).Nodup := (List.mergeSort_perm l _).nodup_iff.2 h
  refine (h1.and (List.nodup_iff_pairwise_ne.1 h2)).imp (fun {a b} h => ?_)
  have h3 := h.1
  have h4 := h.2
  simp at h3
  omega
/-- slices.Sort of a row of numbers. -/
theorem Sort_row (w : World) (v : Value) (l : List Int) (base : Nat) (h : w.ownsRow base 3 1 v l.length (ints l)) (hb : l.length ≤ 1099511627776) :
    Calls Try.prog 66 #[v] w fun e w' => e = .returned undef ∧ w'.ownsRow base 3 1 v l.length (ints (srt l)) ∧ Mods (fun b => v.ownBlock = some b) w w' := by
  rcases h.2 with ⟨rfl, h0⟩ | ⟨g, cap, cur, rfl, hbase, hh, hc1, hc2, hcs, ht⟩
  · have hl : l = [] := List.eq_nil_of_length_eq_zero h0
    subst hl
    refine (AnyM.slices_Sort_int_none Try.sortA none 0 w).mono ?_
    rintro e w' ⟨rfl, rfl⟩
    exact ⟨rfl, by simpa [srt] using h, Mods.refl _ _⟩
  · have h4 : cur.toList.take l.length = l.map (Value.int .i64) := by rw [← Nat.mul_one l.length]; exact ht
    have hH := holds_of_blockI (ss := l) hh h4
    refine (AnyM.slices_Sort_int Try.sortA g 0 cap l w hH (Array.getElem?_eq_some_iff.1 hh).1 (by omega)).mono ?_
    rintro e w' ⟨rfl, q, os, rfl⟩
    refine ⟨rfl, ?_, (Mods.of_grown (grownBy_sortedI _)).weak (fun b e => .inl (by simpa [Value.ownBlock] using e))⟩
    have := ownsRow_sortedI (w := w) (base := base) (n := q) (os := os) (ss := l) (ts := srt l) (srt_len l) hbase hh hc1 hc2 hcs
    exact this
theorem key_same (a b : Int) : (Lit.int .i64 a).sameKey (.int .i64 b) = decide (a = b) := by simp [Lit.sameKey]
theorem Mods.grownBy {w w' : World} {row : Option Nat} (h : Mods (fun b => row = some b) w w') : w.grownBy w' row := ⟨h.os, h.tape, h.output, h.size, fun k hk hne => h.block k hk (fun e => hne e.symm)⟩
set_option maxRecDepth 100000 in
set_option maxHeartbeats 4000000 in
theorem starting_any {w : World} {lab : Nat → Own} {om : Own} {own : Int → Own} {b n : Nat} {M : Int → Option Value} {f : Int → List Int} (h : Mp w lab om own b n M f) (x : Int) (hn : n < 1099511627776) :
    Calls Try.prog 54 #[.map (some b), .int .i64 x] w fun e w' => ∃ v L, e = .returned v ∧ w'.ownsRow w.heap.size 3 1 v L.length (ints L) ∧ L.Pairwise (· < ·) ∧ L.length ≤ n ∧ (∀ k, k ∈ L ↔ IsI k ∧ (f k).head? = some x) ∧ Below w.heap.size w w' := by
  obtain ⟨D, hD, hM⟩ := h.map
  have HROW := hid h.row
  have HM := hid hM
  have hlt := hD.lt
  -- what a key that is there holds
  have HKEY : Hid (∀ k c, IsI k → (∀ z, D.atKey (.int .i64 k) z = .held c) → M k = some c) := hid (fun k c hk hz => by
    have h1 := hM k hk (.held undef)
    rw [hz] at h1
    cases e : M k with
    | none =>
      have h2 := hM k hk (.map [])
      rw [hz, e] at h2
      simp at h2
    | some u =>
      rw [e] at h1
      simp at h1
      rw [h1])
  have HHAS : Hid (∀ k, IsI k → (f k).head? = some x → Maps.has D (.int .i64 k) = true) := hid (fun k hk hf => by
    rcases h.row k hk with ⟨_, e⟩ | ⟨v, e1, _, _⟩
    · rw [e] at hf; simp at hf
    · exact has_true_of_atKey (y := .held v) (fun z => by rw [hM k hk z, e1]; rfl))
  have HSZ := hid hD.size_le
  go_enter Try.func54, Try.ntmps54
  go_wp2_with (first | (at_range; refine wpList_range_own _ rfl _ 83 rfl 3 31 intKey mapT raw b n D rfl hD ?_; intro w0 hrg0 hg0 hs0))
  go_frame
  have HRG0 := hid hrg0
  have HG0 := hid hg0
  clear hrg0 hg0 hs0
  go_loopw [5, 6] (fun v _ wr => ∃ (left : Lit → Bool) (cnt : Nat) (L : List Int), wr.ranges Try.prog 3 raw b w.heap.size n D left cnt ∧ w.grownBy wr none ∧ wr.ownsRow (w.heap.size + 1) 3 1 v L.length (ints L) ∧ L.Nodup ∧ L.length + cnt ≤ n ∧ (∀ k, k ∈ L ↔ IsI k ∧ (f k).head? = some x ∧ left (.int .i64 k) = false))
    (fun _ _ wr => wr.rangeLeft b w.heap.size)
  case atStart =>
    refine ⟨_, _, [], HRG0.out, HG0.out, ⟨rfl, .inl ⟨rfl, rfl⟩⟩, by simp, by simpa using HSZ.out, fun k => ?_⟩
    simp only [List.not_mem_nil, false_iff]
    rintro ⟨h1, h2, h3⟩
    rw [HHAS.out k h1 h2] at h3
    cases h3
  case round =>
    obtain ⟨left, cnt, L, hrg, hgw, hrow, hnd, hcnt, hmem⟩ := hrel
    have HRG := hid hrg
    have HGW := hid hgw
    have HRW := hid hrow
    have HND := hid hnd
    have HCN := hid hcnt
    have HMM := hid hmem
    clear hgw hnd hcnt hmem
    obtain ⟨a5, c5, e5⟩ := owns_slice hrow
    subst e5
    clear hrow
    go_wp2_with (first
      | (at_next; refine wpList_next_ranges (α := Int) (β := Value) _ rfl _ rfl 3 intKey raw (Value.int .i64) id (fun key kl hkey => by obtain ⟨y, rfl, _⟩ := Maps.keyOf_int_inv Try.underlying3 hkey; exact ⟨y, rfl⟩) (fun v y _ => ⟨v, rfl⟩) b w.heap.size n D left cnt rfl hrg ?_ ?_))
    · intro _ hl0
      have HL0 := hid hl0
      clear hl0 hrg
      have HSO := hid (Sort_row wr _ L _ HRW.out (by have := HCN.out; omega))
      generalize hlen : L.length = ln at *
      go_wp2_with (go_at_call 66; refine HSO.out.mono ?_; rintro e w2 ⟨rfl, h2, hm2⟩; have H2 := hid h2; have HM2 := hid hm2; clear h2 hm2)
      go_ret
      have h2 := H2.out
      have hsl : (srt L).length = ln := by rw [srt_len]; exact hlen
      refine ⟨_, srt L, rfl, ?_, srt_sorted L HND.out, by rw [srt_len]; have := HCN.out; omega, fun k => ?_, ?_⟩
      · rw [hsl]
        exact owns_base h2 (fun g hg => by have := (owns_lt h2 hg).2; omega)
      · rw [srt_mem, HMM.out]
        exact ⟨fun h => ⟨h.1, h.2.1⟩, fun h => ⟨h.1, h.2, HL0.out _⟩⟩
      · have hb1 : Below w.heap.size w wr := ⟨HGW.out.os, HGW.out.tape, HGW.out.output, HGW.out.size, fun k hk => HGW.out.block k hk (by simp)⟩
        exact HM2.out.to_below hb1 HGW.out.size (fun g hg => by have := (owns_lt HRW.out hg).2; omega)
    · intro k c kl d ps w1 cnt1 hkey hlk hv hat hrg1 hlt1 hg1 hs1 hen
      obtain ⟨k', e1, e2, hIk⟩ := Maps.keyOf_int_inv Try.underlying3 hkey
      simp only [Value.int.injEq, true_and] at e1
      subst e1 e2
      change IsI k at hIk
      simp only [raw, Option.some.injEq, Prod.mk.injEq] at hv
      obtain ⟨e3, e4⟩ := hv
      subst e3 e4
      have hMk := HKEY.out k c hIk hat
      rcases HROW.out k hIk with ⟨e5, _⟩ | ⟨u, e5, hne, hru⟩
      · rw [hMk] at e5; cases e5
      rw [hMk] at e5
      simp only [Option.some.injEq] at e5
      subst e5
      cases hfk : f k with
      | nil => exact absurd hfk hne
      | cons hd tl =>
        have hru1 := hru.1
        rw [hfk] at hru1
        obtain ⟨gc, cc, ec, hcc, _, hgl⟩ := owns_int (j := 0) hru1 (by simp)
        simp only [List.getD_cons_zero] at hcc
        have hgw := HGW.out
        have b1 : wr.heap[gc]? = w.heap[gc]? := hgw.block gc hgl (by simp)
        have b2 : w1.heap[gc]? = wr.heap[gc]? := hg1.block gc (Nat.lt_of_lt_of_le hgl hgw.size) (fun e => by simp at e; omega)
        replace hcc : w1.cell? ⟨gc, 0, none⟩ = some (.int .i64 hd) := (World.cell?_of_block (w := w) (b2.trans b1)).trans hcc
        have hgw1 : w.grownBy w1 none := ⟨hg1.os.trans hgw.os, hg1.tape.trans hgw.tape, hg1.output.trans hgw.output, Nat.le_trans hgw.size hg1.size, fun j hj _ => (hg1.block j (Nat.lt_of_lt_of_le hj hgw.size) (fun e => by simp at e; omega)).trans (hgw.block j hj (by simp))⟩
        have hrw1 : w1.ownsRow (w.heap.size + 1) 3 1 (.slice a5 L.length c5) L.length (ints L) := owns_keep HRW.out (fun g hg => hg1.block g (owns_lt HRW.out hg).1 (fun e => by have := (owns_lt HRW.out hg).2; simp at e; omega))
        have HRG1 := hid hrg1
        have HGW1 := hid hgw1
        have HRW1 := hid hrw1
        have hlen : 0 < (hd :: tl).length := by simp
        generalize hlc : (hd :: tl).length = lc at *
        have hp2 : (0 : Int) < (lc : Int) := by omega
        have HHD : Hid ((f k).head? = some hd) := hid (by rw [hfk]; rfl)
        have hrl : w.heap.size < wr.heap.size := HRG.out.lt
        have HLT := hid hlt1
        have HIK := hid hIk
        have HLK := hid hlk
        subst ec
        have HSZ1 := hid hs1
        clear hrg hrg1 hgw hgw1 hrw1 hru hru1 hfk hlc hMk hat hkey hne b1 b2 hg1 hs1
        by_cases hx : hd = x
        · subst hx
          obtain ⟨W2, hW2⟩ : ∃ W2, W2 = w1.alloc (.cells #[.int .i64 k] 3) := ⟨_, rfl⟩
          have hb2 : Below w1.heap.size w1 W2 := by rw [hW2]; exact (Below.refl _ _).alloc (Nat.le_refl _) _
          have hc2 : W2.cell? ⟨w1.heap.size, 0, none⟩ = some (.int .i64 k) := cell_of (by rw [hW2]; exact alloc_new w1 _) rfl
          have hr2 : W2.ownsRow 0 3 1 (.slice a5 L.length c5) L.length (ints L) := owns_keep (owns_zero HRW1.out) (fun g hg => hb2.block g (owns_lt HRW1.out hg).1)
          obtain ⟨v', w3, hap, ho, hm3, hob⟩ := app_run W2 _ L hr2 w1.heap.size 1 1 [k] rfl (one_cell hc2) (by have := HCN.out; omega) 31
          have hmw : Mods (fun g => (Value.slice a5 L.length c5).ownBlock = some g) w1 w3 := (Mods.of_below hb2).tr hm3
          have hge : ∀ g, (Value.slice a5 L.length c5).ownBlock = some g → w.heap.size + 1 ≤ g := fun g hg => (owns_lt HRW1.out hg).2
          have hrg3 := HRG1.out.kept hmw.grownBy (fun e => by have := hge b e.symm; omega) (fun e => by have := hge _ e.symm; omega)
          have ho3 : w3.ownsRow (w.heap.size + 1) 3 1 v' (L ++ [k]).length (ints (L ++ [k])) := owns_base ho (fun g hg => by
            rcases hob with e | e
            · exact hge g (by rw [← e]; exact hg)
            · rw [e] at hg
              simp at hg
              have := hb2.size
              have := HSZ1.out
              omega)
          have hgw3 : w.grownBy w3 none := by
            have hq := HGW1.out
            exact ⟨hmw.os.trans hq.os, hmw.tape.trans hq.tape, hmw.output.trans hq.output, Nat.le_trans hq.size hmw.size, fun j hj _ => (hmw.block j (Nat.lt_of_lt_of_le hj hq.size) (fun e => by have := hge j e; omega)).trans (hq.block j hj (by simp))⟩
          have hkL : k ∉ L := fun e => by
            have := ((HMM.out k).1 e).2.2
            rw [HLK.out] at this
            cases this
          have HNL : Hid ((L ++ [k]).Nodup) := hid (by
            rw [List.nodup_append]
            exact ⟨HND.out, by simp, fun a ha z hz e => by simp at hz; rw [e, hz] at ha; exact hkL ha⟩)
          have HML : Hid (∀ j, j ∈ L ++ [k] ↔ IsI j ∧ (f j).head? = some hd ∧ (left (.int .i64 j) && !(Lit.int .i64 j).sameKey (.int .i64 k)) = false) := hid (fun j => by
            rw [List.mem_append, List.mem_singleton, HMM.out, key_same]
            constructor
            · rintro (h1 | rfl)
              · exact ⟨h1.1, h1.2.1, by rw [h1.2.2]; rfl⟩
              · exact ⟨HIK.out, HHD.out, by simp⟩
            · rintro ⟨h1, h2, h3⟩
              by_cases e : j = k
              · exact .inr e
              · simp [e] at h3
                exact .inl ⟨h1, h2, h3⟩)
          have HCL : Hid ((L ++ [k]).length + cnt1 ≤ n) := hid (by have := HCN.out; have := HLT.out; simp; omega)
          have HRG3 := hid hrg3
          have HO3 := hid ho3
          have HGW3 := hid hgw3
          obtain ⟨a7, c7, e7⟩ := owns_slice ho
          subst e7
          clear hb2 hc2 hr2 ho hm3 hob hmw hge hrg3 ho3 hgw3 hkL
          obtain ⟨ln2, hln2⟩ : ∃ ln2, ln2 = (L ++ [k]).length := ⟨_, rfl⟩
          rw [← hln2] at hap HO3
          have HLN2 := hid hln2
          clear hln2
          obtain ⟨ln1, hln1⟩ : ∃ ln1, ln1 = L.length := ⟨_, rfl⟩
          rw [← hln1] at hap ⊢
          clear hln1
          go_wp2_with (at_builtin; rw [← hW2]; refine wpList_append_run rfl _ _ 31 rfl rfl rfl hap ?_)
          go_roundw
          case rel => exact ⟨_, cnt1, L ++ [k], HRG3.out, HGW3.out, by rw [← HLN2.out]; exact HO3.out, HNL.out, HCL.out, HML.out⟩
          case measure => rw [HRG3.out.left_eq, HRG.out.left_eq]; exact HLT.out
        · have hxb : (hd == x) = false := by simpa using hx
          have HML : Hid (∀ j, j ∈ L ↔ IsI j ∧ (f j).head? = some x ∧ (left (.int .i64 j) && !(Lit.int .i64 j).sameKey (.int .i64 k)) = false) := hid (fun j => by
            rw [HMM.out, key_same]
            constructor
            · rintro ⟨h1, h2, h3⟩
              exact ⟨h1, h2, by rw [h3]; rfl⟩
            · rintro ⟨h1, h2, h3⟩
              refine ⟨h1, h2, ?_⟩
              by_cases e : j = k
              · rw [e, HHD.out] at h2
                simp at h2
                exact absurd h2 hx
              · simpa [e] using h3)
          go_wp2
          go_roundw
          case rel => exact ⟨_, cnt1, L, HRG1.out, HGW1.out, HRW1.out, HND.out, by have := HCN.out; have := HLT.out; omega, HML.out⟩
          case measure => rw [HRG1.out.left_eq, HRG.out.left_eq]; exact HLT.out
end Go.Proofs.Ytacmdhlemolngaa
