/- within; a log and what lay below it. -/
import Derived.Test.YtoifeioijoancaaDoorWdF
namespace Go.Proofs.YtoifeioijoancaaDoor
open Go.RowKit Go.Maps
set_option linter.unusedVariables false

def wi (x n : Int) : Int := if x.tmod n < 0 then x.tmod n + n else x.tmod n
theorem wi_bd (x : Int) {n : Int} (h : 0 < n) : 0 ≤ wi x n ∧ wi x n < n := by
  have h1 := Int.tmod_lt_of_pos x h
  have h2 : -n < x.tmod n := by
    rcases Int.lt_or_le x 0 with h3 | h3
    · have h4 := Int.neg_tmod (-x) n
      rw [Int.neg_neg] at h4
      rw [h4]
      have := Int.tmod_lt_of_pos (-x) h
      omega
    · have := Int.tmod_nonneg n h3
      omega
  unfold wi
  split <;> omega
theorem wrap_wi {x n : Int} (h0 : 0 < n) (hn : n < 1099511627776) (h : x.tmod n < 0) : IntKind.i64.wrap (x.tmod n + n) = x.tmod n + n := by
  have h1 := wi_bd x h0
  unfold wi at h1
  rw [if_pos h] at h1
  exact IntWalk.i64_in _ (by omega)
set_option maxHeartbeats 400000 in
theorem within_any (x n : Int) (h0 : 0 < n) (hn : n < 1099511627776) (w : World) : Calls Tryd.prog 26 #[.int .i64 x, .int .i64 n] w fun e w' => e = .returned (.int .i64 (wi x n)) ∧ w' = w := by
  have hne : ¬ (n = 0) := by omega
  have hne' : n ≠ 0 := by omega
  by_cases h : x.tmod n < 0
  · have hw := wrap_wi h0 hn h
    have e : wi x n = x.tmod n + n := by unfold wi; rw [if_pos h]
    rw [e]
    go_enter Tryd.func26, Tryd.ntmps26
    go_wp2
    go_ret
    exact ⟨rfl, rfl⟩
  · have e : wi x n = x.tmod n := by unfold wi; rw [if_neg h]
    rw [e]
    go_enter Tryd.func26, Tryd.ntmps26
    go_wp2
    go_ret
    exact ⟨rfl, rfl⟩
/-! ### groups, plainly -/
theorem posP_blks {l m : List Pt} (h : l.map Pt.blk = m.map Pt.blk) (b : Int) : posP l b = posP m b := by
  have e : ∀ l : List Pt, posP l b = (l.map Pt.blk).findIdx (fun x => x == b) := fun l => by unfold posP; rw [List.findIdx_map]; rfl
  rw [e, e, h]
theorem find_layS (l : List Pt) (p : Pt) : findP (layS l p) p.blk = some p.dat := by
  unfold findP
  by_cases h : posP l p.blk < l.length
  · have hb : (layS l p).map Pt.blk = l.map Pt.blk := by rw [layS_blks, if_pos ((posP_mem l p.blk).1 h)]
    have hs : layS l p = l.set (posP l p.blk) p := by unfold layS; rw [if_pos h]
    rw [posP_blks hb]
    rw [hs, List.length_set, if_pos h]
    simp [List.getD, h]
  · have hs : layS l p = l ++ [p] := by unfold layS; rw [if_neg h]
    have hm : p.blk ∈ (layS l p).map Pt.blk := by rw [hs]; simp
    have hlt := (posP_mem (layS l p) p.blk).2 hm
    rw [if_pos hlt]
    have hpos : posP (layS l p) p.blk = l.length := by
      refine posP_hit (by rw [hs]; simp) ?_ (by rw [hs]; simp [List.getD])
      rcases Nat.lt_or_ge (posP (layS l p) p.blk) l.length with h1 | h1
      · exfalso
        have h2 := posP_at hlt
        generalize posP (layS l p) p.blk = k at *
        rw [hs] at h2
        have h3 : (l ++ [p]).getD k default = l.getD k default := by unfold List.getD; rw [List.getElem?_append_left h1]
        rw [h3] at h2
        refine h ((posP_mem l p.blk).2 ?_)
        rw [← h2]
        exact List.mem_map_of_mem (by simp [List.getD, h1])
      · exact h1
    rw [hpos, hs]
    simp [List.getD]
theorem joinL_one (l : List Pt) (p : Pt) : joinL l [p] = layS l p := rfl
theorem firstBad_one {p : Pt} (h : 0 ≤ p.blk ∧ p.blk < 4294967296 ∧ p.dat.length = 512) : firstBad [p] = 0 := by
  unfold firstBad badOf
  rw [if_neg (by rw [if_neg (by omega), if_neg (by omega)]; simp)]
  rfl
/-- A log, all of it new since w0, and nothing old has turned. -/
structure Ho (w0 w : World) (p : Nat) (S : Nat → Prop) (A : Lg) : Prop where
  lo : Lo w p S A
  bel : Below w0.heap.size w0 w
  low : ∀ b, S b → w0.heap.size ≤ b
section
variable {w0 w w' : World} {p : Nat} {S S' : Nat → Prop} {A A' : Lg}
theorem Ho.below (h : Ho w0 w p S A) (hb : Below w.heap.size w w') : Ho w0 w' p S A := ⟨h.lo.later hb, h.bel.trans (hb.mono h.bel.size), h.low⟩
theorem Ho.kp (h : Ho w0 w p S A) (hl : Lo w' p S' A') (hk : Kp S w S' w') : Ho w0 w' p S' A' := by
  obtain ⟨h1, h2⟩ := hk.below0 h.bel h.low
  exact ⟨hl, h1, h2⟩
theorem Ho.mods (h : Ho w0 w p S A) (hl : Lo w' p S A') (hm : Mods (fun b => b = p) w w') (hp : S p) : Ho w0 w' p S A' :=
  h.kp hl ⟨fun _ h => .inl h, hm.weak (fun b e => .inl (by rw [e]; exact hp))⟩
end
theorem Lo.own {w : World} {p : Nat} {S : Nat → Prop} {A : Lg} (h : Lo w p S A) : S p := let ⟨_, _, _, _, h⟩ := h; h.own
/-- One block that is put into memory, and joins. -/
theorem join1 {w0 w1 w2 : World} {p : Nat} {S : Nat → Prop} {A : Lg} (h : Ho w0 w1 p S A) (g n : Nat) (blk : Int) (d : List Int) (hd : d.length = n) (hb : blk < 9223372036854775808) (hy : By w2 (New w1) (some ⟨g, 0, none⟩) d) (hb2 : Below w1.heap.size w1 w2) :
    Calls Tryd.prog 27 #[.pointer (some ⟨p, 0, none⟩), .slice (some ⟨w2.heap.size, 0, none⟩) 1 1] (w2.alloc (.cells #[.int .i64 blk, .slice (some ⟨g, 0, none⟩) n n] 29)) fun e w' => e = .returned (.tuple #[.int .i64 (joinN A [⟨blk, d⟩]), .int .i64 (joinE A [⟨blk, d⟩])]) ∧ ∃ S', Ho w0 w' p S' (joinS A [⟨blk, d⟩]) ∧ Below w0.heap.size w0 w' := by
  subst hd
  have hb3 : Below w2.heap.size w2 (w2.alloc (.cells #[.int .i64 blk, .slice (some ⟨g, 0, none⟩) d.length d.length] 29)) := (Below.refl _ _).alloc (Nat.le_refl _) _
  have hh3 : (w2.alloc (.cells #[.int .i64 blk, .slice (some ⟨g, 0, none⟩) d.length d.length] 29)).heap[w2.heap.size]? = some (.cells #[.int .i64 blk, .slice (some ⟨g, 0, none⟩) d.length d.length] 29 (0, 0)) := alloc_new w2 _
  have hb13 := hb2.trans (hb3.mono hb2.size)
  have hps : Ps (w2.alloc (.cells #[.int .i64 blk, .slice (some ⟨g, 0, none⟩) d.length d.length] 29)) (New w1) (some ⟨w2.heap.size, 0, none⟩) [⟨blk, some ⟨g, 0, none⟩, d.length, d⟩] := by
    refine ⟨fun q hq => ?_, fun _ => ⟨w2.heap.size, 0, _, rfl, hb2.size, hh3, fun i hi => ?_⟩⟩
    · have e := List.mem_singleton.1 hq
      subst e
      exact ⟨hy.later hb3, Nat.le_refl _⟩
    · rw [Nat.zero_add, List.getElem?_toArray]; rfl
  have hj := Join_any (h.lo.later hb13) (New w1) (some ⟨w2.heap.size, 0, none⟩) 1 [⟨blk, some ⟨g, 0, none⟩, d.length, d⟩] hps (fun b h1 h2 => by have := h.lo.lt b h2; unfold New at h1; omega) (by simp) (fun q hq => by have e := List.mem_singleton.1 hq; subst e; exact hb)
  refine Calls.mono hj (fun e w' hh => ?_)
  obtain ⟨h1, S', h2, h3⟩ := hh
  have h4 := (h.below hb13).kp h2 h3
  exact ⟨h1, S', h4, h4.bel⟩
end Go.Proofs.YtoifeioijoancaaDoor
