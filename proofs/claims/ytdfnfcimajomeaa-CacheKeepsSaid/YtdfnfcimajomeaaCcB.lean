/- Rows of pointers: slices.Index, slices.Delete; cells laid into a block. -/
import Derived.Test.YtdfnfcimajomeaaCcA
import Derived.Deep.RegionLaw
import Derived.Lib.SliceRun
import Derived.Lib.Walk
import Derived.LaidEqlPtr
namespace Go.Proofs.Ytdfnfcimajomeaa
open Go.RowKit Go.Maps

abbrev pv (b : Nat) : Value := .pointer (some ⟨b, 0, none⟩)
/-- Pointers to structs are compared by their places. -/
theorem ptr_same {tp te : TypeId} {s : Nat} (hp : Try.prog.underlying tp = some (.pointer te)) (hi : (Try.prog.info? te).map (·.size) = some (s + 1)) (w : World) (b : Nat) : (binOp .eql tp (pv b) (pv b)).run Try.prog w = .ok (.bool true) w := by
  cases h : Try.prog.info? te with
  | none => rw [h] at hi; cases hi
  | some j => exact run_eql_ptr_same w _ hp h
theorem ptr_other {tp te : TypeId} {s : Nat} (hp : Try.prog.underlying tp = some (.pointer te)) (hi : (Try.prog.info? te).map (·.size) = some (s + 1)) {w : World} {a b : Nat} {ca cb : Array Value} {ta tb : TypeId} (hne : a ≠ b) (ha : w.heap[a]? = some (.cells ca ta (0, 0))) (hb : w.heap[b]? = some (.cells cb tb (0, 0))) :
    (binOp .eql tp (pv a) (pv b)).run Try.prog w = .ok (.bool false) w := by
  cases h : Try.prog.info? te with
  | none => rw [h] at hi; cases hi
  | some j =>
    rw [h] at hi
    simp at hi
    exact run_eql_ptr_other w hp h (by omega) (fun e => hne (congrArg Addr.block e)) ha hb

/-! ### cells laid into a block -/
def putA (cur : Array Value) : Nat → List Value → Array Value
  | _, [] => cur
  | o, x :: r => putA (cur.setIfInBounds o x) (o + 1) r
theorem putA_size : ∀ (vs : List Value) (cur : Array Value) (o : Nat), (putA cur o vs).size = cur.size
  | [], _, _ => rfl
  | x :: r, cur, o => by rw [putA, putA_size r]; simp
theorem putA_get : ∀ (vs : List Value) (cur : Array Value) (o : Nat), o + vs.length ≤ cur.size → ∀ j, (putA cur o vs)[j]? = if o ≤ j ∧ j < o + vs.length then vs[j - o]? else cur[j]?
  | [], cur, o, _, j => by rw [if_neg (by simp)]; rfl
  | x :: r, cur, o, h, j => by
    simp only [List.length_cons] at h ⊢
    rw [putA, putA_get r _ _ (by simp; omega)]
    by_cases e : o ≤ j ∧ j < o + (r.length + 1)
    · rw [if_pos e]
      by_cases e2 : j = o
      · subst e2
        rw [if_neg (by omega), Array.getElem?_setIfInBounds]
        simp
        omega
      · rw [if_pos (by omega), show j - o = (j - (o + 1)) + 1 by omega]
        simp
    · rw [if_neg e, if_neg (by omega), Array.getElem?_setIfInBounds, if_neg (by omega)]
theorem setCells_heap {g : Nat} {t : TypeId} : ∀ (vs : List Value) (w : World) (cur : Array Value) (o : Nat), w.heap[g]? = some (.cells cur t (0, 0)) → (w.setCells g o vs).heap[g]? = some (.cells (putA cur o vs) t (0, 0))
  | [], _, _, _, h => h
  | x :: r, w, cur, o, h => by
    show ((w.setCell ⟨g, o, none⟩ x).setCells g (o + 1) r).heap[g]? = _
    rw [setCells_heap r _ _ (o + 1) (setc h o x)]
    rfl
theorem setCells_mods (g : Nat) : ∀ (vs : List Value) (w : World) (o : Nat), Mods (fun b => b = g) w (w.setCells g o vs)
  | [], w, _ => Mods.refl _ w
  | x :: r, w, o => ((Mods.refl (fun b => b = g) w).setCell g o x rfl).tr (setCells_mods g r _ (o + 1))
/-- The block behind a row. -/
theorem owns_block {w : World} {base e g n cap : Nat} {xs : List Value} (h : w.ownsRow base e 1 (.slice (some ⟨g, 0, none⟩) n cap) n xs) : ∃ cur, w.heap[g]? = some (.cells cur e (0, 0)) ∧ n ≤ cap ∧ cap ≤ maxLen ∧ cur.size = cap ∧ (∀ j, j < n → cur[j]? = xs[j]?) ∧ xs.length = n := by
  have h1 := h.1
  rcases h.2 with ⟨e, _⟩ | ⟨g', cap', cur, e, _, hh, hc1, hc2, hcs, ht⟩
  · cases e
  · simp only [Value.slice.injEq, Option.some.injEq, Addr.mk.injEq] at e
    obtain ⟨⟨rfl, _⟩, _, rfl⟩ := e
    refine ⟨cur, hh, hc1, hc2, by omega, fun j hj => ?_, by omega⟩
    rw [← ht, List.getElem?_take, if_pos (by omega), Array.getElem?_toList]
theorem owns_of_block {w : World} {e g n cap : Nat} {xs : List Value} {cur : Array Value} (h : w.heap[g]? = some (.cells cur e (0, 0))) (h1 : n ≤ cap) (h2 : cap ≤ maxLen) (h3 : cur.size = cap) (h4 : ∀ j, j < n → cur[j]? = xs[j]?) (h5 : xs.length = n) : w.ownsRow 0 e 1 (.slice (some ⟨g, 0, none⟩) n cap) n xs := by
  refine ⟨by omega, .inr ⟨g, cap, cur, rfl, Nat.zero_le _, h, h1, h2, by omega, ?_⟩⟩
  apply List.ext_getElem?
  intro j
  rw [List.getElem?_take]
  by_cases hj : j < n
  · rw [if_pos (by omega), Array.getElem?_toList, h4 j hj]
  · rw [if_neg (by omega), List.getElem?_eq_none (by omega)]
theorem infoP : (Try.prog.info? 61).map (fun i => (i.zero, i.size, i.bytes)) = some (some (.pointer none), 1, 8) := by kernel_rfl
theorem infoPb : ∃ i, Try.prog.info? 61 = some i ∧ i.zero = some (.pointer none) ∧ i.size = 1 ∧ i.bytes = 8 := by
  have := infoP
  cases h : Try.prog.info? 61 with
  | none => rw [h] at this; cases this
  | some i => rw [h] at this; simp at this; exact ⟨i, rfl, this.1, this.2.1, this.2.2⟩
theorem zeroP (w : World) : (zeroValue 61).run Try.prog w = .ok (.pointer none) w := by kernel_rfl

set_option maxRecDepth 100000 in
set_option maxHeartbeats 4000000 in
/-- slices.Delete of a row of pointers. -/
theorem DeleteE_gen (w : World) (g n cap i k : Nat) (xs : List Value) (h : w.ownsRow 0 61 1 (.slice (some ⟨g, 0, none⟩) n cap) n xs) (hik : i < k) (hi : k ≤ n) (hone : ∀ u ∈ xs, u.oneCell' = true) :
    Calls Try.prog 50 #[.slice (some ⟨g, 0, none⟩) n cap, .int .i64 i, .int .i64 k] w fun e w' => e = .returned (.slice (some ⟨g, 0, none⟩) (i + (n - k)) cap) ∧ w'.ownsRow 0 61 1 (.slice (some ⟨g, 0, none⟩) (i + (n - k)) cap) (i + (n - k)) (xs.take i ++ xs.drop k) ∧ Mods (fun b => b = g) w w' := by
  obtain ⟨i0, hi0, hz0, hz1, hz2⟩ := infoPb
  obtain ⟨cur, hh, hc1, hc2, hcs, hg, hl⟩ := owns_block h
  obtain ⟨news, hnews⟩ : ∃ news, news = xs.drop k := ⟨_, rfl⟩
  have hlen : news.length = n - k := by rw [hnews]; simp [hl]
  obtain ⟨A, hA, hsrc⟩ : ∃ A : Addr, (if cap = k then some (⟨g, 0, none⟩ : Addr) else some ⟨g, k, none⟩) = some A ∧ Hid (∀ t u, news[t]? = some u → w.drew.cell? (A.add t) = some u) := by
    by_cases hc : cap = k
    · refine ⟨⟨g, 0, none⟩, by simp [hc], fun t u hu => ?_⟩
      have h0 : news.length = 0 := by rw [hlen]; omega
      rw [List.length_eq_zero_iff.1 h0] at hu
      simp at hu
    · refine ⟨⟨g, k, none⟩, by simp [hc], fun t u hu => ?_⟩
      have ht : t < n - k := by
        have := (List.getElem?_eq_some_iff.1 hu).1
        rwa [hlen] at this
      rw [hnews, List.getElem?_drop] at hu
      rw [Addr.add_lit]
      exact cell_of (w := w) hh (by rw [hg _ (by omega)]; exact hu)
  have s1 : Hid (news.length = (n - k) * 1) := by rw [Nat.mul_one]; exact hlen
  have s2 : Hid (∀ u ∈ news, u.oneCell' = true) := by
    intro u hu
    rw [hnews] at hu
    exact hone u (List.mem_of_mem_drop hu)
  have s3 : Hid (∀ t, t < news.length → (w.drew.cell? ⟨g, 0 + i * 1 + t, none⟩).isSome = true ∧ w.drew.frozen? ⟨g, 0 + i * 1 + t, none⟩ = false) := by
    intro t ht
    rw [hlen] at ht
    refine ⟨?_, froz_of (w := w) hh _⟩
    show (w.cell? _).isSome = true
    simp [World.cell?, hh]
    omega
  obtain ⟨W1, hW1⟩ : ∃ W1, W1 = w.drew.setCells g (0 + i * 1) news := ⟨_, rfl⟩
  have hb1 : W1.heap[g]? = some (.cells (putA cur (0 + i * 1) news) 61 (0, 0)) := by rw [hW1]; exact setCells_heap news _ _ _ hh
  have hs1 : (putA cur (0 + i * 1) news).size = cap := by rw [putA_size]; exact hcs
  obtain ⟨W2, hW2⟩ : ∃ W2, W2 = W1.setCells g (i + (n - k)) (List.replicate (n - (i + (n - k))) (.pointer none)) := ⟨_, rfl⟩
  have hcl : ∀ ty, (Builtin.clear_ #[51] ty #[.slice (some ⟨g, i + (n - k), none⟩) (n - (i + (n - k))) (cap - (i + (n - k)))]).run Try.prog W1 = .ok (.tuple #[]) W2 :=
    fun ty => by
      rw [hW2]
      exact Lib.run_clear_slice W1 _ _ ty _ Try.underlying51 zeroP rfl rfl g (i + (n - k)) _ _ (by omega) (fun t ht => by
        generalize putA cur (0 + i * 1) news = c1 at hb1 hs1
        simp [World.cell?, hb1, hs1]
        omega) (fun t ht => froz_of hb1 _)
  have hb2 : W2.heap[g]? = some (.cells (putA (putA cur (0 + i * 1) news) (i + (n - k)) (List.replicate (n - (i + (n - k))) (.pointer none))) 61 (0, 0)) := by rw [hW2]; exact setCells_heap _ _ _ _ hb1
  have HR : Hid (W2.ownsRow 0 61 1 (.slice (some ⟨g, 0, none⟩) (i + (n - k)) cap) (i + (n - k)) (xs.take i ++ xs.drop k)) := hid (by
    refine owns_of_block hb2 (by omega) hc2 (by rw [putA_size, hs1]) (fun j hj => ?_) (by simp [hl]; omega)
    rw [putA_get _ _ _ (by rw [hs1]; simp; omega), if_neg (by omega), putA_get _ _ _ (by omega)]
    by_cases e : j < i
    · rw [if_neg (by omega), List.getElem?_append_left (by simp [hl]; omega), List.getElem?_take, if_pos e, hg j (by omega)]
    · rw [if_pos (by omega), List.getElem?_append_right (by simp [hl]; omega), hnews]
      congr 1
      simp [hl]
      omega)
  have HM : Hid (Mods (fun b => b = g) w W2) := hid (by
    rw [hW2, hW1]
    exact (((Mods.refl (fun b => b = g) w).drew).tr (setCells_mods g _ _ _)).tr (setCells_mods g _ _ _))
  have hW : Hid (W1 = w.drew.setCells g (0 + i * 1) news) := hW1
  have hic : i ≤ cap := by omega
  have hkc : k ≤ cap := by omega
  have hne : ¬ (i = k) := by omega
  clear hW1 hW2 hb1 hb2 hh hg hnews hlen hs1 hcs h hone hl
  go_enter Try.func50, Try.ntmps50
  go_wp2_with fail
  go_region_law (refine step_append_room rfl (.tmp 22) (.tmp 25) 51 rfl 61 i0 1 Try.underlying51 hi0 hz1 g 0 i cap (by simp [Act.eval, Act.put]) A (n - k) (cap - k) news (by simp [Act.eval, Act.put]) s1.out hsrc.out s2.out (by omega) s3.out ?_; rw [← hW.out])
  go_wp2
  go_ret
  exact ⟨rfl, HR.out, HM.out⟩
theorem DeleteE_any (w : World) (g n cap i : Nat) (xs : List Value) (h : w.ownsRow 0 61 1 (.slice (some ⟨g, 0, none⟩) n cap) n xs) (hi : i < n) (hone : ∀ u ∈ xs, u.oneCell' = true) :
    Calls Try.prog 50 #[.slice (some ⟨g, 0, none⟩) n cap, .int .i64 i, .int .i64 ((i : Int) + 1)] w fun e w' => e = .returned (.slice (some ⟨g, 0, none⟩) (n - 1) cap) ∧ w'.ownsRow 0 61 1 (.slice (some ⟨g, 0, none⟩) (n - 1) cap) (n - 1) (xs.eraseIdx i) ∧ Mods (fun b => b = g) w w' := by
  have := DeleteE_gen w g n cap i (i + 1) xs h (by omega) (by omega) hone
  rw [show i + (n - (i + 1)) = n - 1 by omega, ← List.eraseIdx_eq_take_drop_succ] at this
  exact this
end Go.Proofs.Ytdfnfcimajomeaa
