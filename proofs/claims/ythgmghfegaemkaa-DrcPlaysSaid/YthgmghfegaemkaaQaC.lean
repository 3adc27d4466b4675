/- slices.Delete of a row of keys. -/
import Derived.Test.YthgmghfegaemkaaQaA
import Derived.Test.YthgmghfegaemkaaPaB
namespace Go.Proofs.Ythgmghfegaemkaa
open Go.RowKit Go.Maps
set_option linter.unusedVariables false

theorem infoK : ∃ i, Try.prog.info? 33 = some i ∧ i.zero = some (kV ⟨0, 0, 0, 0, 0⟩) ∧ i.size = 5 ∧ i.bytes = 32 := by
  have h : (Try.prog.info? 33).map (fun i => (i.zero, i.size, i.bytes)) = some (some (kV ⟨0, 0, 0, 0, 0⟩), 5, 32) := by kernel_rfl
  cases hi : Try.prog.info? 33 with
  | none => rw [hi] at h; simp at h
  | some i => rw [hi] at h; simp at h; exact ⟨i, rfl, h.1, h.2.1, h.2.2⟩
theorem zeroK (w : World) : (zeroValue 33).run Try.prog w = .ok (kV ⟨0, 0, 0, 0, 0⟩) w := by kernel_rfl
theorem sizeK (w : World) : (Go.sizeOf 33).run Try.prog w = .ok 5 w := by kernel_rfl
/-- 'clear' of n elements of several cells. -/
theorem run_clear_wide {P : Program} (w : World) (t e : TypeId) (z : Value) (ht : P.underlying t = some (.slice e)) (hv : ∀ w, (zeroValue e).run P w = .ok z w) (s : Nat) (hz : z.cells.size = s) (h1 : z.cells.all (·.oneCell') = true) (b o n c : Nat) (hn : 0 < n)
    (hc : ∀ j, j < n * s → (w.cell? ⟨b, o + j, none⟩).isSome = true) (hf : ∀ j, j < n * s → w.frozen? ⟨b, o + j, none⟩ = false) :
    ∃ vs : List Value, vs.length = n * s ∧ ∀ ty : TypeId, (Builtin.clear_ #[t] ty #[.slice (some ⟨b, o, none⟩) n c]).run P w = .ok (.tuple #[]) (w.setCells b o vs) := by
  refine ⟨(Builtin.zeroCells z.cells n).toList, by simp [Builtin.zeroCells, hz], fun ty => ?_⟩
  have hst := run_storeCells_cells (P := P) b o (Builtin.zeroCells z.cells n).toList 0 w (by simpa [Builtin.zeroCells, hz] using hc) (by simpa [Builtin.zeroCells, hz] using hf) (by
    intro v hv'
    simp [Builtin.zeroCells] at hv'
    obtain ⟨a, ha, rfl⟩ := hv'
    rw [Array.all_eq_true] at h1
    have hlt : a % z.cells.size < z.cells.size := Nat.mod_lt _ (by
      rcases Nat.eq_zero_or_pos z.cells.size with h | h
      · rw [h] at ha; simp at ha
      · exact h)
    have := h1 (a % z.cells.size) hlt
    simpa [hlt] using this)
  simp only [Nat.add_zero] at hst
  obtain ⟨m, rfl⟩ : ∃ m, n = m + 1 := ⟨n - 1, by omega⟩
  simp [Builtin.clear_, run_underlying ht, hv, hst]
set_option maxRecDepth 100000 in
set_option maxHeartbeats 4000000 in
theorem DeleteK_any (w : World) (b off n cap i : Nat) (X : List Value) (h : RW w 33 5 (.slice (some ⟨b, off, none⟩) n cap) n X) (hi : i < n) (hone : ∀ u ∈ X, u.oneCell' = true) :
    Calls Try.prog 19 #[.slice (some ⟨b, off, none⟩) n cap, .int .i64 i, .int .i64 ((i : Int) + 1)] w fun e w' => e = .returned (.slice (some ⟨b, off, none⟩) (n - 1) cap) ∧ RW w' 33 5 (.slice (some ⟨b, off, none⟩) (n - 1) cap) (n - 1) (X.take (i * 5) ++ X.drop ((i + 1) * 5)) ∧ Mods (fun x => x = b) w w' := by
  obtain ⟨i0, hi0, hz0, hz1, hz2⟩ := infoK
  have hl := h.1
  obtain ⟨cur, hh, hc1, hc2, hcs, hg⟩ : ∃ cur, w.heap[b]? = some (.cells cur 33 (0, 0)) ∧ n ≤ cap ∧ cap ≤ maxLen ∧ off + cap * 5 ≤ cur.size ∧ ∀ j, j < n * 5 → cur[off + j]? = X[j]? := by
    rcases h.2 with ⟨e, _⟩ | ⟨b', off', cap', cur, e, hh, h1, hm, h2, h3⟩
    · simp at e
    · simp only [Value.slice.injEq, Option.some.injEq, Addr.mk.injEq, and_true, true_and] at e
      obtain ⟨⟨rfl, rfl⟩, rfl⟩ := e
      exact ⟨cur, hh, h1, hm, h2, h3⟩
  obtain ⟨k, hk⟩ : ∃ k, k = i + 1 := ⟨_, rfl⟩
  obtain ⟨news, hnews⟩ : ∃ news, news = X.drop (k * 5) := ⟨_, rfl⟩
  have hlen : news.length = (n - k) * 5 := by rw [hnews]; simp [hl]; omega
  obtain ⟨A, hA, hsrc⟩ : ∃ A : Addr, (if cap = k then some (⟨b, off, none⟩ : Addr) else some ⟨b, off + k * 5, none⟩) = some A ∧ Hid (∀ t u, news[t]? = some u → w.drew.cell? (A.add t) = some u) := by
    by_cases hc : cap = k
    · refine ⟨⟨b, off, none⟩, by simp [hc], fun t u hu => ?_⟩
      have h0 : news.length = 0 := by rw [hlen]; omega
      rw [List.length_eq_zero_iff.1 h0] at hu
      simp at hu
    · refine ⟨⟨b, off + k * 5, none⟩, by simp [hc], fun t u hu => ?_⟩
      have ht : t < (n - k) * 5 := by
        have := (List.getElem?_eq_some_iff.1 hu).1
        rwa [hlen] at this
      rw [hnews, List.getElem?_drop] at hu
      rw [Addr.add_lit, Nat.add_assoc]
      exact cell_of (w := w) hh (by rw [hg _ (by omega)]; exact hu)
  have s1 : Hid (news.length = (n - k) * 5) := hlen
  have s2 : Hid (∀ u ∈ news, u.oneCell' = true) := by
    intro u hu
    rw [hnews] at hu
    exact hone u (List.mem_of_mem_drop hu)
  have s3 : Hid (∀ t, t < news.length → (w.drew.cell? ⟨b, off + i * 5 + t, none⟩).isSome = true ∧ w.drew.frozen? ⟨b, off + i * 5 + t, none⟩ = false) := by
    intro t ht
    rw [hlen] at ht
    refine ⟨?_, froz_of (w := w) hh _⟩
    show (w.cell? _).isSome = true
    simp [World.cell?, hh]
    omega
  obtain ⟨W1, hW1⟩ : ∃ W1, W1 = w.drew.setCells b (off + i * 5) news := ⟨_, rfl⟩
  have hb1 : W1.heap[b]? = some (.cells (putA cur (off + i * 5) news) 33 (0, 0)) := by rw [hW1]; exact setCells_heap news _ _ _ hh
  have hs1 : (putA cur (off + i * 5) news).size = cur.size := by rw [putA_size]
  have hcl : ∃ vs : List Value, vs.length = (n - (i + (n - k))) * 5 ∧ ∀ ty, (Builtin.clear_ #[44] ty #[.slice (some ⟨b, off + (i + (n - k)) * 5, none⟩) (n - (i + (n - k))) (cap - (i + (n - k)))]).run Try.prog W1 = .ok (.tuple #[]) (W1.setCells b (off + (i + (n - k)) * 5) vs) := by
    exact run_clear_wide (P := Try.prog) W1 44 33 _ Try.underlying44 zeroK 5 rfl (by simp [Value.cells, Value.oneCell']) b (off + (i + (n - k)) * 5) (n - (i + (n - k))) (cap - (i + (n - k))) (by omega) (fun t ht => by
        generalize putA cur (off + i * 5) news = c1 at hb1 hs1
        simp [World.cell?, hb1, hs1]
        omega) (fun t ht => froz_of hb1 _)
  obtain ⟨vs, hvl, hcl⟩ := hcl
  obtain ⟨W2, hW2⟩ : ∃ W2, W2 = W1.setCells b (off + (i + (n - k)) * 5) vs := ⟨_, rfl⟩
  rw [← hW2] at hcl
  have hb2 : W2.heap[b]? = some (.cells (putA (putA cur (off + i * 5) news) (off + (i + (n - k)) * 5) vs) 33 (0, 0)) := by rw [hW2]; exact setCells_heap _ _ _ _ hb1
  have HR : Hid (RW W2 33 5 (.slice (some ⟨b, off, none⟩) (n - 1) cap) (n - 1) (X.take (i * 5) ++ X.drop ((i + 1) * 5))) := hid (by
    refine ⟨by simp [hl]; omega, .inr ⟨b, off, cap, _, rfl, hb2, by omega, hc2, by rw [putA_size, hs1]; exact hcs, fun j hj => ?_⟩⟩
    rw [putA_get _ _ _ (by rw [hs1, hvl]; omega), if_neg (by omega), putA_get _ _ _ (by rw [hlen]; omega)]
    by_cases e : j < i * 5
    · rw [if_neg (by omega), List.getElem?_append_left (by simp [hl]; omega), List.getElem?_take, if_pos e, hg j (by omega)]
    · rw [if_pos (by rw [hlen]; omega), List.getElem?_append_right (by simp [hl]; omega), hnews, hk]
      congr 1
      simp [hl]
      omega)
  have HM : Hid (Mods (fun x => x = b) w W2) := hid (by
    rw [hW2, hW1]
    exact (((Mods.refl (fun x => x = b) w).drew).tr (setCells_mods b _ _ _)).tr (setCells_mods b _ _ _))
  have hW : Hid (W1 = w.drew.setCells b (off + i * 5) news) := hW1
  have hic : i ≤ cap := by omega
  have hkc : k ≤ cap := by omega
  have hne : ¬ (i = k) := by omega
  have hn1 : i + (n - k) = n - 1 := by omega
  have hik : ((i : Int) + 1) = (k : Int) := by omega
  have hkn : k ≤ n := by omega
  rw [hik]
  rw [hn1] at hcl
  clear hik
  clear hW1 hW2 hb1 hb2 hh hg hnews hlen hs1 hcs h hone hl hk
  go_enter Try.func19, Try.ntmps19
  go_wp2_with fail
  go_region_law (refine step_append_room rfl (.tmp 22) (.tmp 25) 44 rfl 33 i0 5 Try.underlying44 hi0 hz1 b off i cap (by simp [Act.eval, Act.put]) A (n - k) (cap - k) news (by simp [Act.eval, Act.put]) s1.out hsrc.out s2.out (by omega) s3.out ?_; rw [← hW.out])
  go_wp2
  go_ret
  exact ⟨rfl, HR.out, HM.out⟩
end Go.Proofs.Ythgmghfegaemkaa
