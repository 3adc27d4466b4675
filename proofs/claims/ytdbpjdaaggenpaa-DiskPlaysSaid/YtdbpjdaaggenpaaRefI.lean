/- The document's own disk: one block more that was written once; one version more. -/
import Derived.Test.YtdbpjdaaggenpaaRefH
namespace Go.Proofs.Ytdbpjdaaggenpaa
open Go.RowKit

theorem info69 : (Try.prog.info? 69).map (fun i => (i.zero, i.size, i.bytes)) = some (some (.pointer none), 1, 8) := by kernel_rfl
theorem info69b : ∃ i, Try.prog.info? 69 = some i ∧ i.zero = some (.pointer none) ∧ i.size = 1 ∧ i.bytes = 8 := by
  have := info69
  cases h : Try.prog.info? 69 with
  | none => rw [h] at this; cases this
  | some i => rw [h] at this; simp at this; exact ⟨i, rfl, this.1, this.2.1, this.2.2⟩

theorem heap_set2 {w : World} {ad : Nat} {x y : Value} {t : TypeId} (h : w.heap[ad]? = some (.cells #[x, y] t (0, 0))) (u : Value) : (w.setCell ⟨ad, 1, none⟩ u).heap[ad]? = some (.cells #[x, u] t (0, 0)) := by
  have hl : ad < w.heap.size := (Array.getElem?_eq_some_iff.1 h).1
  have h' : w.heap[ad] = .cells #[x, y] t (0, 0) := (Array.getElem?_eq_some_iff.1 h).2
  simp [World.setCell, hl, Array.getElem_modify, h']
theorem heap_set3b {w : World} {ad : Nat} {x y z : Value} {t : TypeId} (h : w.heap[ad]? = some (.cells #[x, y, z] t (0, 0))) (u : Value) : (w.setCell ⟨ad, 2, none⟩ u).heap[ad]? = some (.cells #[x, y, u] t (0, 0)) := by
  have hl : ad < w.heap.size := (Array.getElem?_eq_some_iff.1 h).1
  have h' : w.heap[ad] = .cells #[x, y, z] t (0, 0) := (Array.getElem?_eq_some_iff.1 h).2
  simp [World.setCell, hl, Array.getElem_modify, h']

theorem RDiskAt.push {w w4 : World} {px : Nat} {vL vL' : Value} {es : List REnt} {A : Abs} {al : Nat → Prop} (d : RDiskAt w px vL es A al) (k : Int) (hk : IsI k) (hno : ∀ e ∈ es, e.at_ ≠ k)
    (hs : w.heap.size + 2 ≤ w4.heap.size) (hkeep : ∀ b, b < w.heap.size → vL.ownBlock ≠ some b → w4.heap[b]? = w.heap[b]?)
    (hg0 : w4.heap[w.heap.size]? = some (.cells (zeros.map fun x => Value.int .u8 x).toArray 5 (0, 0)))
    (had : w4.heap[w.heap.size + 1]? = some (.cells #[.int .i64 k, .slice (some ⟨w.heap.size, 0, none⟩) 512 512, .slice none 0 0] 73 (0, 0)))
    (hown : w4.ownsRow 0 69 1 vL' (es.length + 1) (es.map (fun e => Value.pointer (some ⟨e.ad, 0, none⟩)) ++ [.pointer (some ⟨w.heap.size + 1, 0, none⟩)])) (hloc : ∀ g, vL'.ownBlock = some g → al g ∨ w.heap.size ≤ g) :
    RDiskAt (w4.setCell ⟨px, 1, none⟩ vL') px vL' (es ++ [⟨k, w.heap.size + 1, .slice (some ⟨w.heap.size, 0, none⟩) 512 512, .slice none 0 0⟩]) A (fun b => al b ∨ (w.heap.size ≤ b ∧ b < w4.heap.size)) := by
  have hpx := d.lt px d.apx
  have hkind : ∀ b cur t, al b → w.heap[b]? = some (.cells cur t (0, 0)) → t ≠ 69 → w4.heap[b]? = w.heap[b]? := fun b cur t hal hcu h1 => by
    refine hkeep b (d.lt b hal) (fun e => ?_)
    obtain ⟨c2, h3⟩ := owns_kind d.row e
    rw [hcu] at h3; cases h3; exact h1 rfl
  have hbox4 : w4.heap[px]? = some (.cells #[.int .i64 A.N, vL] 37 (0, 0)) := (hkind px _ 37 d.apx d.box (by decide)).trans d.box
  have hne : ∀ b cur t, al b → w.heap[b]? = some (.cells cur t (0, 0)) → t ≠ 37 → b ≠ px := fun b cur t _ hcu h1 e => by
    rw [e, d.box] at hcu; cases hcu; exact h1 rfl
  have hk2 : ∀ b cur t, al b → w.heap[b]? = some (.cells cur t (0, 0)) → t ≠ 69 → t ≠ 37 → (w4.setCell ⟨px, 1, none⟩ vL').heap[b]? = w.heap[b]? := fun b cur t hal hcu h1 h2 =>
    (Below.heap_setCell _ _ _ _ (hne b cur t hal hcu h2)).trans (hkind b cur t hal hcu h1)
  have hss : (w4.setCell ⟨px, 1, none⟩ vL').heap.size = w4.heap.size := by simp [World.setCell]
  refine { lt := ?_, box := heap_set2 hbox4 _, apx := .inl d.apx, row := ?_, aL := ?_, ent := ?_, apart := ?_, none_ := ?_, hN := d.hN, vN := d.vN }
  · rintro b (hb | ⟨_, hb⟩)
    · have := d.lt b hb; omega
    · omega
  · rw [List.length_append, List.map_append]
    exact owns_keep hown (fun g hg => Below.heap_setCell _ _ _ _ (fun e => by
      obtain ⟨c2, h3⟩ := owns_kind hown hg
      rw [e, hbox4] at h3; cases h3))
  · intro g hg
    rcases hloc g hg with h | h
    · exact .inl h
    · exact .inr ⟨h, (owns_lt hown hg).1⟩
  · intro e he
    rcases List.mem_append.1 he with h | h
    · obtain ⟨h1, h2, h3, h4, h5⟩ := d.ent e h
      refine ⟨(hk2 _ _ 73 h2 h1 (by decide) (by decide)).trans h1, .inl h2, h3.keep (fun g cur hg hc => hk2 g cur 5 hg hc (by decide) (by decide)) (fun _ h => .inl h), h4.keep (fun g cur hg hc => hk2 g cur 5 hg hc (by decide) (by decide)) (fun g hg => ?_) (fun _ h => .inl h), h5⟩
      obtain ⟨_, _, ho, _, h6⟩ := h4
      obtain ⟨c2, h7⟩ := owns_kind ho hg
      exact hk2 g c2 42 (h6 g hg) h7 (by decide) (by decide)
    · simp only [List.mem_singleton] at h
      subst h
      obtain ⟨p1, p2⟩ := d.none_ k hno
      refine ⟨(Below.heap_setCell _ _ _ _ (by show w.heap.size + 1 ≠ px; omega)).trans had, .inr ⟨by show w.heap.size ≤ w.heap.size + 1; omega, by show w.heap.size + 1 < w4.heap.size; omega⟩, ?_, ?_, hk⟩
      · have e1 : plat A k = zeros := by simp [plat, p1]
        rw [e1]
        refine ⟨?_, zeros_len, fun x hx => ?_, fun g hg => ?_⟩
        · have := mine_row (w := w4.setCell ⟨px, 1, none⟩ vL') zeros_len ((Below.heap_setCell _ _ _ _ (by show w.heap.size ≠ px; omega)).trans hg0)
          exact this
        · unfold zeros at hx
          rw [List.mem_replicate] at hx
          rw [hx.2]; unfold IsB; omega
        · have hg : some w.heap.size = some g := hg
          obtain rfl : w.heap.size = g := by simpa using hg
          exact .inr ⟨Nat.le_refl _, by omega⟩
      · simp only [p2]
        exact ⟨[], rfl, World.ownsRow_nil _ _ _ _, fun i hi => by simp at hi, fun g hg => by simp [Value.ownBlock] at hg⟩
  · rw [List.pairwise_append]
    refine ⟨d.apart, by simp, fun e he f hf => ?_⟩
    simp only [List.mem_singleton] at hf
    subst hf
    obtain ⟨_, h2, _, _, _⟩ := d.ent e he
    exact ⟨hno e he, fun h => by have := d.lt _ h2; simp only at h; omega, fun g _ h => by simp [Value.ownBlock] at h⟩
  · intro k' hk'
    exact d.none_ k' (fun e he => hk' e (List.mem_append_left _ he))

theorem RDiskAt.wrote {w w8 : World} {px : Nat} {vL : Value} {es : List REnt} {A : Abs} {al : Nat → Prop} (d : RDiskAt w px vL es A al) (j : Nat) (hj : j < es.length) (c : List Int) (hc : c.length = 512 ∧ ∀ y ∈ c, IsB y) (hkN : 0 ≤ es[j].at_ ∧ es[j].at_ < A.N)
    (vs : List Value) (hvs : vs.length = (A.V es[j].at_).length) (hrows : ∀ i, (h : i < (A.V es[j].at_).length) → ∃ u, vs[i]? = some u ∧ Row w al u (A.V es[j].at_)[i])
    (vc v' : Value) (hs : w.heap.size ≤ w8.heap.size) (hkeep : ∀ b, b < w.heap.size → es[j].vv.ownBlock ≠ some b → w8.heap[b]? = w.heap[b]?)
    (hrow : w8.ownsRow w.heap.size 5 1 vc 512 (c.map fun x => Value.int .u8 x)) (hout : w8.ownsRow 0 42 1 v' ((A.V es[j].at_).length + 1) (vs ++ [vc])) (hloc : ∀ g, v'.ownBlock = some g → es[j].vv.ownBlock = some g ∨ w.heap.size ≤ g) :
    RDiskAt (w8.setCell ⟨es[j].ad, 2, none⟩ v') px vL (es.set j ⟨es[j].at_, es[j].ad, es[j].sv, v'⟩) (wr1 A es[j].at_ c) (fun b => al b ∨ (w.heap.size ≤ b ∧ b < w8.heap.size)) := by
  obtain ⟨hbj, haj, hrj, hvj, hIj⟩ := d.ent es[j] (List.getElem_mem hj)
  have hss : (w8.setCell ⟨es[j].ad, 2, none⟩ v').heap.size = w8.heap.size := by simp [World.setCell]
  have hvvk : ∀ g, es[j].vv.ownBlock = some g → ∃ cur, w.heap[g]? = some (.cells cur 42 (0, 0)) := fun g hg => by
    obtain ⟨_, _, ho, _, _⟩ := hvj
    exact owns_kind ho hg
  have hadn : es[j].vv.ownBlock ≠ some es[j].ad := fun e => by
    obtain ⟨c2, h⟩ := hvvk _ e
    rw [hbj] at h; cases h
  have had8 : w8.heap[es[j].ad]? = some (.cells #[.int .i64 es[j].at_, es[j].sv, es[j].vv] 73 (0, 0)) := (hkeep _ (d.lt _ haj) hadn).trans hbj
  have h5 : ∀ g cur, al g → w.heap[g]? = some (.cells cur 5 (0, 0)) → (w8.setCell ⟨es[j].ad, 2, none⟩ v').heap[g]? = w.heap[g]? := fun g cur hg hcu =>
    (Below.heap_setCell _ _ _ _ (fun e => by rw [e, hbj] at hcu; cases hcu)).trans (hkeep g (d.lt g hg) (fun e => by obtain ⟨c2, h⟩ := hvvk _ e; rw [hcu] at h; cases h))
  have hnew : ∀ {v e n xs} {base : Nat}, w8.ownsRow base e 1 v n xs → e ≠ 73 → (w8.setCell ⟨es[j].ad, 2, none⟩ v').ownsRow base e 1 v n xs := fun h he =>
    owns_keep h (fun g hg => Below.heap_setCell _ _ _ _ (fun e2 => by
      obtain ⟨c2, h3⟩ := owns_kind h hg
      rw [e2, had8] at h3; cases h3; exact he rfl))
  refine d.upd j hj es[j].sv v' rfl (fun k hk => ⟨rfl, upd_other _ _ hk⟩) (fun _ h => .inl h) ?_ (fun b hb hne hnv => (Below.heap_setCell _ _ _ _ hne).trans (hkeep b (d.lt b hb) hnv)) (heap_set3b had8 _) (hrj.keep h5 (fun _ h => .inl h)) ?_ hloc (fun _ => hkN)
  · rintro b (hb | ⟨_, hb⟩)
    · have := d.lt b hb; omega
    · omega
  · simp only [wr1, upd_same]
    refine ⟨vs ++ [vc], by simp [hvs], by simpa using hnew hout (by decide), fun i hi => ?_, fun g hg => ?_⟩
    · by_cases h : i < (A.V es[j].at_).length
      · obtain ⟨u, hu, hr⟩ := hrows i h
        refine ⟨u, by rw [List.getElem?_append_left (by omega)]; exact hu, ?_⟩
        rw [List.getElem_append_left h]
        exact hr.keep h5 (fun _ h => .inl h)
      · have hi' : i = (A.V es[j].at_).length := by simp at hi; omega
        subst hi'
        refine ⟨vc, by rw [List.getElem?_append_right (by omega), hvs]; simp, ?_⟩
        rw [List.getElem_append_right (by omega)]
        simp only [Nat.sub_self, List.getElem_singleton]
        refine ⟨?_, hc.1, hc.2, fun g hg => .inr ⟨(owns_lt hrow hg).2, (owns_lt hrow hg).1⟩⟩
        rw [hc.1]
        exact owns_base0 (hnew hrow (by decide))
    · rcases hloc g hg with h | h
      · obtain ⟨_, _, _, _, h6⟩ := hvj
        exact .inl (h6 g h)
      · exact .inr ⟨h, (owns_lt hout hg).1⟩

theorem Rows2.vs {w : World} {al : Nat → Prop} {v : Value} {ls : List (List Int)} (h : Rows2 w al v ls) :
    ∃ vs : List Value, vs.length = ls.length ∧ w.ownsRow 0 42 1 v ls.length vs ∧ ∀ i, (h : i < ls.length) → ∃ u, vs[i]? = some u ∧ Row w al u ls[i] := let ⟨vs, h1, h2, h3, _⟩ := h; ⟨vs, h1, h2, h3⟩

theorem owns_shape {w : World} {base s n : Nat} {e : TypeId} {v : Value} {xs : List Value} (h : w.ownsRow base e s v n xs) {m : Nat} (hn : n = m ∧ 0 < m) : ∃ g c, v = .slice (some ⟨g, 0, none⟩) m c := by
  obtain ⟨rfl, h0⟩ := hn
  rcases h.2 with ⟨_, h1⟩ | ⟨g, cap, cur, rfl, _⟩
  · omega
  · exact ⟨g, cap, rfl⟩

/-- What the last statement of a round of Write runs through. -/
theorem wrote_runs {wr : World} {px : Nat} {vL : Value} {es : List REnt} {A : Abs} {al : Nat → Prop} (d : RDiskAt wr px vL es A al) (j : Nat) (hj : j < es.length) (b off cc : Nat) (c : List Int) (hc : c.length = 512 ∧ ∀ y ∈ c, IsB y)
    (hsrc : ∀ i, i < 512 → wr.cell? ⟨b, off + i, none⟩ = some (.int .u8 (c.getD i 0))) (hlen : (A.V es[j].at_).length ≤ 1099511627776) (hkN : 0 ≤ es[j].at_ ∧ es[j].at_ < A.N) :
    ∃ v82 w82 v84 w84, (Builtin.append_ #[42, 42] 42 #[.slice (some ⟨wr.heap.size, 0, none⟩) 0 0, .slice (some ⟨b, off, none⟩) 512 cc]).run Try.prog (wr.drew.alloc (.cells #[] 5)) = .ok v82 w82 ∧
      (Builtin.append_ #[71, 71] 71 #[es[j].vv, .slice (some ⟨w82.heap.size, 0, none⟩) 1 1]).run Try.prog (w82.alloc (.cells #[v82] 42)) = .ok v84 w84 ∧
      wr.drew.cell? ⟨es[j].ad, 2, none⟩ = some es[j].vv ∧ (wr.drew.alloc (.cells #[] 5)).cell? ⟨es[j].ad, 2, none⟩ = some es[j].vv ∧ w82.cell? ⟨es[j].ad, 2, none⟩ = some es[j].vv ∧
      (w82.alloc (.cells #[v82] 42)).cell? ⟨es[j].ad, 2, none⟩ = some es[j].vv ∧ w84.cell? ⟨es[j].ad, 2, none⟩ = some es[j].vv ∧ w84.frozen? ⟨es[j].ad, 2, none⟩ = false ∧ ((∃ g c, v82 = .slice (some ⟨g, 0, none⟩) 512 c) ∧ ∃ g c, v84 = .slice (some ⟨g, 0, none⟩) ((A.V es[j].at_).length + 1) c) ∧
      Hid (RDiskAt (w84.setCell ⟨es[j].ad, 2, none⟩ v84) px vL (es.set j ⟨es[j].at_, es[j].ad, es[j].sv, v84⟩) (wr1 A es[j].at_ c) (fun b => al b ∨ (wr.heap.size ≤ b ∧ b < w84.heap.size)) ∧ Mods al wr (w84.setCell ⟨es[j].ad, 2, none⟩ v84)) := by
  obtain ⟨i0, hi, hz0, hz1, hz2⟩ := info5b
  obtain ⟨i4, hi4, hy0, hy1, hy2⟩ := info42b
  obtain ⟨hbj, haj, hrj, hvj, hIj⟩ := d.ent es[j] (List.getElem_mem hj)
  obtain ⟨vs, hvs, hov, hrows⟩ := hvj.vs
  have hbA : Below wr.heap.size wr (wr.drew.alloc (.cells #[] 5)) := ((Below.refl _ wr).drew).alloc (Nat.le_refl _) _
  have hO : (wr.drew.alloc (.cells #[] 5)).ownsRow wr.heap.size 5 1 (.slice (some ⟨wr.heap.size, 0, none⟩) 0 0) 0 [] := own_empty wr.drew
  obtain ⟨v82, w82, hr82, ho82, hg82, _, _⟩ := run_append_own_at (P := Try.prog) (wr.drew.alloc (.cells #[] 5)) wr.heap.size 42 42 5 i0 (.int .u8 0) 1 1 Try.underlying42 hi hz0 hz1 hz2 rfl (by decide) _ _ _ hO ⟨b, off, none⟩ 512 cc (c.map fun x => Value.int .u8 x) (by simp [hc.1]) (fun i u hu => by
      rw [add_addr]
      rw [List.getElem?_map] at hu
      simp only [Option.map_eq_some_iff] at hu
      obtain ⟨y, hy, rfl⟩ := hu
      have hi2 := (List.getElem?_eq_some_iff.1 hy).1
      have := hsrc i (by omega)
      rw [show c.getD i 0 = y by simp [List.getD, hy]] at this
      exact cell_later hbA this) (by intro u hu; simp at hu; obtain ⟨y, _, rfl⟩ := hu; rfl) (by unfold maxLen; omega) (by omega) (by simp)
  have hb82 : Below wr.heap.size wr w82 := hbA.grown hg82 (by simp) (fun g e => (owns_lt hO e).2)
  have hone : v82.oneCell' = true := by
    rcases ho82.2 with ⟨rfl, _⟩ | ⟨g, cap, cur, rfl, _⟩ <;> rfl
  have hb83 : Below wr.heap.size wr (w82.alloc (.cells #[v82] 42)) := hb82.alloc hb82.size _
  have hov83 := owns_keep hov (fun g hg => hb83.block g (owns_lt hov hg).1)
  obtain ⟨v84, w84, hr84, ho84, hg84, _, hl84⟩ := run_append_own_at (P := Try.prog) (w82.alloc (.cells #[v82] 42)) 0 71 71 42 i4 (.slice none 0 0) 1 24 Try.underlying71 hi4 hy0 hy1 hy2 rfl (by decide) _ _ _ hov83 ⟨w82.heap.size, 0, none⟩ 1 1 [v82] (by simp) (cell_one_new w82 _ 42) (by simp [hone]) (by unfold maxLen; omega) (by omega) (Nat.zero_le _)
  have hadl := d.lt _ haj
  have hcell : wr.cell? ⟨es[j].ad, 2, none⟩ = some es[j].vv := by simp [World.cell?, hbj]
  have hvvad : es[j].vv.ownBlock ≠ some es[j].ad := fun e => by
    obtain ⟨c2, h⟩ := owns_kind hov e
    rw [hbj] at h; cases h
  have hk84 : ∀ b, b < wr.heap.size → es[j].vv.ownBlock ≠ some b → w84.heap[b]? = wr.heap[b]? := fun b hb hne => (hg84.block b (Nat.lt_of_lt_of_le hb hb83.size) (fun e => hne e.symm)).trans (hb83.block b hb)
  have hs84 : wr.heap.size ≤ w84.heap.size := Nat.le_trans hb83.size hg84.size
  have hloc : ∀ g, v84.ownBlock = some g → es[j].vv.ownBlock = some g ∨ wr.heap.size ≤ g := fun g hg => by
    rcases hl84 with h | h
    · left; rw [← h]; exact hg
    · right
      rw [h] at hg
      have : (w82.alloc (.cells #[v82] 42)).heap.size = g := by simpa using hg
      have := hb83.size
      omega
  have hrow84 : w84.ownsRow wr.heap.size 5 1 v82 512 (c.map fun x => Value.int .u8 x) := by
    have h82 : w82.ownsRow wr.heap.size 5 1 v82 512 (c.map fun x => Value.int .u8 x) := by
      rw [List.nil_append, Nat.zero_add] at ho82
      exact ho82
    refine owns_keep h82 (fun g hg => ?_)
    obtain ⟨hlt, hge⟩ := owns_lt h82 hg
    refine (hg84.block g (by simp; omega) (fun e => ?_)).trans (Below.heap_alloc _ _ _ hlt)
    have := (owns_lt hov e.symm).1
    omega
  have hd84 := (d.wrote j hj c hc hkN vs hvs hrows v82 v84 hs84 hk84 hrow84 ho84 hloc)
  have hfz : w84.frozen? ⟨es[j].ad, 2, none⟩ = false := by
    have : w84.heap[es[j].ad]? = some (.cells #[.int .i64 es[j].at_, es[j].sv, es[j].vv] 73 (0, 0)) := (hk84 _ hadl hvvad).trans hbj
    simp [World.frozen?, this]
  refine ⟨v82, w82, v84, w84, hr82, hr84, hcell, cell_later hbA hcell, cell_later hb82 hcell, cell_later hb83 hcell, (World.cell?_of_block (w := wr) (hk84 _ hadl hvvad)).trans hcell, hfz, ⟨owns_shape ho82 (by omega), owns_shape ho84 (by omega)⟩, hid ⟨hd84, ?_⟩⟩
  refine ⟨hg84.os.trans hb83.os, hg84.tape.trans hb83.tape, hg84.output.trans hb83.output, by simpa [World.setCell] using hs84, fun b' hb' hn' => ?_⟩
  rw [Below.heap_setCell _ _ _ _ (fun e => hn' (by rw [e]; exact haj))]
  refine hk84 b' hb' (fun e => hn' ?_)
  obtain ⟨_, _, _, _, h6⟩ := hvj
  exact h6 _ e

/-- The same, by the block itself. -/
theorem wrote_en {wr : World} {px : Nat} {vL : Value} {es : List REnt} {A : Abs} {al : Nat → Prop} (d : RDiskAt wr px vL es A al) (en : REnt) (hen : en ∈ es) (b off cc : Nat) (c : List Int) (hc : c.length = 512 ∧ ∀ y ∈ c, IsB y)
    (hsrc : ∀ i, i < 512 → wr.cell? ⟨b, off + i, none⟩ = some (.int .u8 (c.getD i 0))) (hlen : (A.V en.at_).length ≤ 1099511627776) (hkN : 0 ≤ en.at_ ∧ en.at_ < A.N) :
    ∃ v82 w82 v84 w84, (Builtin.append_ #[42, 42] 42 #[.slice (some ⟨wr.heap.size, 0, none⟩) 0 0, .slice (some ⟨b, off, none⟩) 512 cc]).run Try.prog (wr.drew.alloc (.cells #[] 5)) = .ok v82 w82 ∧
      (Builtin.append_ #[71, 71] 71 #[en.vv, .slice (some ⟨w82.heap.size, 0, none⟩) 1 1]).run Try.prog (w82.alloc (.cells #[v82] 42)) = .ok v84 w84 ∧
      wr.drew.cell? ⟨en.ad, 2, none⟩ = some en.vv ∧ (wr.drew.alloc (.cells #[] 5)).cell? ⟨en.ad, 2, none⟩ = some en.vv ∧ w82.cell? ⟨en.ad, 2, none⟩ = some en.vv ∧
      (w82.alloc (.cells #[v82] 42)).cell? ⟨en.ad, 2, none⟩ = some en.vv ∧ w84.cell? ⟨en.ad, 2, none⟩ = some en.vv ∧ w84.frozen? ⟨en.ad, 2, none⟩ = false ∧ ((∃ g c, v82 = .slice (some ⟨g, 0, none⟩) 512 c) ∧ ∃ g c, v84 = .slice (some ⟨g, 0, none⟩) ((A.V en.at_).length + 1) c) ∧
      Hid (∃ es' al', RDiskAt (w84.setCell ⟨en.ad, 2, none⟩ v84) px vL es' (wr1 A en.at_ c) al' ∧ es'.length = es.length ∧ (∀ b, al' b → al b ∨ wr.heap.size ≤ b) ∧ Mods al wr (w84.setCell ⟨en.ad, 2, none⟩ v84)) := by
  obtain ⟨j, hj, rfl⟩ := List.getElem_of_mem hen
  obtain ⟨v82, w82, v84, w84, h1, h2, h3, h4, h5, h6, h7, h8, h9, h10⟩ := wrote_runs d j hj b off cc c hc hsrc hlen hkN
  exact ⟨v82, w82, v84, w84, h1, h2, h3, h4, h5, h6, h7, h8, h9, hid ⟨_, _, h10.out.1, by simp, fun b hb => hb.imp id (fun h => h.1), h10.out.2⟩⟩

/-- What laying in a block that was never written runs through. -/
theorem push_runs {wr : World} {px : Nat} {vL : Value} {es : List REnt} {A : Abs} {al : Nat → Prop} (d : RDiskAt wr px vL es A al) (k : Int) (hk : IsI k) (hno : ∀ e ∈ es, e.at_ ≠ k) (hlen : es.length ≤ 1099511627776) :
    ∃ vL' w4, (Builtin.append_ #[35, 35] 35 #[vL, .slice (some ⟨wr.heap.size + 1 + 1, 0, none⟩) 1 1]).run Try.prog (((wr.alloc (.cells (madeCells #[.int .u8 0] 512) 5)).alloc (.cells #[.int .i64 k, .slice (some ⟨wr.heap.size, 0, none⟩) 512 512, .slice none 0 0] 73)).alloc (.cells #[.pointer (some ⟨wr.heap.size + 1, 0, none⟩)] 69)) = .ok vL' w4 ∧
      ((wr.alloc (.cells (madeCells #[.int .u8 0] 512) 5)).alloc (.cells #[.int .i64 k, .slice (some ⟨wr.heap.size, 0, none⟩) 512 512, .slice none 0 0] 73)).cell? ⟨px, 1, none⟩ = some vL ∧
      w4.cell? ⟨px, 1, none⟩ = some vL ∧ w4.frozen? ⟨px, 1, none⟩ = false ∧ (∃ g c, vL' = .slice (some ⟨g, 0, none⟩) (es.length + 1) c) ∧
      Hid (∃ al', RDiskAt (w4.setCell ⟨px, 1, none⟩ vL') px vL' (es ++ [⟨k, wr.heap.size + 1, .slice (some ⟨wr.heap.size, 0, none⟩) 512 512, .slice none 0 0⟩]) A al' ∧ (∀ b, al' b → al b ∨ wr.heap.size ≤ b) ∧ Mods al wr (w4.setCell ⟨px, 1, none⟩ vL')) := by
  obtain ⟨i0, hi, hz0, hz1, hz2⟩ := info69b
  have hb1 : Below wr.heap.size wr (wr.alloc (.cells (madeCells #[.int .u8 0] 512) 5)) := (Below.refl _ wr).alloc (Nat.le_refl _) _
  have hb2 := hb1.alloc hb1.size (.cells #[.int .i64 k, .slice (some ⟨wr.heap.size, 0, none⟩) 512 512, .slice none 0 0] 73)
  have hb3 := hb2.alloc hb2.size (.cells #[.pointer (some ⟨wr.heap.size + 1, 0, none⟩)] 69)
  have hcell : wr.cell? ⟨px, 1, none⟩ = some vL := by simp [World.cell?, d.box]
  have hrow3 := owns_keep d.row (fun g hg => hb3.block g (owns_lt d.row hg).1)
  have hsz2 : ((wr.alloc (.cells (madeCells #[.int .u8 0] 512) 5)).alloc (.cells #[.int .i64 k, .slice (some ⟨wr.heap.size, 0, none⟩) 512 512, .slice none 0 0] 73)).heap.size = wr.heap.size + 1 + 1 := by simp
  obtain ⟨vL', w4, hr4, ho4, hg4, _, hl4⟩ := run_append_own_at (P := Try.prog) (((wr.alloc (.cells (madeCells #[.int .u8 0] 512) 5)).alloc (.cells #[.int .i64 k, .slice (some ⟨wr.heap.size, 0, none⟩) 512 512, .slice none 0 0] 73)).alloc (.cells #[.pointer (some ⟨wr.heap.size + 1, 0, none⟩)] 69)) 0 35 35 69 i0 (.pointer none) 1 8 Try.underlying35 hi hz0 hz1 hz2 rfl (by decide) _ _ _ hrow3 ⟨wr.heap.size + 1 + 1, 0, none⟩ 1 1 [.pointer (some ⟨wr.heap.size + 1, 0, none⟩)] (by simp) (by
      have := cell_one_new ((wr.alloc (.cells (madeCells #[.int .u8 0] 512) 5)).alloc (.cells #[.int .i64 k, .slice (some ⟨wr.heap.size, 0, none⟩) 512 512, .slice none 0 0] 73)) (.pointer (some ⟨wr.heap.size + 1, 0, none⟩)) 69
      rw [hsz2] at this
      exact this) (by simp [Value.oneCell']) (by unfold maxLen; omega) (by omega) (Nat.zero_le _)
  have hpx := d.lt px d.apx
  have hpn : vL.ownBlock ≠ some px := fun e => by
    obtain ⟨c2, h⟩ := owns_kind d.row e
    rw [d.box] at h; cases h
  have hk4 : ∀ b, b < wr.heap.size → vL.ownBlock ≠ some b → w4.heap[b]? = wr.heap[b]? := fun b hb hne => (hg4.block b (Nat.lt_of_lt_of_le hb hb3.size) (fun e => hne e.symm)).trans (hb3.block b hb)
  have hs4 : wr.heap.size + 3 ≤ w4.heap.size := by have := hg4.size; simp at this; omega
  have hold : ∀ g, vL.ownBlock = some g → g < wr.heap.size := fun g hg => (owns_lt d.row hg).1
  have hnew : ∀ b, wr.heap.size ≤ b → b < wr.heap.size + 3 → w4.heap[b]? = (((wr.alloc (.cells (madeCells #[.int .u8 0] 512) 5)).alloc (.cells #[.int .i64 k, .slice (some ⟨wr.heap.size, 0, none⟩) 512 512, .slice none 0 0] 73)).alloc (.cells #[.pointer (some ⟨wr.heap.size + 1, 0, none⟩)] 69)).heap[b]? := fun b h1 h2 =>
    hg4.block b (by simp; omega) (fun e => by have := hold b e.symm; omega)
  have hg0 : w4.heap[wr.heap.size]? = some (.cells (zeros.map fun x => Value.int .u8 x).toArray 5 (0, 0)) := by
    rw [hnew _ (Nat.le_refl _) (by omega), Below.heap_alloc _ _ _ (by simp; omega), Below.heap_alloc _ _ _ (by simp)]
    exact made_heap wr
  have had : w4.heap[wr.heap.size + 1]? = some (.cells #[.int .i64 k, .slice (some ⟨wr.heap.size, 0, none⟩) 512 512, .slice none 0 0] 73 (0, 0)) := by
    rw [hnew _ (by omega) (by omega), Below.heap_alloc _ _ _ (by simp)]
    have := (MapKept.heap_alloc (wr.alloc (.cells (madeCells #[.int .u8 0] 512) 5)) (.cells #[.int .i64 k, .slice (some ⟨wr.heap.size, 0, none⟩) 512 512, .slice none 0 0] 73)).1
    rw [World.size_alloc] at this
    exact this
  have hloc : ∀ g, vL'.ownBlock = some g → al g ∨ wr.heap.size ≤ g := fun g hg => by
    rcases hl4 with h | h
    · left; rw [h] at hg; exact d.aL g hg
    · right
      rw [h] at hg
      have h2 := Option.some.inj hg
      have := hb3.size
      omega
  refine ⟨vL', w4, hr4, cell_later hb2 hcell, (World.cell?_of_block (w := wr) (hk4 _ hpx hpn)).trans hcell, ?_, owns_shape ho4 (by omega), hid ⟨_, d.push k hk hno (by omega) hk4 hg0 had ho4 hloc, fun b hb => hb.imp id (fun h => h.1), ?_⟩⟩
  · have : w4.heap[px]? = some (.cells #[.int .i64 A.N, vL] 37 (0, 0)) := (hk4 _ hpx hpn).trans d.box
    simp [World.frozen?, this]
  · refine ⟨hg4.os.trans hb3.os, hg4.tape.trans hb3.tape, hg4.output.trans hb3.output, by show wr.heap.size ≤ (w4.heap.modify _ _).size; rw [Array.size_modify]; omega, fun b' hb' hn' => ?_⟩
    rw [Below.heap_setCell _ _ _ _ (fun e => hn' (by rw [e]; exact d.apx))]
    exact hk4 b' hb' (fun e => hn' (d.aL _ e))
end Go.Proofs.Ytdbpjdaaggenpaa
