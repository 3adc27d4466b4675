/- Both caches side by side: what a call leaves of both. -/
import Derived.Test.YtdfnfcimajomeaaCyF
namespace Go.Proofs.Ytdfnfcimajomeaa
open Go.RowKit Go.Maps

/-- Both caches, each in blocks of its own. -/
structure Tw (w0 w : World) (p q : Nat) (S T : Nat → Prop) (A B : Cs) (m : Nat) : Prop where
  ca : Ca w p S A m
  ya : Ya w q T B
  dis : ∀ b, S b → ¬ T b
  bel : Below w0.heap.size w0 w
  ls : ∀ b, S b → w0.heap.size ≤ b
  lt : ∀ b, T b → w0.heap.size ≤ b
/-- A block of the law's own. -/
structure Ow (w0 w : World) (S T : Nat → Prop) (g : Nat) (cs : Array Value) (t : TypeId) : Prop where
  hh : w.heap[g]? = some (.cells cs t (0, 0))
  ns : ¬ S g
  nt : ¬ T g
  low : w0.heap.size ≤ g
section
variable {w0 w w' : World} {p q m m' g : Nat} {S T S' T' : Nat → Prop} {A B A' B' : Cs} {cs : Array Value} {t : TypeId}
theorem Tw.c1 (h : Tw w0 w p q S T A B m) (hc : Ca w' p S' A' m') (hk : Kp S w S' w') : Tw w0 w' p q S' T A' B m' := by
  refine ⟨hc, h.ya.keep hk.2.size (fun b hb => hk.2.block b (h.ya.lt b hb) (fun e => h.dis b e hb)), fun b hb hT => ?_, (hk.below0 h.bel h.ls).1, (hk.below0 h.bel h.ls).2, h.lt⟩
  rcases hk.1 b hb with e | e
  · exact h.dis b e hT
  · have := h.ya.lt b hT; omega
theorem Tw.y1 (h : Tw w0 w p q S T A B m) (hc : Ya w' q T' B') (hk : Kp T w T' w') : Tw w0 w' p q S T' A B' m := by
  refine ⟨h.ca.keep hk.2.size (fun b hb => hk.2.block b (h.ca.lt b hb) (fun e => h.dis b hb e)), hc, fun b hb hT => ?_, (hk.below0 h.bel h.lt).1, h.ls, (hk.below0 h.bel h.lt).2⟩
  rcases hk.1 b hT with e | e
  · exact h.dis b hb e
  · have := h.ca.lt b hb; omega
theorem Tw.below (h : Tw w0 w p q S T A B m) (hb : Below w.heap.size w w') : Tw w0 w' p q S T A B m := h.c1 (h.ca.below hb) (Kp.below hb)
theorem Tw.out (h : Tw w0 w p q S T A B m) {P : Nat → Prop} (hm : Mods P w w') (h1 : ∀ b, P b → ¬ S b ∧ ¬ T b ∧ w0.heap.size ≤ b) : Tw w0 w' p q S T A B m :=
  ⟨h.ca.outside hm (fun b e => (h1 b e).1), h.ya.outside hm (fun b e => (h1 b e).2.1), h.dis, hm.to_below h.bel h.bel.size (fun b e => (h1 b e).2.2), h.ls, h.lt⟩
theorem Tw.more (h : Tw w0 w p q S T A B m) (hm : m ≤ m') : Tw w0 w p q S T A B m' := ⟨h.ca.more hm, h.ya, h.dis, h.bel, h.ls, h.lt⟩
theorem Ow.glt (h : Ow w0 w S T g cs t) : g < w.heap.size := (Array.getElem?_eq_some_iff.1 h.hh).1
theorem Ow.c1 (h : Ow w0 w S T g cs t) (hk : Kp S w S' w') : Ow w0 w' S' T g cs t := ⟨(hk.block h.glt h.ns).trans h.hh, hk.off h.glt h.ns, h.nt, h.low⟩
theorem Ow.y1 (h : Ow w0 w S T g cs t) (hk : Kp T w T' w') : Ow w0 w' S T' g cs t := ⟨(hk.block h.glt h.nt).trans h.hh, h.ns, hk.off h.glt h.nt, h.low⟩
theorem Ow.below (h : Ow w0 w S T g cs t) (hb : Below w.heap.size w w') : Ow w0 w' S T g cs t := h.c1 (Kp.below hb)
theorem Tw.fresh (h : Tw w0 w p q S T A B m) (hg : w.heap.size ≤ g) (hh : w'.heap[g]? = some (.cells cs t (0, 0))) : Ow w0 w' S T g cs t :=
  ⟨hh, fun e => by have := h.ca.lt g e; omega, fun e => by have := h.ya.lt g e; omega, Nat.le_trans h.bel.size hg⟩
theorem Ow.datS {d : List Int} {n : Nat} (hn : d.length = n) (h : Ow w0 w S T g (u8s d).toArray 5) : Dat w S (.slice (some ⟨g, 0, none⟩) n n) d ∧ Dat w T (.slice (some ⟨g, 0, none⟩) n n) d := by
  have hB : Byt w ⟨g, 0, none⟩ d := fun j v hj => by
    rw [add_addr, Nat.zero_add]
    exact cell_of h.hh (by rw [List.getElem?_toArray]; exact hj)
  exact ⟨⟨some ⟨g, 0, none⟩, n, by rw [hn], fun _ => ⟨g, 0, rfl, hB, h.ns, h.glt⟩⟩, ⟨some ⟨g, 0, none⟩, n, by rw [hn], fun _ => ⟨g, 0, rfl, hB, h.nt, h.glt⟩⟩⟩
end
/-- Numbers in bounds. -/
def Iv (A : Cs) (m : Nat) : Prop := ∀ e ∈ A.row, 0 ≤ e.pins ∧ e.pins ≤ m ∧ 0 ≤ e.num ∧ e.num < 9223372036854775808
section
variable {A : Cs} {m : Nat}
theorem Iv.sub (h : Iv A m) {A' : Cs} (hs : ∀ e ∈ A'.row, e ∈ A.row) : Iv A' (m + 1) := fun e he => by have := h e (hs e he); omega
theorem Iv.more (h : Iv A m) : Iv A (m + 1) := h.sub (fun _ h => h)
theorem Iv.use (h : Iv A m) {k : Int} (hk : k ∈ nums A.row) : Iv (A.use k) (m + 1) := h.sub (fun e he => by
  unfold Cs.use at he
  rcases List.mem_append.1 he with h4 | h4
  · exact (mem_wo.1 h4).1
  · rw [List.mem_singleton.1 h4]; exact (atL_mem hk).1)
theorem Iv.add {A1 : Cs} (h : Iv A m) (hs : ∀ e ∈ A1.row, e ∈ A.row) {k : Int} (hk : 0 ≤ k ∧ k < 9223372036854775808) (d : List Int) (b : Bool) : Iv (A1.add ⟨k, d, b, 0⟩) (m + 1) := fun e he => by
  unfold Cs.add at he
  rcases List.mem_append.1 he with h4 | h4
  · have := h e (hs e h4); omega
  · rw [List.mem_singleton.1 h4]
    refine ⟨by simp, by simp; omega, hk.1, hk.2⟩
theorem room_getD_sub (A : Cs) : ∀ e ∈ (A.room.getD A).row, e ∈ A.row := by
  cases h : A.room with
  | none => exact fun e he => he
  | some A1 => exact (room_sub h).1
theorem bad_zero {k : Int} {n : Nat} (h : badR k n = 0) : 0 ≤ k := by
  unfold badR at h
  split at h
  · omega
  · omega
theorem Iv.fill (h : Iv A m) {k : Int} (hk : IsI k) (d : List Int) : Iv (fillS A k d) (m + 1) := by
  unfold fillS
  split
  · rename_i h0
    have hb : badR k d.length = 0 := by
      unfold fillR at h0
      split at h0
      · assumption
      · exact h0
    have := bounds_i64 hk
    exact h.add (room_getD_sub A) ⟨bad_zero hb, by omega⟩ d false
  · exact h.more
theorem Iv.put (h : Iv A m) {k : Int} (hk : IsI k) (d : List Int) : Iv (putS A k d) (m + 1) := by
  unfold putS
  split
  · rename_i h0
    have hb : badR k d.length = 0 := by
      unfold putR at h0
      split at h0
      · assumption
      · exact h0
    have := bounds_i64 hk
    split
    · rename_i hm
      intro e he
      rcases List.mem_append.1 he with h4 | h4
      · have := h e (mem_wo.1 h4).1; omega
      · rw [List.mem_singleton.1 h4]
        have := h _ (atL_mem hm).1
        unfold Cs.at
        dsimp only
        omega
    · exact h.add (room_getD_sub A) ⟨bad_zero hb, by omega⟩ d true
  · exact h.more
theorem Iv.chg (h : Iv A m) {k : Int} (f : Ec → Ec) (hf : ∀ e ∈ A.row, (f e).num = e.num ∧ (e.num = k → 0 ≤ (f e).pins ∧ (f e).pins ≤ m + 1)) : Iv (A.chg k f) (m + 1) := fun e he => by
  unfold Cs.chg at he
  obtain ⟨x, hx, rfl⟩ := List.mem_map.1 he
  have h1 := h x hx
  have h2 := hf x hx
  split
  · rename_i e1
    have := h2.2 e1
    rw [h2.1]
    push_cast
    omega
  · push_cast
    omega
theorem Iv.pin (h : Iv A m) (k : Int) : Iv (pinS A k) (m + 1) := by
  unfold pinS
  split
  · exact h.chg pinF (fun e he => ⟨rfl, fun _ => by have := h e he; simp only [pinF]; omega⟩)
  · exact h.more
theorem Iv.cle (h : Iv A m) (k : Int) : Iv (cleS A k) (m + 1) := by
  unfold cleS
  split
  · exact h.chg cleF (fun e he => ⟨rfl, fun _ => by have := h e he; simp only [cleF]; omega⟩)
  · exact h.more
theorem Iv.unp (h : Iv A m) (hn : (nums A.row).Nodup) (k : Int) : Iv (unpS A k) (m + 1) := by
  unfold unpS
  split
  · rename_i h0
    refine h.chg unpF (fun e he => ⟨rfl, fun e1 => ?_⟩)
    have h1 := h e he
    have hm : k ∈ nums A.row := List.mem_map.2 ⟨e, he, e1⟩
    unfold unpR at h0
    rw [if_pos hm] at h0
    have hat : A.at k = e := by rw [← e1]; exact atL_of hn he
    rw [hat] at h0
    split at h0
    · omega
    · simp only [unpF]; omega
  · exact h.more
theorem Iv.dro (h : Iv A m) (k : Int) : Iv (droS A k) (m + 1) := by
  unfold droS
  split
  · exact h.sub (fun e he => (mem_wo.1 he).1)
  · exact h.more
theorem Iv.pb (h : Iv A m) (hm : m ≤ 1000000) : ∀ e ∈ A.row, -1000000000 ≤ e.pins ∧ e.pins ≤ 1000000000 := fun e he => by have := h e he; omega
end
theorem conv5 {w : World} {v : Value} {l : List Int} {n : Nat} (hn : l.length = n) (h : w.ownsRow 0 5 1 v n (u8s l)) : (convert 40 9 v).run Try.prog w = .ok (.string (strOfNums l)) w := by
  subst hn
  rcases h.2 with ⟨rfl, h0⟩ | ⟨g, cap, cur, rfl, _, hh, hc1, _, hcs, ht⟩
  · obtain rfl : l = [] := List.eq_nil_of_length_eq_zero h0
    exact run_convert_bytes_nil w 40 5 Try.underlying40 Try.underlying5 0 0 9 Try.underlying9
  · refine run_convert_bytes_arg w 40 5 Try.underlying40 Try.underlying5 g 0 l.length cap l rfl (fun i hi => ?_) 9 Try.underlying9
    have : cur[i]? = some (.int .u8 (l.getD i 0)) := by
      have e : (cur.toList.take (l.length * 1))[i]? = (l.map fun x => Value.int .u8 x)[i]? := by rw [ht]
      rw [List.getElem?_take] at e
      simp [hi] at e
      simp [e, List.getD, hi]
    rw [Nat.zero_add]
    simp [World.cell?, hh, this]
end Go.Proofs.Ytdfnfcimajomeaa
