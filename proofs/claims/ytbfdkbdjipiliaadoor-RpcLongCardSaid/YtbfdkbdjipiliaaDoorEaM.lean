/- VwA, EaM in one text. -/
import Derived.Test.YtbfdkbdjipiliaaDoorWbB
import Derived.ArgAppend
/- The document's numbers as bytes: Low, Noughts. -/
namespace Go.Proofs.YtbfdkbdjipiliaaDoor
open Go.RowKit Go.Maps
set_option linter.unusedVariables false

theorem by_const (w : World) (l : List Int) (fr : Nat × Nat) (hl : ∀ x ∈ l, IsB x) : By (w.alloc (.cells (u8s l).toArray 5 fr)) (New w) (some ⟨w.heap.size, 0, none⟩) l :=
  ⟨hl, fun _ => ⟨w.heap.size, 0, _, fr, rfl, Nat.le_refl _, alloc_new w _, fun i hi => by rw [Nat.zero_add, List.getElem?_toArray, u8s_get hi]⟩⟩
/-- Bytes that may be appended to: a row of one's own, or one that is full. -/
def Gr (w : World) (B : Nat) (v : Value) (l : List Int) : Prop :=
  (∀ x ∈ l, IsB x) ∧ (w.ownsRow B 5 1 v l.length (u8s l) ∨ ∃ b off, v = .slice (some ⟨b, off, none⟩) l.length l.length ∧ By w (fun _ => True) (some ⟨b, off, none⟩) l)
theorem Gr.slice {w : World} {B : Nat} {v : Value} {l : List Int} (h : Gr w B v l) : ∃ a c, v = .slice a l.length c := by
  rcases h.2 with h1 | ⟨b, off, e, _⟩
  · exact owns_slice h1
  · exact ⟨_, _, e⟩
theorem Gr.by_ {w : World} {B : Nat} {v : Value} {l : List Int} (h : Gr w B v l) : ∃ a c, v = .slice a l.length c ∧ l.length ≤ c ∧ By w (fun _ => True) a l := by
  rcases h.2 with h1 | ⟨b, off, e, h2⟩
  · obtain ⟨a, c, e, h3, _, h4⟩ := By.of_owns (S := fun _ => True) h1 h.1 (fun _ _ => trivial)
    exact ⟨a, c, e, h3, h4⟩
  · exact ⟨_, _, e, Nat.le_refl _, h2⟩
theorem Gr.later {w w' : World} {B : Nat} {v : Value} {l : List Int} (h : Gr w B v l) (hb : Below w.heap.size w w') : Gr w' B v l :=
  ⟨h.1, h.2.imp (fun h1 => owns_keep h1 (fun g hg => hb.block g (owns_lt h1 hg).1)) (fun ⟨b, off, e, h2⟩ => ⟨b, off, e, h2.later hb⟩)⟩
theorem u8s_app (l m : List Int) : u8s (l ++ m) = u8s l ++ u8s m := by simp
/-- 'append' of bytes. -/
theorem Gr.push {w : World} {B : Nat} {v : Value} {l : List Int} (h : Gr w B v l) (hB : B ≤ w.heap.size) (m : List Int) (hm : ∀ x ∈ m, IsB x) (hp : 0 < m.length) (ad : Addr) (n c : Nat) (hn : m.length = n) (hc : ∀ j u, (u8s m)[j]? = some u → w.cell? (ad.add j) = some u) (hl : l.length + n ≤ 1000000) (ty : TypeId) :
    ∃ a c' w', (Builtin.append_ #[27, 27] ty #[v, .slice (some ad) n c]).run Tryd.prog w = .ok (.slice a (l.length + n) c') w' ∧ Gr w' B (.slice a (l.length + n) c') (l ++ m) ∧ w'.ownsRow B 5 1 (.slice a (l.length + n) c') (l.length + n) (u8s (l ++ m)) ∧ Below B w w' ∧ Mods (fun b => v.ownBlock = some b) w w' ∧ ((Value.slice a (l.length + n) c').ownBlock = v.ownBlock ∨ ∃ g, w.heap.size ≤ g ∧ (Value.slice a (l.length + n) c').ownBlock = some g) := by
  have hI : ∀ x ∈ l ++ m, IsB x := fun x hx => by rcases List.mem_append.1 hx with h1 | h1; exact h.1 x h1; exact hm x h1
  rcases h.2 with h1 | ⟨b, off, rfl, h2⟩
  · obtain ⟨v', w', hap, ho, hmo, hob⟩ := app_gen w 27 ty 5 _ 1 Tryd.underlying27 info5b rfl (by omega) v (u8s l) l.length (by simp) (owns_zero h1) ad n c (u8s m) (by simp [hn]) hc (u8s_one m) (by omega)
    obtain ⟨a, c', rfl⟩ := owns_slice ho
    have ho' : w'.ownsRow B 5 1 (.slice a (l.length + n) c') (l.length + n) (u8s (l ++ m)) := by
      rw [u8s_app]
      exact owns_base ho (fun g hg => by
        rcases hob with e | e
        · rw [e] at hg; exact (owns_lt h1 hg).2
        · rw [e] at hg; simp at hg; omega)
    refine ⟨a, c', w', hap, ⟨hI, .inl (by rw [List.length_append, hn]; exact ho')⟩, ho', hmo.to_below (Below.refl B w) hB (fun g hg => (owns_lt h1 hg).2), hmo, hob.imp id (fun e => ⟨_, Nat.le_refl _, e⟩)⟩
  · obtain ⟨i0, hi, hz0, hz1, hz2⟩ := info5b
    have hcl : ∀ j u, (u8s l)[j]? = some u → w.cell? ((⟨b, off, none⟩ : Addr).add j) = some u := fun j u hj => by
      have hj2 : j < l.length := by have := (List.getElem?_eq_some_iff.1 hj).1; simpa using this
      obtain ⟨b', off', cur, fr, ea, _, hh, hcur⟩ := h2.2 (by omega)
      simp only [Option.some.injEq, Addr.mk.injEq, and_true] at ea
      obtain ⟨rfl, rfl⟩ := ea
      rw [u8s_get hj2] at hj
      rw [add_addr]
      simp [World.cell?, hh, hcur j hj2]
      simpa using hj
    obtain ⟨v', w', hr, ho, hg⟩ := run_append_arg_grows (P := Tryd.prog) w 27 ty 5 i0 _ 1 1 Tryd.underlying27 hi hz0 hz1 hz2 rfl (by decide) ⟨b, off, none⟩ l.length l.length (u8s l) (by simp) hcl ad n c (u8s m) (by simp [hn]) hc (by omega) (by unfold maxLen; omega) (by omega)
    obtain ⟨a, c', rfl⟩ := owns_slice ho
    have ho' : w'.ownsRow B 5 1 (.slice a (l.length + n) c') (l.length + n) (u8s (l ++ m)) := by
      rw [u8s_app]
      exact owns_base ho (fun g hg => Nat.le_trans hB (owns_lt ho hg).2)
    exact ⟨a, c', w', hr, ⟨hI, .inl (by rw [List.length_append, hn]; exact ho')⟩, ho', ⟨hg.os, hg.tape, hg.output, hg.size, fun x hx => hg.block x (Nat.lt_of_lt_of_le hx hB) (by simp)⟩, ⟨hg.os, hg.tape, hg.output, hg.size, fun x hx _ => hg.block x hx (by simp)⟩, .inr (by
      cases ho3 : (Value.slice a (l.length + n) c').ownBlock with
      | none =>
        rcases ho.2 with ⟨e, h0⟩ | ⟨g, cap, cur, e, _⟩
        · omega
        · rw [e] at ho3; simp [Value.ownBlock] at ho3
      | some g => exact ⟨g, (owns_lt ho ho3).2, rfl⟩)⟩
theorem pow256 (k : Nat) : (2 : Int) ^ (8 * k) = 256 ^ k := by rw [Int.pow_mul]; rfl
theorem bytesLe_take (n : Nat) (x : Int) (j : Nat) (h : j < n) : (bytesLe n x).take (j + 1) = (bytesLe n x).take j ++ [x / 256 ^ j % 256] := by
  rw [take_snoc _ j (by rw [len_le]; exact h), getD_le n x j h]
/-- 'append([]byte{}, d...)'. -/
theorem twinB (W : World) (T : Nat → Prop) (a : Option Addr) (n c : Nat) (d : List Int) (hn : d.length = n) (hp : 0 < n) (hl : n ≤ 900000) (h : By W T a d) (ty : TypeId) :
    ∃ a2 c2 w2, (Builtin.append_ #[27, 27] ty #[.slice (some ⟨W.heap.size, 0, none⟩) 0 0, .slice a n c]).run Tryd.prog (W.alloc (.cells #[] 5)) = .ok (.slice a2 n c2) w2 ∧ By w2 (New W) a2 d ∧ n ≤ c2 ∧ Below W.heap.size W w2 ∧ w2.ownsRow W.heap.size 5 1 (.slice a2 n c2) n (u8s d) := by
  have hb1 : Below W.heap.size W (W.alloc (.cells #[] 5)) := (Below.refl _ _).alloc (Nat.le_refl _) _
  have hg : Gr (W.alloc (.cells #[] 5)) W.heap.size (.slice (some ⟨W.heap.size, 0, none⟩) 0 0) [] := by
    refine ⟨fun x hx => by simp at hx, .inl ⟨by simp, .inr ⟨W.heap.size, 0, #[], rfl, Nat.le_refl _, alloc_new W _, by simp, by simp, by simp, by simp⟩⟩⟩
  obtain ⟨b, off, cur, fr, rfl, _, hh, hcur⟩ := h.2 (by omega)
  obtain ⟨a2, c2, w2, hap, hg2, ho2, hb2, _, _⟩ := hg.push (by simp) d h.isB (by omega) ⟨b, off, none⟩ n c hn (fun j u hj => by
    have hj2 : j < d.length := by have := (List.getElem?_eq_some_iff.1 hj).1; simpa using this
    rw [u8s_get hj2] at hj
    rw [add_addr]
    refine cell_later hb1 ?_
    simp [World.cell?, hh, hcur j hj2]
    simpa using hj) (by simp; omega) ty
  simp only [List.length_nil, Nat.zero_add, List.nil_append] at hap hg2 ho2
  obtain ⟨a3, c3, e3, h3, _, h4⟩ := By.of_owns (S := New W) ho2 h.isB (fun g hg => (owns_lt ho2 hg).2)
  simp only [Value.slice.injEq, true_and] at e3
  obtain ⟨rfl, rfl⟩ := e3
  exact ⟨a2, c2, w2, hap, h4, h3, hb1.trans hb2, ho2⟩
theorem repl_snoc (k : Nat) : List.replicate (k + 1) (0 : Int) = List.replicate k 0 ++ [0] := List.replicate_succ'
theorem Gr.of_const (w : World) (B : Nat) (l : List Int) (n : Nat) (fr : Nat × Nat) (hn : l.length = n) (hl : ∀ x ∈ l, IsB x) : Gr (w.alloc (.cells (u8s l).toArray 5 fr)) B (.slice (some ⟨w.heap.size, 0, none⟩) n n) l := by
  subst hn
  exact ⟨hl, .inr ⟨w.heap.size, 0, rfl, (by_const w l fr hl).weak (fun _ _ _ => trivial)⟩⟩
theorem By.cells {w : World} {S : Nat → Prop} {b off : Nat} {d : List Int} (h : By w S (some ⟨b, off, none⟩) d) : ∀ j u, (u8s d)[j]? = some u → w.cell? ((⟨b, off, none⟩ : Addr).add j) = some u := fun j u hj => by
  have hj2 : j < d.length := by have := (List.getElem?_eq_some_iff.1 hj).1; simpa using this
  obtain ⟨b', off', cur, fr, ea, _, hh, hcur⟩ := h.2 (by omega)
  simp only [Option.some.injEq, Addr.mk.injEq, and_true] at ea
  obtain ⟨rfl, rfl⟩ := ea
  rw [u8s_get hj2] at hj
  rw [add_addr]
  simp [World.cell?, hh, hcur j hj2]
  simpa using hj
end Go.Proofs.YtbfdkbdjipiliaaDoor

/- Maps with keys of 32 bits. -/
namespace Go.Proofs.YtbfdkbdjipiliaaDoor
open Go.RowKit Go.Maps Go.WideAt
set_option linter.unusedVariables false
theorem u32Key : Keyed Tryd.prog 41 := int_keyed Tryd.underlying41
theorem wfU {k : Int} (hk : IsU k) : (Lit.int .u32 k).wf = true := WalkArith.wf_u32 (by unfold IsU at hk; omega)
theorem keyU {k : Int} (hk : IsU k) : keyOf Tryd.prog 41 (.int .u32 k) = some (.int .u32 k) := keyOf_int_mk Tryd.underlying41 (wfU hk)
/-- Block b is a map that holds M. -/
def MapU (w : World) (b n : Nat) (M : Int → Option Value) : Prop :=
  ∃ D : DataW Value, w.ownsMap Tryd.prog 41 raw b n D ∧ ∀ k, IsU k → ∀ z, D.atKey (.int .u32 k) z = ((M k).map DataW.held).getD z
theorem MapU.made (w : World) : MapU (w.alloc (.map #[] 0)) w.heap.size 0 (fun _ => none) :=
  ⟨.map [], World.ownsMap_made w Tryd.prog 41 raw, fun k _ z => by simp [DataW.atKey]⟩
theorem MapU.mono {w : World} {b n n' : Nat} {M : Int → Option Value} (h : MapU w b n M) (hn : n ≤ n') : MapU w b n' M :=
  let ⟨D, h1, h2⟩ := h; ⟨D, h1.mono hn, h2⟩
theorem MapU.lt {w : World} {b n : Nat} {M : Int → Option Value} (h : MapU w b n M) : b < w.heap.size := let ⟨_, h1, _⟩ := h; h1.lt
theorem MapU.keep {w w' : World} {b n : Nat} {M : Int → Option Value} (h : MapU w b n M) (hb : w'.heap[b]? = w.heap[b]?) : MapU w' b n M := by
  obtain ⟨D, ⟨es, c, hh, r⟩, h2⟩ := h
  exact ⟨D, ⟨es, c, hb.trans hh, r⟩, h2⟩
theorem MapU.look {w : World} {b n : Nat} {M : Int → Option Value} (h : MapU w b n M) {t e : TypeId} (ht : Tryd.prog.underlying t = some (.map 41 e)) {z : Value} (hz : (zeroValue e).run Tryd.prog w = .ok z w)
    {k : Int} (hk : IsU k) : (Instr.lookup t (.map (some b)) (.int .u32 k) false).run Tryd.prog w = .ok ((M k).getD z) w := by
  obtain ⟨D, h1, h2⟩ := h
  obtain ⟨v, ps, hrun, hR⟩ := h1.lookup u32Key ht hz (R := raw) (zd := .held z) (zp := []) rfl (keyU hk)
  rw [hrun]
  simp only [raw, Option.some.injEq, Prod.mk.injEq] at hR
  have := hR.1
  rw [h2 k hk] at this
  cases hM : M k with
  | none => rw [hM] at this; simp at this; simp [this]
  | some u => rw [hM] at this; simp at this; simp [this]
theorem MapU.put {w : World} {b n : Nat} {M : Int → Option Value} (h : MapU w b n M) {t e : TypeId} (ht : Tryd.prog.underlying t = some (.map 41 e)) (hn : n < maxLen) {k : Int} (hk : IsU k) (v : Value) :
    ∃ w', (Instr.mapUpdate t (.map (some b)) (.int .u32 k) v).run Tryd.prog w = .ok () w' ∧ MapU w' b (n + 1) (upd M k (some v)) ∧ w.grownBy w' (some b) := by
  obtain ⟨D, h1, h2⟩ := h
  obtain ⟨w', hrun, ho, hg⟩ := h1.update u32Key ht hn (keyU hk) (val := v) (d := .held v) (ps := []) rfl
  refine ⟨w', hrun, ⟨_, ho, fun j hj z => ?_⟩, hg⟩
  by_cases e : j = k
  · subst e
    rw [upd_same, atKey_put_same h1.isMap (by simp [WideAt.IsKeyLit])]
    rfl
  · rw [upd_other _ _ e, atKey_put_other (by simpa using e), h2 j hj]
theorem MapU.del {w : World} {b n : Nat} {M : Int → Option Value} (h : MapU w b n M) {t e : TypeId} (ht : Tryd.prog.underlying t = some (.map 41 e)) {k : Int} (hk : IsU k) (ty : TypeId) :
    ∃ w', (Builtin.delete_ #[t, 41] ty #[.map (some b), .int .u32 k]).run Tryd.prog w = .ok (.tuple #[]) w' ∧ MapU w' b n (upd M k none) ∧ w.grownBy w' (some b) := by
  obtain ⟨D, h1, h2⟩ := h
  obtain ⟨w', hrun, ho, hg⟩ := h1.drop u32Key ht (keyU hk) ty
  refine ⟨w', hrun, ⟨_, ho, fun j hj z => ?_⟩, hg.grown⟩
  by_cases e : j = k
  · subst e
    rw [upd_same, atKey_del_same]
    rfl
  · rw [upd_other _ _ e, atKey_del_other (by simpa using e), h2 j hj]

theorem MapU.look_ok {w : World} {b n : Nat} {M : Int → Option Value} (h : MapU w b n M) {t e : TypeId} (ht : Tryd.prog.underlying t = some (.map 41 e)) {z : Value} (hz : (zeroValue e).run Tryd.prog w = .ok z w)
    {k : Int} (hk : IsU k) : (Instr.lookup t (.map (some b)) (.int .u32 k) true).run Tryd.prog w = .ok (.tuple #[(M k).getD z, .bool (M k).isSome]) w := by
  obtain ⟨D, h1, h2⟩ := h
  obtain ⟨v, ps, hrun, hR⟩ := h1.look_ok u32Key ht hz (R := raw) (zd := .held z) (zp := []) rfl (keyU hk)
  rw [hrun]
  simp only [raw, Option.some.injEq, Prod.mk.injEq] at hR
  have := hR.1
  rw [h2 k hk] at this
  cases hM : M k with
  | none =>
    rw [hM] at this
    rw [has_false_of_atKey (D := D) (k := .int .u32 k) (fun z => by rw [h2 k hk z, hM]; rfl)]
    simp at this
    simp [this]
  | some u =>
    rw [hM] at this
    rw [has_true_of_atKey (D := D) (k := .int .u32 k) (y := .held u) (fun z => by rw [h2 k hk z, hM]; rfl)]
    simp at this
    simp [this]

end Go.Proofs.YtbfdkbdjipiliaaDoor
