/- The document's own disk: Dirty, New. -/
import Derived.Test.YtdbpjdaaggenpaaRefA
namespace Go.Proofs.Ytdbpjdaaggenpaa
open Go.RowKit

theorem info3 : (Try.prog.info? 3).map (fun i => (i.zero, i.size, i.bytes)) = some (some (.int .i64 0), 1, 8) := by kernel_rfl
theorem info3b : ∃ i, Try.prog.info? 3 = some i ∧ i.zero = some (.int .i64 0) ∧ i.size = 1 ∧ i.bytes = 8 := by
  have := info3
  cases h : Try.prog.info? 3 with
  | none => rw [h] at this; cases this
  | some i => rw [h] at this; simp at this; exact ⟨i, rfl, this.1, this.2.1, this.2.2⟩

theorem findAt_some {es : List REnt} {k : Int} {e : REnt} (h : findAt es k = some e) : e ∈ es ∧ e.at_ = k :=
  ⟨List.mem_of_find?_eq_some h, by simpa using List.find?_some h⟩
theorem findAt_none {es : List REnt} {k : Int} (h : findAt es k = none) : ∀ e ∈ es, e.at_ ≠ k := fun e he => by
  have := List.find?_eq_none.1 h e he
  simpa using this
theorem Rows2.shape {w : World} {al : Nat → Prop} {v : Value} {ls : List (List Int)} (h : Rows2 w al v ls) : ∃ a c, v = .slice a ls.length c ∧ ls.length ≤ maxLen := by
  obtain ⟨vs, _, ho, _, _⟩ := h
  rcases ho.2 with ⟨rfl, h0⟩ | ⟨g, cap, cur, rfl, _, _, h1, h2, _⟩
  · rw [h0]; exact ⟨none, 0, rfl, Nat.zero_le _⟩
  · exact ⟨_, cap, rfl, by omega⟩

/-- The dirty blocks below m. -/
def dirtyTo (A : Abs) : Nat → List Int
  | 0 => []
  | m + 1 => if A.V (m : Int) = [] then dirtyTo A m else dirtyTo A m ++ [(m : Int)]
theorem dirtyTo_mem (A : Abs) : ∀ m k, k ∈ dirtyTo A m ↔ (0 ≤ k ∧ k < m ∧ A.V k ≠ [])
  | 0, k => by simp [dirtyTo]; omega
  | m + 1, k => by
    unfold dirtyTo
    split
    · rename_i h
      rw [dirtyTo_mem A m k]
      constructor
      · rintro ⟨h1, h2, h3⟩; exact ⟨h1, by omega, h3⟩
      · rintro ⟨h1, h2, h3⟩
        refine ⟨h1, ?_, h3⟩
        by_cases e : k = m
        · subst e; exact absurd h h3
        · omega
    · rename_i h
      rw [List.mem_append, dirtyTo_mem A m k]
      constructor
      · rintro (⟨h1, h2, h3⟩ | h4)
        · exact ⟨h1, by omega, h3⟩
        · simp at h4; subst h4; exact ⟨by omega, by omega, h⟩
      · rintro ⟨h1, h2, h3⟩
        by_cases e : k = m
        · right; simp [e]
        · left; exact ⟨h1, by omega, h3⟩
theorem dirtyTo_pair (A : Abs) : ∀ m, (dirtyTo A m).Pairwise (· < ·)
  | 0 => List.Pairwise.nil
  | m + 1 => by
    unfold dirtyTo
    split
    · exact dirtyTo_pair A m
    · rw [List.pairwise_append]
      exact ⟨dirtyTo_pair A m, by simp, fun a ha b hb => by simp at hb; have := ((dirtyTo_mem A m a).1 ha).2.1; omega⟩
theorem dirtyTo_len (A : Abs) : ∀ m, (dirtyTo A m).length ≤ m
  | 0 => Nat.le_refl _
  | m + 1 => by
    unfold dirtyTo
    have := dirtyTo_len A m
    split
    · omega
    · simp; omega
theorem dirtyTo_is {A : Abs} {m : Nat} (hm : A.N = (m : Int)) (hv : ∀ k, A.V k ≠ [] → 0 ≤ k ∧ k < A.N) : DirtyL A (dirtyTo A m) :=
  ⟨dirtyTo_pair A m, fun k => by rw [dirtyTo_mem]; exact ⟨fun h => h.2.2, fun h => by have := hv k h; exact ⟨this.1, by omega, h⟩⟩⟩

set_option maxRecDepth 100000 in
set_option maxHeartbeats 1000000 in
theorem RDirty_any (w : World) (px : Nat) (vL : Value) (es : List REnt) (A : Abs) (al : Nat → Prop) (d : RDiskAt w px vL es A al) (hl : es.length ≤ 1099511627776) :
    Calls Try.prog 27 #[.pointer (some ⟨px, 0, none⟩)] w fun e w' => ∃ (v : Value) (L : List Int), e = .returned v ∧ DirtyL A L ∧ w'.ownsRow w.heap.size 3 1 v L.length (L.map encZ) ∧ (v = .slice none 0 0 ↔ L = []) ∧ Below w.heap.size w w' := by
  obtain ⟨m, hm⟩ : ∃ m : Nat, A.N = (m : Int) := ⟨A.N.toNat, by have := d.hN; omega⟩
  have hm2 : m ≤ 65536 := by have := d.hN; omega
  obtain ⟨i0, hi, hz0, hz1, hz2⟩ := info3b
  have hc0 : w.cell? ⟨px, 0, none⟩ = some (.int .i64 m) := by simp [World.cell?, d.box, hm]
  have HD := hid d
  have HM := hid hm
  clear d hm
  go_enter Try.func27, Try.ntmps27
  go_wp2_with fail
  go_loopw [4, 3] (fun i x wr => ∃ k : Nat, k ≤ m ∧ i = .int .i64 k ∧ wr.ownsRow w.heap.size 3 1 x (dirtyTo A k).length ((dirtyTo A k).map encZ) ∧ (x = .slice none 0 0 ↔ dirtyTo A k = []) ∧ Below w.heap.size w wr) (fun i _ _ => m - (RowKit.intOf i).toNat)
  case atStart => exact ⟨0, Nat.zero_le _, rfl, World.ownsRow_nil _ _ _ _, by simp [dirtyTo], Below.refl _ _⟩
  case round =>
    obtain ⟨k, hk, rfl, hox, hnil, hbe⟩ := hrel
    have hc0' := cell_later hbe hc0
    have HO := hid hox
    have HN := hid hnil
    have HB := hid hbe
    have hle := hbe.size
    clear hox hnil hbe
    have hdl := dirtyTo_len A k
    by_cases hlt : k < m
    · have hki : (k : Int) < (m : Int) := by omega
      have dr := HD.out.keep HB.out.size (fun b hb => HB.out.block b (HD.out.lt b hb))
      have hat := hid (At_any wr px vL es A al dr hl (k : Int))
      cases hf : findAt es (k : Int) with
      | none =>
        have hV : A.V (k : Int) = [] := (HD.out.none_ _ (findAt_none hf)).2
        rw [hf] at hat
        have HV := hid hV
        clear hV hf dr
        go_wp2_with fail
        refine hat.out.mono ?_
        rintro e w2 ⟨rfl, hw⟩
        rw [hw]
        clear hw w2
        simp only [ptrOf]
        go_wp2
        go_roundw
        case rel =>
          refine ⟨k + 1, by omega, by go_num, ?_, ?_, HB.out⟩
          · rw [show dirtyTo A (k + 1) = dirtyTo A k by simp [dirtyTo, HV.out]]; exact HO.out
          · rw [show dirtyTo A (k + 1) = dirtyTo A k by simp [dirtyTo, HV.out]]; exact HN.out
        case measure => simp [RowKit.intOf]; omega
      | some e =>
        obtain ⟨hmem, hek⟩ := findAt_some hf
        obtain ⟨hbx, _, _, hr2, _⟩ := dr.ent e hmem
        rw [hek] at hr2
        obtain ⟨av, cv, hvv, hml⟩ := hr2.shape
        rw [hf] at hat
        have hcv : wr.cell? ⟨e.ad, 2, none⟩ = some (.slice av (A.V (k : Int)).length cv) := by simp [World.cell?, hbx, hvv]
        clear hr2 hbx hf dr hvv
        by_cases hV : A.V (k : Int) = []
        · have HV := hid hV
          rw [hV] at hcv
          simp only [List.length_nil] at hcv
          clear hV
          go_wp2_with fail
          refine hat.out.mono ?_
          rintro e' w2 ⟨rfl, hw⟩
          rw [hw]
          clear hw w2
          simp only [ptrOf]
          go_wp2
          go_roundw
          case rel =>
            refine ⟨k + 1, by omega, by go_num, ?_, ?_, HB.out⟩
            · rw [show dirtyTo A (k + 1) = dirtyTo A k by simp [dirtyTo, HV.out]]; exact HO.out
            · rw [show dirtyTo A (k + 1) = dirtyTo A k by simp [dirtyTo, HV.out]]; exact HN.out
          case measure => simp [RowKit.intOf]; omega
        · have HV := hid hV
          have hpos : 0 < (A.V (k : Int)).length := List.length_pos_iff.2 hV
          have hposI : (0 : Int) < ((A.V (k : Int)).length : Int) := by omega
          generalize (A.V (k : Int)).length = len at hcv hpos hposI hml
          clear hV
          have HOA := hid (HO.out.alloc (.cells #[.int .i64 (k : Int)] 3))
          go_wp2_with fail
          refine hat.out.mono ?_
          rintro e' w2 ⟨rfl, hw⟩
          rw [hw]
          clear hw w2
          simp only [ptrOf]
          go_wp2_with (at_builtin; refine wpList_append_own_at _ rfl _ _ 32 rfl w.heap.size 3 i0 (.int .i64 0) 1 8 Try.underlying32 hi hz0 hz1 hz2 rfl (by decide) _ _ _ rfl HOA.out ⟨wr.heap.size, 0, none⟩ 1 1 [.int .i64 (k : Int)] rfl (by simp) (cell_one_new _ _ _) (by simp [Value.oneCell']) (by unfold maxLen; omega) (by omega) (by simp; omega) ?_; intro v' w8 hown' hgrow hnil' hat')
          go_roundw
          case rel =>
            have e1 : dirtyTo A (k + 1) = dirtyTo A k ++ [(k : Int)] := by simp [dirtyTo, HV.out]
            refine ⟨k + 1, by omega, by go_num, ?_, ?_, ?_⟩
            · rw [e1, List.length_append, List.map_append]; exact hown'
            · rw [e1]
              constructor
              · intro h; have := (hnil'.1 h).2; omega
              · intro h; simp at h
            · exact (HB.out.alloc HB.out.size _).grown hgrow (by simp; omega) (fun g h => (owns_lt HO.out h).2)
          case measure => simp [RowKit.intOf]; omega
    · obtain rfl : k = m := by omega
      have hki : ¬ ((k : Int) < (k : Int)) := by omega
      go_wp2
      go_ret
      exact ⟨_, rfl, dirtyTo A k, dirtyTo_is HM.out HD.out.vN, HO.out, HN.out, HB.out⟩
end Go.Proofs.Ytdbpjdaaggenpaa
