/- The document's answers of success, of arguments that cannot be read. -/
import Derived.Test.YtgeecahpfjllgaaGreatDoorYnA
import Derived.Test.YtgeecahpfjllgaaGreatDoorYhA
namespace Go.Proofs.YtgeecahpfjllgaaGreatDoor
open Go.RowKit Go.Maps
set_option linter.unusedVariables false

theorem drow_new (w : World) (vs : List Int) (hv : ∀ x ∈ vs, IsU x) (m : Nat) (hm : vs.length = m) (hmx : m ≤ 100) (c k : Nat) (hk : k = 4 * m) :
    Calls Tryz.prog 18 #[.slice (some ⟨w.heap.size, 0, none⟩) m c] (w.alloc (.cells (vs.map fun x => Value.int .u32 x).toArray 22)) fun e w' => OwnR w (nuL 4 vs) k e w' :=
  (drow_any _ _ m c vs hm hmx (u32s_lit w vs hv) k hk).mono (fun e w' h => h.since (below_alloc (Below.refl _ _) (Nat.le_refl _) _))
theorem own_push {w w2 : World} {a : Option Addr} {k c : Nat} {l : List Int} (hr : RW w2 5 1 (.slice a k c) k (u8s l)) (hl : ∀ x ∈ l, IsB x) (hs : ∀ b, blkV (.slice a k c) = some b → w.heap.size ≤ b) (hb : Below w.heap.size w w2) (m : List Int) (a2 : Option Addr) (n c2 : Nat) (hn : m.length = n) (hm : Bytes w2 a2 m) (hmx : k + n ≤ 900000) (ty : TypeId) :
    ∃ a' c' w', (Builtin.append_ #[26, 26] ty #[.slice a k c, .slice a2 n c2]).run Tryz.prog w2 = .ok (.slice a' (k + n) c') w' ∧ By w' (New w) a' (l ++ m) ∧ (0 < k + n → k + n ≤ c') ∧ Below w.heap.size w w' ∧ Mods (fun b => blkV (.slice a k c) = some b) w2 w' := by
  have hlen : l.length = k := by have := hr.1; rw [u8s_len] at this; omega
  have hr' : RW w2 5 1 (.slice a k c) l.length (u8s l) := by rw [hlen]; exact hr
  obtain ⟨a', c', w', hrun, hc⟩ := (RWc.refl hr').push hlen m a2 n c2 hn hm hmx ty
  have hlm : (l ++ m).length = k + n := by rw [List.length_append, hlen, hn]
  have h1 := hc.1
  rw [hlm] at h1
  obtain ⟨b1, _, b3⟩ := rw_by (S := New w) h1 (app_isB hl hm.isB) (fun b hb2 => by
    rcases hc.2.2 with e | ⟨x, hx, e⟩
    · rw [e] at hb2; exact hs b hb2
    · rw [e] at hb2; simp at hb2; subst hb2; exact Nat.le_trans hb.size hx)
  exact ⟨a', c', w', hrun, b1, b3, hc.2.1.to_below hb hb.size hs, hc.2.1⟩
theorem isU_six {x h : Int} (hx : IsU x) (hh : IsU h) : ∀ y ∈ [x, 1, 0, 0, 0, h], IsU y := fun y hy => by
  simp only [List.mem_cons, List.mem_nil_iff, or_false] at hy
  rcases hy with rfl | rfl | rfl | rfl | rfl | rfl
  · exact hx
  · unfold IsU; omega
  · unfold IsU; omega
  · unfold IsU; omega
  · unfold IsU; omega
  · exact hh
set_option maxRecDepth 100000 in
set_option maxHeartbeats 1000000 in
theorem dGarbage_any (w : World) (x : Int) (hx : IsU x) : Calls Tryz.prog 15 #[.int .u32 x] w fun e w' => ∃ a c, e = .returned (.slice a 24 c) ∧ By w' (New w) a (garL x) ∧ Below w.heap.size w w' := by
  have HC := hid (drow_new w [x, 1, 0, 0, 0, 4] (isU_six hx (by unfold IsU; omega)) 6 rfl (by omega) 6 24 rfl)
  simp only [List.map_cons, List.map_nil] at HC
  clear hx
  go_enter Tryz.func15, Tryz.ntmps15
  go_wp2_with (go_at_call 18; refine HC.out.mono ?_; intro e w2 ho; obtain ⟨a, c, rfl, hy, hc, hb⟩ := ho.by_ (nuL_isB 4 _); have HO := hid (And.intro hy hb); clear ho hy hc hb)
  go_ret
  exact ⟨a, c, rfl, HO.out.1, HO.out.2⟩
set_option maxRecDepth 100000 in
set_option maxHeartbeats 1000000 in
theorem dSuccess_any (w : World) (x : Int) (hx : IsU x) (ab : Option Addr) (nb cb : Nat) (body : List Int) (hn : body.length = nb) (hb : Bytes w ab body) (hnb : nb ≤ 200000) (m : Nat) (hm : 24 + nb = m) :
    Calls Tryz.prog 13 #[.int .u32 x, .slice ab nb cb] w fun e w' => ∃ a c, e = .returned (.slice a m c) ∧ By w' (New w) a (sucL x body) ∧ Below w.heap.size w w' := by
  have HC := hid (drow_new w [x, 1, 0, 0, 0, 0] (isU_six hx (by unfold IsU; omega)) 6 rfl (by omega) 6 24 rfl)
  simp only [List.map_cons, List.map_nil] at HC
  obtain ⟨SL, hSL⟩ : ∃ y, sucL x body = y := ⟨_, rfl⟩
  have hs2 : nuL 4 [x, 1, 0, 0, 0, 0] ++ body = SL := by rw [← hSL]; rfl
  rw [hSL]
  have HS := hid hs2
  have HN := hid hn
  have HB := hid hb
  have HM := hid hm
  clear hx hSL hs2 hn hb hm
  go_enter Tryz.func13, Tryz.ntmps13
  go_wp2_with (first
    | (go_at_call 18
       refine HC.out.mono ?_
       rintro e w2 ⟨a, c, rfl, hr, hs, hb2⟩
       obtain ⟨a8, c8, w8, hap, hy8, hc8, hb8, _⟩ := own_push hr (nuL_isB 4 _) hs hb2 body ab nb cb HN.out (HB.out.later hb2) (by omega) 26
       rw [HS.out] at hy8
       have HAP := hid hap
       have HY8 := hid hy8
       have HB8 := hid hb8
       clear hr hs hb2 hap hy8 hb8 hc8)
    | (at_builtin; refine wpList_append_run rfl _ _ 26 rfl rfl rfl HAP.out ?_))
  have hmm := HM.out
  go_ret
  rw [hmm]
  exact ⟨a8, c8, rfl, HY8.out, HB8.out⟩
end Go.Proofs.YtgeecahpfjllgaaGreatDoor
