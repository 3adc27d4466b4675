/- YgD, YgE, YhA in one text. -/
import Derived.Test.YtbfdkbdjipiliaaDoorYgC
import Derived.Test.YtbfdkbdjipiliaaDoorXbC
/- Answers written. -/
namespace Go.Proofs.YtbfdkbdjipiliaaDoor
open Go.RowKit Go.Maps
set_option linter.unusedVariables false

/-- A call has answered k bytes l, a row of one's own. -/
def OwnA (w : World) (l : List Int) (k : Nat) (e : Ending) (w' : World) : Prop := ∃ g c, e = .returned (.slice (some ⟨g, 0, none⟩) k c) ∧ w'.ownsRow w.heap.size 5 1 (.slice (some ⟨g, 0, none⟩) k c) k (u8s l) ∧ k ≤ c ∧ w.heap.size ≤ g ∧ Below w.heap.size w w'
theorem OwnA.by_ {w w' : World} {l : List Int} {k : Nat} {e : Ending} (h : OwnA w l k e w') (hl : ∀ x ∈ l, IsB x) : ∃ a c, e = .returned (.slice a k c) ∧ By w' (New w) a l ∧ k ≤ c ∧ Below w.heap.size w w' := by
  obtain ⟨g, c, rfl, ho, hc, hg, hb⟩ := h
  obtain ⟨a, c', e1, h1, _, h3⟩ := By.of_owns (S := New w) ho hl (fun b hb2 => by simp [Value.ownBlock] at hb2; subst hb2; exact hg)
  simp only [Value.slice.injEq, true_and] at e1
  obtain ⟨rfl, rfl⟩ := e1
  exact ⟨_, _, rfl, h3, h1, hb⟩
theorem owns_basX {w' : World} {B B' : Nat} {v : Value} {n : Nat} {X : List Value} (h : w'.ownsRow B 5 1 v n X) (hb : ∀ g, v.ownBlock = some g → B' ≤ g) : w'.ownsRow B' 5 1 v n X := by
  refine ⟨h.1, ?_⟩
  rcases h.2 with h0 | ⟨g, cap, cur, rfl, hg, r⟩
  · exact .inl h0
  · exact .inr ⟨g, cap, cur, rfl, hb g rfl, r⟩
set_option maxRecDepth 100000 in
set_option maxHeartbeats 2000000 in
theorem taken_any (w : World) (x : Int) (hx : IsU x) (gh : Nat) (hw : List Int) (m : Nat) (hm : hw.length = m) (hm9 : m ≤ 9) (hh : U32s w (some ⟨gh, 0, none⟩) hw) (k : Nat) (hk : k = 20 + 4 * m) :
    Calls Tryd.prog 57 #[.int .u32 x, .slice (some ⟨gh, 0, none⟩) m m] w fun e w' => OwnA w (nuL 4 ([x, 1, 0, 0, 0] ++ hw)) k e w' := by
  have HNW := hid (NewWriter_any w)
  have HIX := hid (show ∀ y ∈ [x, 1, 0], IsU y from fun y hy => by
    simp only [List.mem_cons, List.mem_nil_iff, or_false] at hy
    rcases hy with rfl | rfl | rfl
    · exact hx
    · unfold IsU; omega
    · unfold IsU; omega)
  have HHH := hid hh
  have HM := hid hm
  have HKK := hid hk
  have HE : Hid (nuL 4 [x, 1, 0] ++ bytesBe 4 0 ++ fuL [] ++ nuL 4 hw = nuL 4 ([x, 1, 0, 0, 0] ++ hw)) := hid (by
    have e : fuL ([] : List Int) = bytesBe 4 0 := by decide
    rw [e]
    simp)
  clear hx hh hm hk
  go_enter Tryd.func57, Tryd.ntmps57
  go_wp2_with (first
    | (go_at_call 19
       refine HNW.out.mono ?_
       rintro e w2 ⟨rfl, hx2, hb2⟩
       obtain ⟨p, hp⟩ : ∃ p, w.heap.size = p := ⟨_, rfl⟩
       rw [hp] at hx2 ⊢
       have hK2 : Kp (fun _ => False) w (fun b => b = p) w2 := ⟨fun b hb => .inr (by rw [hb, hp]; exact Nat.le_refl _), Mods.of_below hb2⟩
       have HU1 := hid (WU32_new hx2 [x, 1, 0] HIX.out 3 rfl (by omega) (by simp))
       simp only [List.map_cons, List.map_nil, List.nil_append] at HU1
       have HK2 := hid hK2
       clear hx2 hb2 hK2 hp HNW)
    | (go_at_call 20
       refine HU1.out.mono ?_
       rintro e w3 ⟨rfl, S3, hx3, hk3⟩
       have HP2 := hid (writeProof_any hx3 0 (by unfold IsU; omega) none 0 0 [] rfl (fun W S2 _ => Bytes.nil_ W none) (by omega) (by simp [len_be]))
       have HK3 := hid (HK2.out.trans hk3)
       clear hx3 hk3 HK2 HU1)
    | (go_at_call 27
       refine HP2.out.mono ?_
       rintro e w5 ⟨rfl, S5, hx5, hk5⟩
       have hk5' := HK3.out.trans hk5
       have hnS : ∀ W Z, Kp S5 w5 Z W → U32s W (some ⟨gh, 0, none⟩) hw := fun W Z hk => HHH.out.kp (hk5'.trans hk) (fun b o _ e => e)
       have HU3 := hid (WU32_any hx5 m m (some ⟨gh, 0, none⟩) hw HM.out (by omega) hnS (by simp [len_be, fuL_len, pad4]; omega))
       have HK5 := hid hk5'
       clear hx5 hk5 hk5' hnS HK3 HP2)
    | (go_at_call 20
       refine HU3.out.mono ?_
       rintro e w6 ⟨rfl, S6, hx6, hk6⟩
       rw [HE.out] at hx6
       have HD := hid (Done_own hx6 k (by rw [nuL_len, List.length_append, HM.out, HKK.out]; simp; omega) (by have := HKK.out; omega) (by have := HKK.out; omega))
       have HK6 := hid (HK5.out.trans hk6)
       clear hx6 hk6 HK5 HU3)
    | (go_at_call 21
       refine HD.out.mono ?_
       rintro e w7 ⟨g7, c7, rfl, ho7, hc7, hg7, hl7, hb7⟩
       have HO7 := hid ho7
       have HB7 := hid hb7
       have HG7 := hid hg7
       clear ho7 hb7 HD hg7 hl7))
  go_ret
  have hW6 := HK6.out.2.to_below (Below.refl w.heap.size w) (Nat.le_refl _) (fun b hb => hb.elim)
  have hgg := Nat.le_trans hW6.size HG7.out
  exact ⟨g7, c7, rfl, owns_basX HO7.out (fun g e => by simp [Value.ownBlock] at e; subst e; exact hgg), hc7, hgg, hW6.trans (HB7.out.mono hW6.size)⟩
set_option maxRecDepth 100000 in
set_option maxHeartbeats 2000000 in
theorem refused_any (w : World) (x : Int) (hx : IsU x) (gh : Nat) (hw : List Int) (m : Nat) (hm : hw.length = m) (hm9 : m ≤ 9) (hh : U32s w (some ⟨gh, 0, none⟩) hw) (k : Nat) (hk : k = 12 + 4 * m) :
    Calls Tryd.prog 41 #[.int .u32 x, .slice (some ⟨gh, 0, none⟩) m m] w fun e w' => OwnA w (nuL 4 ([x, 1, 1] ++ hw)) k e w' := by
  have HNW := hid (NewWriter_any w)
  have HIX := hid (show ∀ y ∈ [x, 1, 1], IsU y from fun y hy => by
    simp only [List.mem_cons, List.mem_nil_iff, or_false] at hy
    rcases hy with rfl | rfl | rfl
    · exact hx
    · unfold IsU; omega
    · unfold IsU; omega)
  have HHH := hid hh
  have HM := hid hm
  have HKK := hid hk
  have HE : Hid (nuL 4 [x, 1, 1] ++ nuL 4 hw = nuL 4 ([x, 1, 1] ++ hw)) := hid (by simp)
  clear hx hh hm hk
  go_enter Tryd.func41, Tryd.ntmps41
  go_wp2_with (first
    | (go_at_call 19
       refine HNW.out.mono ?_
       rintro e w2 ⟨rfl, hx2, hb2⟩
       obtain ⟨p, hp⟩ : ∃ p, w.heap.size = p := ⟨_, rfl⟩
       rw [hp] at hx2 ⊢
       have hK2 : Kp (fun _ => False) w (fun b => b = p) w2 := ⟨fun b hb => .inr (by rw [hb, hp]; exact Nat.le_refl _), Mods.of_below hb2⟩
       have HU1 := hid (WU32_new hx2 [x, 1, 1] HIX.out 3 rfl (by omega) (by simp))
       simp only [List.map_cons, List.map_nil, List.nil_append] at HU1
       have HK2 := hid hK2
       clear hx2 hb2 hK2 hp HNW)
    | (go_at_call 20
       refine HU1.out.mono ?_
       rintro e w5 ⟨rfl, S5, hx5, hk5⟩
       have hk5' := HK2.out.trans hk5
       have hnS : ∀ W Z, Kp S5 w5 Z W → U32s W (some ⟨gh, 0, none⟩) hw := fun W Z hk => HHH.out.kp (hk5'.trans hk) (fun b o _ e => e)
       have HU3 := hid (WU32_any hx5 m m (some ⟨gh, 0, none⟩) hw HM.out (by omega) hnS (by simp [len_be]; omega))
       have HK5 := hid hk5'
       clear hx5 hk5 hk5' hnS HK2 HU1)
    | (go_at_call 20
       refine HU3.out.mono ?_
       rintro e w6 ⟨rfl, S6, hx6, hk6⟩
       rw [HE.out] at hx6
       have HD := hid (Done_own hx6 k (by rw [nuL_len, List.length_append, HM.out, HKK.out]; simp; omega) (by have := HKK.out; omega) (by have := HKK.out; omega))
       have HK6 := hid (HK5.out.trans hk6)
       clear hx6 hk6 HK5 HU3)
    | (go_at_call 21
       refine HD.out.mono ?_
       rintro e w7 ⟨g7, c7, rfl, ho7, hc7, hg7, hl7, hb7⟩
       have HO7 := hid ho7
       have HB7 := hid hb7
       have HG7 := hid hg7
       clear ho7 hb7 HD hg7 hl7))
  go_ret
  have hW6 := HK6.out.2.to_below (Below.refl w.heap.size w) (Nat.le_refl _) (fun b hb => hb.elim)
  have hgg := Nat.le_trans hW6.size HG7.out
  exact ⟨g7, c7, rfl, owns_basX HO7.out (fun g e => by simp [Value.ownBlock] at e; subst e; exact hgg), hc7, hgg, hW6.trans (HB7.out.mono hW6.size)⟩
/-- Numbers in a new row. -/
theorem u32s_lit (w : World) (vs : List Int) (hv : ∀ x ∈ vs, IsU x) : U32s (w.alloc (.cells (vs.map fun x => Value.int .u32 x).toArray 41)) (some ⟨w.heap.size, 0, none⟩) vs := u32s_new hv (alloc_new w _)
theorem OwnA.since {w W w' : World} {l : List Int} {k : Nat} {e : Ending} (h : OwnA W l k e w') (hb : Below w.heap.size w W) : OwnA w l k e w' := by
  obtain ⟨g, c, e1, ho, hc, hg, hb2⟩ := h
  have hgg := Nat.le_trans hb.size hg
  subst e1
  exact ⟨g, c, rfl, owns_basX ho (fun g e => by simp [Value.ownBlock] at e; subst e; exact hgg), hc, hgg, hb.trans (hb2.mono hb.size)⟩
set_option maxRecDepth 100000 in
theorem taken_new (w : World) (x : Int) (hx : IsU x) (vs : List Int) (hv : ∀ x ∈ vs, IsU x) (m : Nat) (hm : vs.length = m) (hm9 : m ≤ 9) (k : Nat) (hk : k = 20 + 4 * m) :
    Calls Tryd.prog 57 #[.int .u32 x, .slice (some ⟨w.heap.size, 0, none⟩) m m] (w.alloc (.cells (vs.map fun x => Value.int .u32 x).toArray 41)) fun e w' => OwnA w (nuL 4 ([x, 1, 0, 0, 0] ++ vs)) k e w' :=
  (taken_any _ x hx w.heap.size vs m hm hm9 (u32s_lit w vs hv) k hk).mono (fun e w' h => h.since (below_alloc (Below.refl _ _) (Nat.le_refl _) _))
set_option maxRecDepth 100000 in
theorem refused_new (w : World) (x : Int) (hx : IsU x) (vs : List Int) (hv : ∀ x ∈ vs, IsU x) (m : Nat) (hm : vs.length = m) (hm9 : m ≤ 9) (k : Nat) (hk : k = 12 + 4 * m) :
    Calls Tryd.prog 41 #[.int .u32 x, .slice (some ⟨w.heap.size, 0, none⟩) m m] (w.alloc (.cells (vs.map fun x => Value.int .u32 x).toArray 41)) fun e w' => OwnA w (nuL 4 ([x, 1, 1] ++ vs)) k e w' :=
  (refused_any _ x hx w.heap.size vs m hm hm9 (u32s_lit w vs hv) k hk).mono (fun e w' h => h.since (below_alloc (Below.refl _ _) (Nat.le_refl _) _))
theorem isU_three {a b c : Int} (ha : IsU a) (hb : IsU b) (hc : IsU c) : ∀ x ∈ [a, b, c], IsU x := fun x hx => by
  simp only [List.mem_cons, List.mem_nil_iff, or_false] at hx
  rcases hx with rfl | rfl | rfl
  · exact ha
  · exact hb
  · exact hc
theorem isU_one {a : Int} (ha : IsU a) : ∀ x ∈ [a], IsU x := fun x hx => by
  simp only [List.mem_cons, List.mem_nil_iff, or_false] at hx
  subst hx
  exact ha
def faultL (x how : Int) : List Int := if how = 2 then nuL 4 [x, 1, 0, 0, 0, 2, 3, 3] else nuL 4 [x, 1, 0, 0, 0, how]
set_option maxRecDepth 100000 in
set_option maxHeartbeats 1000000 in
theorem fault_any (w : World) (x how : Int) (hx : IsU x) (hh : IsU how) :
    Calls Tryd.prog 45 #[.int .u32 x, .int .u32 how] w fun e w' => ∃ k, k = (faultL x how).length ∧ k ≤ 32 ∧ OwnA w (faultL x how) k e w' := by
  have u3 : IsU 3 := by unfold IsU; omega
  by_cases h2 : how = 2
  · subst h2
    have HC := hid (taken_new w x hx [2, 3, 3] (isU_three hh u3 u3) 3 rfl (by omega) 32 rfl)
    simp only [List.map_cons, List.map_nil, List.cons_append, List.nil_append] at HC
    have e2 : faultL x 2 = nuL 4 [x, 1, 0, 0, 0, 2, 3, 3] := by unfold faultL; rw [if_pos rfl]
    rw [e2]
    have HE := hid e2
    clear hx hh u3 e2
    go_enter Tryd.func45, Tryd.ntmps45
    go_wp2_with (go_at_call 57; refine HC.out.mono ?_; rintro e w2 ⟨g, c, rfl, ho, hc, hg, hb⟩; have HO := hid (And.intro ho (And.intro hg hb)); clear ho hg hb)
    go_ret
    exact ⟨32, by rw [nuL_len]; rfl, Nat.le_refl _, g, c, rfl, HO.out.1, hc, HO.out.2.1, HO.out.2.2⟩
  · have HC := hid (taken_new w x hx [how] (isU_one hh) 1 rfl (by omega) 24 rfl)
    simp only [List.map_cons, List.map_nil, List.cons_append, List.nil_append] at HC
    have e2 : faultL x how = nuL 4 [x, 1, 0, 0, 0, how] := by unfold faultL; rw [if_neg h2]
    rw [e2]
    have hne : (how == 2) = false := by simpa using h2
    clear hx hh u3 e2 h2
    go_enter Tryd.func45, Tryd.ntmps45
    go_wp2_with (go_at_call 57; refine HC.out.mono ?_; rintro e w2 ⟨g, c, rfl, ho, hc, hg, hb⟩; have HO := hid (And.intro ho (And.intro hg hb)); clear ho hg hb)
    go_ret
    exact ⟨24, by rw [nuL_len]; rfl, by omega, g, c, rfl, HO.out.1, hc, HO.out.2.1, HO.out.2.2⟩
end Go.Proofs.YtbfdkbdjipiliaaDoor

/- Answers of success, of arguments that cannot be read. -/
namespace Go.Proofs.YtbfdkbdjipiliaaDoor
open Go.RowKit Go.Maps
set_option linter.unusedVariables false

end Go.Proofs.YtbfdkbdjipiliaaDoor

/- Reading calls: proofs, and who calls. -/
namespace Go.Proofs.YtbfdkbdjipiliaaDoor
open Go.RowKit Go.Maps
set_option linter.unusedVariables false

/-- A reader in block p; all from there on may turn. -/
abbrev RY (w : World) (T : TypeId) (p : Nat) (r : Rd) : Prop := RX w T (fun b => p ≤ b) p r
theorem RY.side {w w' : World} {T : TypeId} {p : Nat} {r : Rd} {X' : Nat → Prop} (h : RY w T p r) (hm : Mods X' w w') (hs : ∀ b, X' b → p < b) : RY w' T p r :=
  RX.beside h hm (fun b hb => Nat.le_of_lt (hs b hb)) (fun e => Nat.lt_irrefl _ (hs p e))
def E0 (e : Int) : Prop := e = 0 ∨ e = 1 ∨ e = 5 ∨ e = 11 ∨ e = 15
theorem ansR_e {α : Type} {r : Rd} {R : Rs α} (h : E0 r.e) (hR : E0 R.e) : E0 (ansR r R).e := by
  unfold ansR
  by_cases h0 : r.e = 0
  · rw [if_pos h0]
    by_cases h1 : R.e = 0
    · rw [if_pos h1]; exact .inl rfl
    · rw [if_neg h1]; exact hR
  · rw [if_neg h0]; exact h
theorem rd32_e {r : Rd} (h : E0 r.e) : E0 (rd32 r).2.e := ansR_e h (by have := u32P_e r.l r.k; unfold E0; omega)
theorem rdBy_e {r : Rd} {m : Int} (h : E0 r.e) : E0 (rdBy m r).2.e := ansR_e h (cntP_e _ _ _)
theorem rd32_l (r : Rd) : (rd32 r).2.l = r.l := by
  unfold rd32 ansR
  simp only
  split
  · split <;> rfl
  · rfl
theorem rdBy_l (m : Int) (r : Rd) : (rdBy m r).2.l = r.l := by
  unfold rdBy ansR
  simp only
  split
  · split <;> rfl
  · rfl
theorem rd32_u {r : Rd} (h : ∀ x ∈ r.l, IsB x) : IsU (rd32 r).1 := by
  have := ansV_bd r 4 h
  rw [nP4] at this
  unfold rd32 IsU
  simp only
  omega
section
variable {w : World} {p : Nat} {r : Rd}
theorem RU32_y (h : RY w 103 p r) : Calls Tryd.prog 37 #[.pointer (some ⟨p, 0, none⟩)] w fun e w' => e = .returned (.int .u32 (rd32 r).1) ∧ RY w' 103 p (rd32 r).2 ∧ Mods (fun b => b = p) w w' := RU32_any h
theorem RBytes_y (h : RY w 103 p r) (n : Int) (hn : II16 n) : Calls Tryd.prog 53 #[.pointer (some ⟨p, 0, none⟩), .int .i64 n] w fun e w' => (∃ a2 c2, e = .returned (.slice a2 (rdBy n r).1.length c2) ∧ By w' (New w) a2 (rdBy n r).1 ∧ (rdBy n r).1.length ≤ c2) ∧ RY w' 103 p (rdBy n r).2 ∧ Mods (fun b => b = p) w w' := RBytes_any h n hn
theorem sizeProof : (Tryd.prog.info? 80).map (·.size) = some 2 := by kernel_rfl
theorem sizeCred : (Tryd.prog.info? 44).map (·.size) = some 3 := by kernel_rfl
/-- Bytes that lie apart from what turns. -/
theorem By.side {w w' : World} {S X : Nat → Prop} {a : Option Addr} {l : List Int} (h : By w S a l) (hm : Mods X w w') (hs : ∀ b, S b → b < w.heap.size → ¬ X b) : By w' S a l := h.keep (fun b hb hl => hm.block b hl (hs b hb hl))
theorem prC_one (K : Int) (a : Option Addr) (m c : Nat) : (#[.int .u32 K, .slice a m c] : Array Value).all (·.oneCell') = true := by simp [Value.oneCell']
theorem crC_one (u g : Int) (a : Option Addr) (m c : Nat) : (#[.int .u32 u, .int .u32 g, .slice a m c] : Array Value).all (·.oneCell') = true := by simp [Value.oneCell']
def prfR (r : Rd) : Int × List Int × Rd := ((rd32 r).1, (rdBy 400 (rd32 r).2).1, (rdBy 400 (rd32 r).2).2)
set_option maxRecDepth 100000 in
set_option maxHeartbeats 1000000 in
theorem readProof_any (h : RY w 103 p r) :
    Calls Tryd.prog 38 #[.pointer (some ⟨p, 0, none⟩)] w fun e w' => (∃ a c, e = .returned (.agg #[.int .u32 (prfR r).1, .slice a (prfR r).2.1.length c]) ∧ By w' (New w) a (prfR r).2.1 ∧ (prfR r).2.1.length ≤ c) ∧ RY w' 103 p (prfR r).2.2 ∧ Mods (fun b => b = p) w w' := by
  have hlt := h.lt
  obtain ⟨g, hg⟩ : ∃ g, w.heap.size = g := ⟨_, rfl⟩
  obtain ⟨W1, hW1⟩ : ∃ W, W = w.alloc (.cells #[.int .u32 0, .slice none 0 0] 80) := ⟨_, rfl⟩
  have b1 : Below w.heap.size w W1 := by rw [hW1]; exact below_alloc (Below.refl _ _) (Nat.le_refl _) _
  have z1 : W1.heap[g]? = some (.cells #[.int .u32 0, .slice none 0 0] 80 (0, 0)) := by rw [hW1, ← hg]; exact alloc_new w _
  have hg1 : g < W1.heap.size := (Array.getElem?_eq_some_iff.1 z1).1
  have HC := hid (RU32_y (RX.later h b1))
  have hgp : g ≠ p := by omega
  unfold prfR
  simp only
  generalize rd32 r = qr at *
  obtain ⟨K, r1⟩ := qr
  simp only at HC ⊢
  have HBY : Hid (∀ W, RY W 103 p r1 → Calls Tryd.prog 53 #[.pointer (some ⟨p, 0, none⟩), .int .i64 400] W fun e w' => (∃ a2 c2, e = .returned (.slice a2 (rdBy 400 r1).1.length c2) ∧ By w' (New W) a2 (rdBy 400 r1).1 ∧ (rdBy 400 r1).1.length ≤ c2) ∧ RY w' 103 p (rdBy 400 r1).2 ∧ Mods (fun b => b = p) W w') := hid (fun W hW => RBytes_y hW 400 (by unfold II16; omega))
  generalize rdBy 400 r1 = qq at *
  obtain ⟨V, r2⟩ := qq
  simp only at HBY ⊢
  obtain ⟨m, hm⟩ : ∃ m, V.length = m := ⟨_, rfl⟩
  rw [hm] at HBY ⊢
  have HB1 := hid b1
  have HZ := hid z1
  have HGP := hid hgp
  have HLT := hid (And.intro hlt (And.intro hg hg1))
  have hW1' := hW1.symm
  clear h b1 z1 hgp hW1 hlt hg1 hm
  go_enter Tryd.func38, Tryd.ntmps38
  go_wp2_with (first
    | (go_at_call 37
       (try rw [hW1'])
       refine HC.out.mono ?_
       rintro e w2 ⟨rfl, hx2, hm2⟩
       have hz2 := (hm2.block g HLT.out.2.2 HGP.out).trans HZ.out
       have HBX := hid (HBY.out w2 hx2)
       have HM2 := hid hm2
       have HZ2 := hid hz2
       have HS2 := hid (Nat.le_trans (Nat.succ_le_of_lt HLT.out.2.2) hm2.size)
       clear hx2 hm2 hz2 HC)
    | (go_at_call 53
       refine HBX.out.mono ?_
       rintro e w3 ⟨⟨a, c, rfl, hy3, hc3⟩, hx3, hm3⟩
       have hz3 := (hm3.block g (Nat.lt_of_lt_of_le (Nat.lt_succ_self _) HS2.out) HGP.out).trans HZ2.out
       have HZ3 := hid hz3
       have HY3 := hid hy3
       have HX3 := hid hx3
       have HM3 := hid (HM2.out.tr hm3)
       clear hy3 hx3 hm3 hz3 HBX)
    | (refine wpList_store_row rfl 80 _ _ rfl g #[.int .u32 K, .slice a m c] rfl rfl 80 _ HZ3.out sizeProof rfl (prC_one _ _ _ _) ?_))
  refine bodyPost_ret (results_c rfl _ _ g #[.int .u32 K, .slice a m c] _ _ rfl (setRow_heap _ g _ _ _ _ HZ3.out) Tryd.underlying80 sizeProof) rfl ?_
  have hq := setRow_mods w3 g #[.int .u32 K, .slice a m c]
  have hgl := HLT.out.2.1
  have hsz2 := HM2.out.size
  have hg1 := HLT.out.2.2
  have hpl := HLT.out.1
  refine ⟨⟨a, c, rfl, ((HY3.out.off HZ3.out (by decide)).side hq (fun b hb _ e => hb.2 e)).weak (fun b hb _ => ?_), hc3⟩, RY.side HX3.out hq (fun b hb => ?_), ?_⟩
  · have h1 : w2.heap.size ≤ b := hb.1
    show w.heap.size ≤ b
    omega
  · have h2 : b = g := hb
    omega
  · exact ((Mods.of_below (al := fun b => b = p) HB1.out).tr HM3.out).trans hq (fun b hb => .inr (by have h2 : b = g := hb; omega))
end
end Go.Proofs.YtbfdkbdjipiliaaDoor
