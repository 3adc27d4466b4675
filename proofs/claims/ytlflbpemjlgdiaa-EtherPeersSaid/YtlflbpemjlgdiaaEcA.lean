/- Six bytes as an array: firstSix, head. -/
import Derived.Test.YtlflbpemjlgdiaaEbS
namespace Go.Proofs.Ytlflbpemjlgdiaa
open Go.RowKit Go.Maps
set_option linter.unusedVariables false

structure Mac where
  a : Int
  b : Int
  c : Int
  d : Int
  e : Int
  f : Int
deriving DecidableEq
def Mac.l (m : Mac) : List Int := [m.a, m.b, m.c, m.d, m.e, m.f]
def Mac.ok (m : Mac) : Prop := ∀ x ∈ m.l, IsB x
abbrev macC (m : Mac) : Array Value := #[.int .u8 m.a, .int .u8 m.b, .int .u8 m.c, .int .u8 m.d, .int .u8 m.e, .int .u8 m.f]
abbrev zero6 : Array Value := #[.int .u8 0, .int .u8 0, .int .u8 0, .int .u8 0, .int .u8 0, .int .u8 0]
def macOf (l : List Int) : Mac := ⟨l.getD 0 0, l.getD 1 0, l.getD 2 0, l.getD 3 0, l.getD 4 0, l.getD 5 0⟩
theorem macOf_l (l : List Int) (h : 6 ≤ l.length) : (macOf l).l = l.take 6 := by
  match l, h with
  | a :: b :: c :: d :: e :: f :: r, _ => simp [macOf, Mac.l]
theorem macOf_ok (l : List Int) (h : 6 ≤ l.length) (hl : ∀ x ∈ l, IsB x) : (macOf l).ok := by
  unfold Mac.ok; rw [macOf_l l h]; exact fun x hx => hl x (List.mem_of_mem_take hx)
theorem Mac.len (m : Mac) : m.l.length = 6 := rfl
theorem macOf_mac (m : Mac) (r : List Int) : macOf (m.l ++ r) = m := rfl
theorem Mac.ext_l {m k : Mac} (h : m.l = k.l) : m = k := by
  cases m; cases k; simp only [Mac.l, List.cons.injEq] at h; simp [h]
theorem size6 : (Try.prog.info? 23).map (·.size) = some 6 := by kernel_rfl
theorem below_alloc {B : Nat} {w0 w : World} (h : Below B w0 w) (hB : B ≤ w.heap.size) (o : Obj) : Below B w0 (w.alloc o) := h.alloc hB o

theorem macC_one (m : Mac) : (macC m).all (·.oneCell') = true := by simp [Value.oneCell']
theorem row6 {w : World} {g : Nat} {t : TypeId} {f : Nat → Value} (h : w.rowIs g t 6 f) : w.heap[g]? = some (.cells #[f 0, f 1, f 2, f 3, f 4, f 5] t (0, 0)) := by
  obtain ⟨c, hh, hs, hc⟩ := h
  have e : c = #[f 0, f 1, f 2, f 3, f 4, f 5] := by
    apply Array.ext_getElem?
    intro i
    by_cases hi : i < 6
    · rw [hc i hi]
      rcases (show i = 0 ∨ i = 1 ∨ i = 2 ∨ i = 3 ∨ i = 4 ∨ i = 5 by omega) with rfl | rfl | rfl | rfl | rfl | rfl <;> rfl
    · rw [Array.getElem?_eq_none (by omega), Array.getElem?_eq_none (by simp; omega)]
  rw [← e]; exact hh
set_option maxRecDepth 100000 in
set_option maxHeartbeats 1000000 in
theorem firstSix_any (w : World) (a : Option Addr) (n c : Nat) (l : List Int) (hn : l.length = n) (h6 : 6 ≤ n) (hb : Bytes w a l) :
    Calls Try.prog 25 #[.slice a n c] w fun e w' => e = .returned (.agg (macC (macOf l))) ∧ Below w.heap.size w w' := by
  obtain ⟨b, off, rfl, hc⟩ := hb.open_ (by omega)
  obtain ⟨g, hg⟩ : ∃ g, w.heap.size = g := ⟨_, rfl⟩
  obtain ⟨W1, hW1⟩ : ∃ W, W = w.alloc (.cells zero6 23) := ⟨_, rfl⟩
  have b1 : Below w.heap.size w W1 := by rw [hW1]; exact below_alloc (Below.refl _ _) (Nat.le_refl _) _
  have s1 : W1.heap.size = g + 1 := by rw [hW1, ← hg]; simp
  obtain ⟨g1, hg1⟩ : ∃ g1, W1.heap.size = g1 := ⟨_, rfl⟩
  have sg : g1 = g + 1 := by omega
  have h1 : W1.heap[g]? = some (.cells zero6 23 (0, 0)) := by rw [hW1, ← hg]; exact alloc_new w _
  obtain ⟨W2, hW2⟩ : ∃ W, W = W1.alloc (.cells zero6 23) := ⟨_, rfl⟩
  have b2 : Below w.heap.size w W2 := by rw [hW2]; exact below_alloc b1 b1.size _
  have h2 : W2.heap[g1]? = some (.cells zero6 23 (0, 0)) := by rw [hW2, ← hg1]; exact alloc_new W1 _
  have h21 : W2.heap[g]? = some (.cells zero6 23 (0, 0)) := by rw [hW2]; exact ((below_alloc (Below.refl W1.heap.size W1) (Nat.le_refl _) _).block g (by omega)).trans h1
  have hr2 : W2.rowIs g1 23 6 (fun _ => .int .u8 0) := ⟨_, h2, rfl, fun i hi => by
    rcases (show i = 0 ∨ i = 1 ∨ i = 2 ∨ i = 3 ∨ i = 4 ∨ i = 5 by omega) with rfl | rfl | rfl | rfl | rfl | rfl <;> rfl⟩
  have hsrc : ∀ j v, (u8s (l.take 6))[j]? = some v → W2.cell? ⟨b, off + j, none⟩ = some v := fun j v hj => by
    have hj2 : j < 6 := by have := (List.getElem?_eq_some_iff.1 hj).1; simp at this; omega
    rw [u8s_get (by simp; omega)] at hj
    refine cell_later b2 ?_
    rw [hc j (by omega), ← hj]
    have e : (l.take 6).getD j 0 = l.getD j 0 := by simp [List.getD, hj2]
    rw [e]
  obtain ⟨cs, hcs⟩ : ∃ cs, cs = u8s (l.take 6) := ⟨_, rfl⟩
  rw [← hcs] at hsrc
  have hcl : cs.length = 6 := by rw [hcs]; simp; omega
  have hco : ∀ v ∈ cs, v.oneCell' = true := by rw [hcs]; exact u8s_one _
  have hcm : ∀ i, i < 6 → (cs[i]?).getD (.int .u8 0) = .int .u8 (l.getD i 0) := fun i hi => by
    rw [hcs, u8s_get (by simp; omega)]
    have e : (l.take 6).getD i 0 = l.getD i 0 := by simp [List.getD, hi]
    rw [e]; rfl
  obtain ⟨m, hm⟩ : ∃ m, macOf l = m := ⟨_, rfl⟩
  rw [hm]
  have HM3 : Hid (∀ w3 : World, w3.rowIs g1 23 6 (fun i => (cs[i]?).getD (.int .u8 0)) → w3.heap[g1]? = some (.cells (macC m) 23 (0, 0))) := hid (fun w3 h => by
    rw [row6 h, hcm 0 (by decide), hcm 1 (by decide), hcm 2 (by decide), hcm 3 (by decide), hcm 4 (by decide), hcm 5 (by decide), ← hm]; rfl)
  have HSRC := hid hsrc
  have HCL := hid hcl
  have HCO := hid hco
  have HR2 := hid hr2
  have H21 := hid h21
  have HB2 := hid b2
  have HN : Hid (6 ≤ n) := hid h6
  have HG := hid hg
  have HSG := hid sg
  have HB0 := hid (show w.heap.size ≤ g1 by omega)
  clear hsrc hcl hco hcm hr2 h21 b2 h6 hc hb hn b1 h1 h2 hcs s1 sg hm
  go_enter Try.func25, Try.ntmps25
  have HW : w.alloc (.cells #[.int .u8 0, .int .u8 0, .int .u8 0, .int .u8 0, .int .u8 0, .int .u8 0] 23) = W1 := hW1.symm
  have HV : W1.alloc (.cells #[.int .u8 0, .int .u8 0, .int .u8 0, .int .u8 0, .int .u8 0, .int .u8 0] 23) = W2 := hW2.symm
  clear hW1 hW2
  go_wp2_with (first
    | (show wpList _ _ _ ({ dst := _, op := .call { callee := .builtin .copy, args := #[.tmp 4, .tmp 5], argTypes := #[22, 22] }, type := _, pos := _, after := _, guard := none } :: _) _ _; refine wpList_copy_rowIs rfl (.tmp 4) (.tmp 5) 22 22 rfl 5 Try.underlying22 size5 _ _ _ _ _ _ rfl rfl g1 6 _ 23 HR2.out cs ?c1 ?c2 ?c3 HCO.out g1 W2 (Nat.le_refl _) (Below.refl _ _) ?c4; rotate_left 3; intro w3 hr3 hb3 hs3; have h3 := HM3.out w3 hr3.out; have H3 := hid h3; have H3g := hid ((hb3.block g (by rw [HSG.out]; omega)).trans H21.out); have HB3 := hid hb3; clear h3 hr3 hb3 hs3)
    | (refine wpList_load_row rfl 23 _ rfl g1 rfl 23 _ (0, 0) _ H3.out Try.underlying23 rfl size6 ?_)
    | (refine wpList_store_row rfl 23 _ _ rfl g (macC m) rfl rfl 23 _ H3g.out size6 rfl (macC_one m) ?_))
  case c1 => rw [HCL.out]; exact (Nat.min_eq_right HN.out).symm
  case c2 => exact fun _ => ⟨b, off, ⟨rfl, rfl⟩, HSRC.out⟩
  case c3 => rw [HCL.out]; exact Nat.le_refl _
  refine bodyPost_ret (results_a rfl _ _ g (macC m) _ _ _ rfl (setRow_heap _ g _ _ _ _ H3g.out) Try.underlying23 size6) rfl ⟨rfl, ?_⟩
  have hbw := HB2.out.trans (HB3.out.mono (show w.heap.size ≤ g1 by rw [HSG.out, HG.out]; omega))
  exact (setRow_mods _ g _).to_below hbw hbw.size (fun x hx => by rw [hx, HG.out]; exact Nat.le_refl _)
/-- What each message begins with. -/
def headM : Mac := ⟨0, 1, 8, 0, 6, 4⟩
theorem set6_heap {w : World} {g : Nat} {z0 z1 z2 z3 z4 z5 : Value} {t : TypeId} (h : w.heap[g]? = some (.cells #[z0, z1, z2, z3, z4, z5] t (0, 0))) (a0 a1 a2 a3 a4 a5 : Value) : ((((((w.setCell ⟨g, 0, none⟩ a0).setCell ⟨g, 1, none⟩ a1).setCell ⟨g, 2, none⟩ a2).setCell ⟨g, 3, none⟩ a3).setCell ⟨g, 4, none⟩ a4).setCell ⟨g, 5, none⟩ a5).heap[g]? = some (.cells #[a0, a1, a2, a3, a4, a5] t (0, 0)) := by
  have k0 := setc h 0 a0
  have k1 := setc k0 1 a1
  have k2 := setc k1 2 a2
  have k3 := setc k2 3 a3
  have k4 := setc k3 4 a4
  have k5 := setc k4 5 a5
  rw [k5]; rfl
set_option maxRecDepth 100000 in
theorem head_any (w : World) : Calls Try.prog 47 #[] w fun e w' => e = .returned (.agg (macC headM)) ∧ Below w.heap.size w w' := by
  obtain ⟨W1, hW1⟩ : ∃ W, W = w.alloc (.cells zero6 23) := ⟨_, rfl⟩
  have h1 : W1.heap[w.heap.size]? = some (.cells zero6 23 (0, 0)) := by rw [hW1]; exact alloc_new w _
  have b1 : Below w.heap.size w W1 := by rw [hW1]; exact below_alloc (Below.refl _ _) (Nat.le_refl _) _
  have H1 := hid h1
  have B1 := hid b1
  clear h1 b1
  have HW : w.alloc (.cells #[.int .u8 0, .int .u8 0, .int .u8 0, .int .u8 0, .int .u8 0, .int .u8 0] 23) = W1 := hW1.symm
  clear hW1
  go_enter Try.func47, Try.ntmps47
  go_wp2_with (refine wpList_store_row rfl 23 _ _ rfl w.heap.size (macC headM) rfl rfl 23 _ H1.out size6 rfl (macC_one _) ?_)
  refine bodyPost_ret (results_a rfl _ _ w.heap.size (macC headM) _ _ _ rfl (setRow_heap _ w.heap.size _ _ _ _ H1.out) Try.underlying23 size6) rfl ⟨rfl, ?_⟩
  exact (setRow_mods _ _ _).to_below B1.out B1.out.size (fun x hx => by rw [hx]; exact Nat.le_refl _)
theorem eqS {d e c : Nat} {xs ys : Array Value} {i : Nat} {is : List Nat} {k : IntKind} (x y : Int) {r : Bool} {w : World} (hu : Try.prog.underlying e = some (.int k)) (ha : (part e xs (i * c)).run Try.prog w = .ok (.int k x) w) (hb : (part e ys (i * c)).run Try.prog w = .ok (.int k y) w)
    (hs : (Op.eqItems (d + 1) e c xs ys is).run Try.prog w = .ok r w) : (Op.eqItems (d + 1) e c xs ys (i :: is)).run Try.prog w = .ok (decide (x = y) && r) w := by
  unfold Op.eqItems
  simp only [Sem.run_bind, ha, hb, Result.andThen_ok, run_equalIn_int w d e k k x y hu]
  by_cases h : x = y
  · subst h
    simpa using hs
  · simp [h]
theorem item6 (x0 x1 x2 x3 x4 x5 : Value) (w : World) : (part 5 #[x0, x1, x2, x3, x4, x5] (0 * 1)).run Try.prog w = .ok x0 w ∧ (part 5 #[x0, x1, x2, x3, x4, x5] (1 * 1)).run Try.prog w = .ok x1 w ∧ (part 5 #[x0, x1, x2, x3, x4, x5] (2 * 1)).run Try.prog w = .ok x2 w ∧ (part 5 #[x0, x1, x2, x3, x4, x5] (3 * 1)).run Try.prog w = .ok x3 w ∧ (part 5 #[x0, x1, x2, x3, x4, x5] (4 * 1)).run Try.prog w = .ok x4 w ∧ (part 5 #[x0, x1, x2, x3, x4, x5] (5 * 1)).run Try.prog w = .ok x5 w := by
  refine ⟨?_, ?_, ?_, ?_, ?_, ?_⟩ <;> kernel_rfl
theorem eqMac (m k : Mac) (w : World) : (Op.equalIn 10000 23 (.agg (macC m)) (.agg (macC k))).run Try.prog w = .ok (decide (m = k)) w := by
  have hi : ∃ i, Try.prog.info? 5 = some i := info_of_underlying (Try.underlying5)
  obtain ⟨i, hi⟩ := hi
  have h1 : (Op.equalIn (9999 + 1) 23 (.agg (macC m)) (.agg (macC k))).run Try.prog w = .ok (decide (m = k)) w := by
    rw [run_equalIn_array w 9999 _ _ (Try.underlying23) hi]
    have hc : Try.prog.cellsOf 5 = 1 := by kernel_rfl
    rw [hc]
    obtain ⟨a0, a1, a2, a3, a4, a5⟩ := item6 (.int .u8 m.a) (.int .u8 m.b) (.int .u8 m.c) (.int .u8 m.d) (.int .u8 m.e) (.int .u8 m.f) w
    obtain ⟨b0, b1, b2, b3, b4, b5⟩ := item6 (.int .u8 k.a) (.int .u8 k.b) (.int .u8 k.c) (.int .u8 k.d) (.int .u8 k.e) (.int .u8 k.f) w
    have u := Try.underlying5
    rw [show List.range 6 = [0, 1, 2, 3, 4, 5] from rfl]
    have h := eqS (d := 9998) _ _ u a0 b0 (eqS _ _ u a1 b1 (eqS _ _ u a2 b2 (eqS _ _ u a3 b3 (eqS _ _ u a4 b4 (eqS (is := []) _ _ u a5 b5 (r := true) rfl)))))
    refine h.trans ?_
    congr 1
    rw [Bool.eq_iff_iff]
    simp
    cases m; cases k
    simp
  exact h1
theorem neqMac (m k : Mac) (w : World) : (binOp .neq 23 (.agg (macC m)) (.agg (macC k))).run Try.prog w = .ok (.bool (!decide (m = k))) w := by
  have h := eqMac m k w
  simp [go_sem, h]
end Go.Proofs.Ytlflbpemjlgdiaa
