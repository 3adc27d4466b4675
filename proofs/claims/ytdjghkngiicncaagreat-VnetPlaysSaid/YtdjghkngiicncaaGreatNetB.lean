/- vnet: the small functions. -/
import Derived.Test.YtdjghkngiicncaaGreatNetA
import Derived.Laws.AppendOwnNone
import Derived.Laws.OwnMore
import Derived.Laws.MakeOwn
import Derived.Laws.BytesString
import Derived.Laws.BytesArg
namespace Go.Proofs.YtdjghkngiicncaaGreat
open Go.RowKit

set_option maxRecDepth 100000 in
set_option maxHeartbeats 400000 in
theorem queueAt_any (w : World) (base n which : Int) (h : pow2 n = true) (hb : 0 ≤ base ∧ base ≤ 1099511627776) (hw : 0 ≤ which ∧ which ≤ 2) (z : Int) (hz : z = base + which * (8 + 26 * n)) :
    Calls Tryz.prog 53 #[.int .i64 base, .int .i64 n, .int .i64 which] w fun e w' => e = .returned (.int .i64 z) ∧ w' = w := by
  have h1 := pow2_bd h
  have hq : 0 ≤ which * (8 + 26 * n) ∧ which * (8 + 26 * n) ≤ 2 * (8 + 26 * n) := ⟨Int.mul_nonneg hw.1 (by omega), Int.mul_le_mul_of_nonneg_right hw.2 (by omega)⟩
  have e1 : IntKind.i64.wrap (which * (8 + 26 * n)) = which * (8 + 26 * n) := IntWalk.i64_in _ (by omega)
  have e2 : IntKind.i64.wrap (base + which * (8 + 26 * n)) = z := by rw [hz]; exact IntWalk.i64_in _ (by omega)
  have HH := hid h
  clear h hz hq
  go_enter Tryz.func53, Tryz.ntmps53
  go_wp2_with fail
  refine (Size_yes w n HH.out).mono ?_
  rintro e w1 ⟨rfl, rfl⟩
  go_wp2
  go_ret
  exact ⟨rfl, rfl⟩
set_option maxRecDepth 100000 in
set_option maxHeartbeats 400000 in
theorem placesAt_any (w : World) (base n which : Int) (h : pow2 n = true) (hb : 0 ≤ base ∧ base ≤ 1099511627776) (hw : 0 ≤ which ∧ which ≤ 2) (z : Int) (hz : z = base + 2 * (8 + 26 * n) + which * n * 1528) :
    Calls Tryz.prog 21 #[.int .i64 base, .int .i64 n, .int .i64 which] w fun e w' => e = .returned (.int .i64 z) ∧ w' = w := by
  have h1 := pow2_bd h
  have hq : 0 ≤ which * n ∧ which * n ≤ 2 * n := ⟨Int.mul_nonneg hw.1 (by omega), Int.mul_le_mul_of_nonneg_right hw.2 (by omega)⟩
  have e1 : IntKind.i64.wrap (which * n) = which * n := IntWalk.i64_in _ (by omega)
  have e2 : IntKind.i64.wrap (which * n * 1528) = which * n * 1528 := IntWalk.i64_in _ (by omega)
  have e3 : IntKind.i64.wrap (base + 2 * (8 + 26 * n) + which * n * 1528) = z := by rw [hz]; exact IntWalk.i64_in _ (by omega)
  have hcon := hid (queueAt_any w base n 2 h hb (by omega) _ rfl)
  clear h hz hq
  go_enter Tryz.func21, Tryz.ntmps21
  go_wp2_with fail
  refine hcon.out.mono ?_
  rintro e w1 ⟨rfl, rfl⟩
  go_wp2
  go_ret
  exact ⟨rfl, rfl⟩
def areaI (n : Int) : Int := if pow2 n then 2 * (8 + 26 * n) + 2 * n * 1528 else 0
set_option maxRecDepth 100000 in
set_option maxHeartbeats 400000 in
theorem Area_any (w : World) (n : Int) : Calls Tryz.prog 5 #[.int .i64 n] w fun e w' => e = .returned (.int .i64 (areaI n)) ∧ w' = w := by
  unfold areaI
  cases h : pow2 n with
  | true =>
    have h1 := pow2_bd h
    have hne : ¬ (8 + 26 * n = 0) := by omega
    have hcon := hid (placesAt_any w 0 n 2 h (by omega) (by omega) (2 * (8 + 26 * n) + 2 * n * 1528) (by omega))
    have HH := hid h
    clear h
    simp only [if_true]
    generalize 2 * (8 + 26 * n) + 2 * n * 1528 = z at *
    go_enter Tryz.func5, Tryz.ntmps5
    go_wp2_with fail
    refine (Size_yes w n HH.out).mono ?_
    rintro e w1 ⟨rfl, rfl⟩
    go_wp2_with fail
    refine hcon.out.mono ?_
    rintro e w1 ⟨rfl, rfl⟩
    go_wp2
    go_ret
    exact ⟨rfl, rfl⟩
  | false =>
    have HH := hid h
    clear h
    simp only [Bool.false_eq_true, if_false]
    go_enter Tryz.func5, Tryz.ntmps5
    go_wp2_with fail
    refine (Size_no w n HH.out).mono ?_
    rintro e w1 ⟨rfl, rfl⟩
    go_wp2
    go_ret
    exact ⟨rfl, rfl⟩
theorem areaI_bd (n : Int) : 0 ≤ areaI n ∧ areaI n ≤ 800000 := by
  unfold areaI
  split
  · rename_i h; have := pow2_bd h; omega
  · omega
/-- May a card lie there? -/
def hasB (len base n : Int) : Bool := decide (0 < areaI n) && (decide (0 ≤ base) && decide (base ≤ len - areaI n))
set_option maxRecDepth 100000 in
set_option maxHeartbeats 400000 in
theorem hasArea_any (w : World) (a : Option Addr) (len cap : Nat) (base n : Int) (hl : len ≤ 1099511627776) : Calls Tryz.prog 23 #[.slice a len cap, .int .i64 base, .int .i64 n] w fun e w' => e = .returned (.bool (hasB len base n)) ∧ w' = w := by
  have hbd := areaI_bd n
  have hcon := hid (Area_any w n)
  unfold hasB
  generalize areaI n = z at *
  have e1 : IntKind.i64.wrap ((len : Int) - z) = (len : Int) - z := IntWalk.i64_in _ (by omega)
  by_cases h0 : 0 < z
  · by_cases h1 : 0 ≤ base
    · have e0 : (decide (0 < z) && (decide (0 ≤ base) && decide (base ≤ (len : Int) - z))) = decide (base ≤ (len : Int) - z) := by simp [h0, h1]
      rw [e0]
      clear e0 hbd
      go_enter Tryz.func23, Tryz.ntmps23
      go_wp2_with fail
      refine hcon.out.mono ?_
      rintro e w1 ⟨rfl, rfl⟩
      go_wp2
      go_ret
      exact ⟨rfl, rfl⟩
    · have e0 : (decide (0 < z) && (decide (0 ≤ base) && decide (base ≤ (len : Int) - z))) = false := by simp [h1]
      rw [e0]
      clear e0 hbd
      go_enter Tryz.func23, Tryz.ntmps23
      go_wp2_with fail
      refine hcon.out.mono ?_
      rintro e w1 ⟨rfl, rfl⟩
      go_wp2
      go_ret
      exact ⟨rfl, rfl⟩
  · have e0 : (decide (0 < z) && (decide (0 ≤ base) && decide (base ≤ (len : Int) - z))) = false := by simp [h0]
    rw [e0]
    clear e0 hbd
    go_enter Tryz.func23, Tryz.ntmps23
    go_wp2_with fail
    refine hcon.out.mono ?_
    rintro e w1 ⟨rfl, rfl⟩
    go_wp2
    go_ret
    exact ⟨rfl, rfl⟩

def frB (n : Int) : Bool := decide (14 ≤ n) && decide (n ≤ 1514)
def fdB (n : Int) : Bool := decide (26 ≤ n) && decide (n ≤ 1526)
set_option maxRecDepth 100000 in
set_option maxHeartbeats 400000 in
theorem isFrame_any (w : World) (n : Int) : Calls Tryz.prog 31 #[.int .i64 n] w fun e w' => e = .returned (.bool (frB n)) ∧ w' = w := by
  unfold frB
  by_cases h : 14 ≤ n
  · by_cases h2 : n ≤ 1514
    · simp only [h, h2, decide_true, Bool.and_self]
      go_enter Tryz.func31, Tryz.ntmps31
      go_wp2
      go_ret
      exact ⟨rfl, rfl⟩
    · simp only [h, h2, decide_true, decide_false, Bool.and_false]
      go_enter Tryz.func31, Tryz.ntmps31
      go_wp2
      go_ret
      exact ⟨rfl, rfl⟩
  · simp only [h, decide_false, Bool.false_and]
    go_enter Tryz.func31, Tryz.ntmps31
    go_wp2
    go_ret
    exact ⟨rfl, rfl⟩
set_option maxRecDepth 100000 in
set_option maxHeartbeats 400000 in
theorem isFramed_any (w : World) (n : Int) : Calls Tryz.prog 41 #[.int .i64 n] w fun e w' => e = .returned (.bool (fdB n)) ∧ w' = w := by
  unfold fdB
  by_cases h : 26 ≤ n
  · by_cases h2 : n ≤ 1526
    · simp only [h, h2, decide_true, Bool.and_self]
      go_enter Tryz.func41, Tryz.ntmps41
      go_wp2
      go_ret
      exact ⟨rfl, rfl⟩
    · simp only [h, h2, decide_true, decide_false, Bool.and_false]
      go_enter Tryz.func41, Tryz.ntmps41
      go_wp2
      go_ret
      exact ⟨rfl, rfl⟩
  · simp only [h, decide_false, Bool.false_and]
    go_enter Tryz.func41, Tryz.ntmps41
    go_wp2
    go_ret
    exact ⟨rfl, rfl⟩
def bufV (b : Bf) : Value := .agg #[.int .i64 b.addr, .int .i64 b.len, .bool b.wt]
set_option maxRecDepth 100000 in
set_option maxHeartbeats 400000 in
theorem liesIn_any (w : World) (a : Option Addr) (N cap : Nat) (x y : Int) (t : Bool) (hN : N ≤ 1099511627776) (hy : 0 ≤ y ∧ y < 4294967296) :
    Calls Tryz.prog 68 #[.slice a N cap, .agg #[.int .i64 x, .int .i64 y, .bool t]] w fun e w' => e = .returned (.bool (decide (x ≤ (N : Int) - y))) ∧ Below w.heap.size w w' := by
  have e1 : IntKind.i64.wrap ((N : Int) - y) = (N : Int) - y := IntWalk.i64_in _ (by omega)
  go_enter Tryz.func68, Tryz.ntmps68
  go_wp2
  go_ret
  exact ⟨rfl, (Below.refl _ _).alloc (Nat.le_refl _) _⟩
set_option maxRecDepth 100000 in
set_option maxHeartbeats 400000 in
theorem bytesOf_any (w : World) (g N x y : Nat) (t : Bool) (hN : N ≤ 1099511627776) (hy : 0 < y) (hxy : x + y ≤ N) :
    Calls Tryz.prog 66 #[.slice (some ⟨g, 0, none⟩) N N, .agg #[.int .i64 x, .int .i64 y, .bool t]] w fun e w' => e = .returned (.slice (some ⟨g, x, none⟩) y y) ∧ Below w.heap.size w w' := by
  have e1 : IntKind.i64.wrap ((x : Int) + y) = (x : Int) + y := IntWalk.i64_in _ (by omega)
  have hcut := cut3_run g 0 N N x (x + y) (by omega) (by omega) (Nat.le_refl _)
  rw [show ((x + y : Nat) : Int) = (x : Int) + y by omega, Nat.add_sub_cancel_left, Nat.zero_add] at hcut
  go_enter Tryz.func66, Tryz.ntmps66
  go_wp2
  go_ret
  exact ⟨rfl, (Below.refl _ _).alloc (Nat.le_refl _) _⟩
theorem results_c1 {fn : Func} {t : Tmp} {ty : TypeId} (h : fn.results = #[.cell t ty]) (tmps : Array Value) (w : World) (g : Nat) (cs : Array Value) (t' : TypeId) (fs : _) (hp : tmps.getD t undef = .pointer (some ⟨g, 0, none⟩))
    (hg : w.heap[g]? = some (.cells cs t' (0, 0))) (hu : Tryz.prog.underlying ty = some (.struct fs)) (hi : (Tryz.prog.info? ty).map (·.size) = some cs.size) :
    (results fn tmps).run Tryz.prog w = .ok (.agg cs) w := by
  have hl := run_loadVar_row (P := Tryz.prog) w g t' ty cs (0, 0) _ hg hu rfl hi
  have hp' : tmps[t]?.getD undef = .pointer (some ⟨g, 0, none⟩) := by simpa using hp
  simp [results, h, hp', asAddr, hl]
theorem size65 : (Tryz.prog.info? 88).map (·.size) = some 3 := by kernel_rfl
def sideV (pd g N : Nat) (first : Int) : Value := .agg #[.pointer (some ⟨pd, 0, none⟩), .slice (some ⟨g, 0, none⟩) N N, .int .i64 first]
set_option maxRecDepth 100000 in
set_option maxHeartbeats 400000 in
theorem piece_any (w : World) (pd g N : Nat) (first place len z : Int) (hf : 0 ≤ first ∧ first ≤ 1099511627776) (hp : 0 ≤ place ∧ place ≤ 256) (hz : first + place * 1528 = z) :
    Calls Tryz.prog 55 #[sideV pd g N first, .int .i64 place, .int .i64 len] w fun e w' => e = .returned (.agg #[.int .i64 z, .int .i64 len, .bool false]) ∧ Below w.heap.size w w' := by
  have e1 : IntKind.i64.wrap (place * 1528) = place * 1528 := IntWalk.i64_in _ (by omega)
  have e2 : IntKind.i64.wrap (first + place * 1528) = z := by rw [hz]; exact IntWalk.i64_in _ (by omega)
  clear hz
  unfold sideV
  go_enter Tryz.func55, Tryz.ntmps55
  go_wp2
  have hh := (MapKept.heap_alloc (w.alloc (.cells #[.pointer (some ⟨pd, 0, none⟩), .slice (some ⟨g, 0, none⟩) N N, .int .i64 first] 51)) (.cells #[.int .i64 z, .int .i64 len, .bool false] 88)).1
  rw [show (w.alloc (.cells #[.pointer (some ⟨pd, 0, none⟩), .slice (some ⟨g, 0, none⟩) N N, .int .i64 first] 51)).heap.size = w.heap.size + 1 by simp] at hh
  refine bodyPost_ret (results_c1 rfl _ _ _ _ _ _ rfl hh Tryz.underlying88 size65) rfl ⟨rfl, ?_⟩
  exact ((Below.refl _ _).alloc (Nat.le_refl _) _).alloc (by simp) _
theorem side_cells (w : World) (pd g N : Nat) (first : Int) : (w.alloc (.cells #[.pointer (some ⟨pd, 0, none⟩), .slice (some ⟨g, 0, none⟩) N N, .int .i64 first] 51)).cell? ⟨w.heap.size, 0, none⟩ = some (.pointer (some ⟨pd, 0, none⟩)) ∧
    (w.alloc (.cells #[.pointer (some ⟨pd, 0, none⟩), .slice (some ⟨g, 0, none⟩) N N, .int .i64 first] 51)).cell? ⟨w.heap.size, 1, none⟩ = some (.slice (some ⟨g, 0, none⟩) N N) ∧
    (w.alloc (.cells #[.pointer (some ⟨pd, 0, none⟩), .slice (some ⟨g, 0, none⟩) N N, .int .i64 first] 51)).cell? ⟨w.heap.size, 2, none⟩ = some (.int .i64 first) :=
  ⟨new_cell w _ _ _ 0 (by simp), new_cell w _ _ _ 1 (by simp), new_cell w _ _ _ 2 (by simp)⟩
set_option maxRecDepth 100000 in
set_option maxHeartbeats 1000000 in
theorem bytes_any (w : World) (pd g N first place len z : Nat) (hN : N ≤ 1099511627776) (hp : place ≤ 256) (hz : first + place * 1528 = z) (hl : 0 < len) (hf : z + len ≤ N) :
    Calls Tryz.prog 43 #[sideV pd g N first, .int .i64 place, .int .i64 len] w fun e w' => e = .returned (.slice (some ⟨g, z, none⟩) len len) ∧ Below w.heap.size w w' := by
  have hcon : ∀ W : World, Calls Tryz.prog 55 #[sideV pd g N first, .int .i64 place, .int .i64 len] W fun e w' => e = .returned (.agg #[.int .i64 z, .int .i64 len, .bool false]) ∧ Below W.heap.size W w' := fun W => piece_any W pd g N first place len z (by omega) (by omega) (by omega)
  have HC := hid hcon
  have HZ := hid hz
  clear hcon hz
  unfold sideV at *
  obtain ⟨c0, c1, c2⟩ := side_cells w pd g N first
  obtain ⟨W, hW⟩ : ∃ W, W = w.alloc (.cells #[.pointer (some ⟨pd, 0, none⟩), .slice (some ⟨g, 0, none⟩) N N, .int .i64 first] 51) := ⟨_, rfl⟩
  have HB0 : Hid (Below w.heap.size w W) := hid (by rw [hW]; exact (Below.refl _ _).alloc (Nat.le_refl _) _)
  rw [← hW] at c0 c1 c2
  go_enter Tryz.func43, Tryz.ntmps43
  go_wp2_with fail
  rw [← hW]
  clear hW
  go_region_held3 (fun w' => w'.cell? ⟨w.heap.size, 0, none⟩ = some (.pointer (some ⟨pd, 0, none⟩)) ∧ w'.cell? ⟨w.heap.size, 1, none⟩ = some (.slice (some ⟨g, 0, none⟩) N N) ∧ w'.cell? ⟨w.heap.size, 2, none⟩ = some (.int .i64 first)) ((first | exact ⟨c0, c1, c2⟩ | exact HS5.out | exact HS6.out))
    ((first
      | (go_at_call 55; refine (HC.out _).mono ?_; rintro e w5 ⟨rfl, hb5⟩; have HB5 := hid hb5; have HS5 := hid (And.intro (cell_later hb5 c0) (And.intro (cell_later hb5 c1) (cell_later hb5 c2))); clear hb5)
      | (go_at_call 66; refine (bytesOf_any _ g N z len false hN hl hf).mono ?_; rintro e w6 ⟨rfl, hb6⟩; have HB6 := hid hb6; have HS6 := hid (And.intro (cell_later hb6 HS5.out.1) (And.intro (cell_later hb6 HS5.out.2.1) (cell_later hb6 HS5.out.2.2))); clear hb6)))
  go_wp2
  go_ret
  exact ⟨rfl, (HB0.out.drew.trans ((HB5.out.mono (by simpa using HB0.out.size)))).trans (HB6.out.mono (Nat.le_trans HB0.out.size (by simpa using HB5.out.size)))⟩

/-- A slice of bytes of the call's own: from block 'base' on, holding 'l'. -/
def Own (w : World) (base : Nat) (v : Value) (l : List Int) : Prop := w.ownsRow base 5 1 v l.length (l.map fun x => Value.int .u8 x)
theorem info5b : ∃ i, Tryz.prog.info? 5 = some i ∧ i.zero = some (.int .u8 0) ∧ i.size = 1 ∧ i.bytes = 1 := by
  obtain ⟨i, hi, hz⟩ := Option.map_eq_some_iff.1 info5
  simp only [Prod.mk.injEq] at hz
  exact ⟨i, hi, hz.1, hz.2.1, hz.2.2⟩
theorem Own.open_ {w : World} {base : Nat} {v : Value} {l : List Int} (h : Own w base v l) (hp : 0 < l.length) (hB : ∀ x ∈ l, IsB x) : ∃ g cap, v = .slice (some ⟨g, 0, none⟩) l.length cap ∧ l.length ≤ cap ∧ cap ≤ maxLen ∧ base ≤ g ∧ g < w.heap.size ∧ Mem w g l.length (fun i => l.getD i 0) := by
  rcases h.2 with ⟨_, h0⟩ | ⟨g, cap, cur, rfl, hb, hh, hc1, hc2, hcs, ht⟩
  · omega
  · refine ⟨g, cap, rfl, hc1, hc2, hb, (Array.getElem?_eq_some_iff.1 hh).1, ⟨cur, hh, by omega, fun i hi => ?_⟩, fun i hi => ?_⟩
    · have e : (cur.toList.take (l.length * 1))[i]? = (l.map fun x => Value.int .u8 x)[i]? := by rw [ht]
      rw [List.getElem?_take] at e
      simp [hi] at e
      rw [e]
      simp [List.getD, hi]
    · show IsB (l.getD i 0)
      rw [show l.getD i 0 = l[i] by simp [List.getD, hi]]
      exact hB _ (List.getElem_mem hi)
theorem Own.shape {w : World} {base : Nat} {v : Value} {l : List Int} (h : Own w base v l) : ∃ a c, v = .slice a l.length c := owns_slice h
/-- 'append(dst, src...)', dst of the call's own, src any bytes, nil too. -/
theorem wpList_append_bytes {w : World} {ops : Array Oper} {rest : List Oper} {o : Oper} {a : Act} {Q : Exit → Act → World → Prop} (hgd : o.guard = none) (s x : Operand)
    (ho : o.op = .call { callee := .builtin .append, args := #[s, x], argTypes := #[25, 25] })
    (base : Nat) (v : Value) (l m : List Int) (hs : a.eval s = v) (hown : Own w base v l)
    (ad : Option Addr) (cap : Nat) (hx : a.eval x = .slice ad m.length cap) (hm : Bytes w ad m) (hnil : ad = none → cap = 0)
    (hb : l.length + m.length ≤ 1099511627776) (hbase : base ≤ w.heap.size) (B : Nat) (w0 : World) (hB : B ≤ base) (hbel : Below B w0 w)
    (h : ∀ v' w', Hid (Own w' base v' (l ++ m)) → Hid (Below B w0 w') → wpList Tryz.prog ops Q rest (a.put o.dst v') w') : wpList Tryz.prog ops Q (o :: rest) a w := by
  obtain ⟨i, hi, hz, hz1, hz2⟩ := info5b
  have fin : ∀ v' w', w'.ownsRow base 5 1 v' (l.length + m.length) ((l.map fun x => Value.int .u8 x) ++ (m.map fun x => Value.int .u8 x)) → w.grownBy w' v.ownBlock → wpList Tryz.prog ops Q rest (a.put o.dst v') w' := by
    intro v' w' ho' hg
    refine h v' w' (show Own _ _ _ _ by unfold Own; simpa using ho') (hid (hbel.grown hg (Nat.le_trans hB hbase) fun k hk => ?_))
    rcases hown.2 with ⟨rfl, _⟩ | ⟨g, c, cur, rfl, hgb, _⟩
    · simp [Value.ownBlock] at hk
    · simp [Value.ownBlock] at hk; omega
  by_cases h0 : m.length = 0
  · obtain rfl := List.eq_nil_of_length_eq_zero h0
    cases ad with
    | none =>
      obtain rfl := hnil rfl
      refine wpList_append_own_none hgd s x 25 ho base 5 i 1 Tryz.underlying25 hi v l.length _ hs hown hx ?_
      exact h v w (show Own _ _ _ _ by simpa using hown) (hid hbel)
    | some ad =>
      refine wpList_append_own_at w hgd s x 25 ho base 5 i (.int .u8 0) 1 1 Tryz.underlying25 hi hz hz1 hz2 rfl (by decide) v l.length _ hs hown ad 0 cap [] hx (by simp) (fun j u hj => by simp at hj) (by simp) (by unfold maxLen; simp at hb; omega) (by simp at hb; omega) hbase ?_
      intro v' w' ho' hg _ _
      exact fin v' w' (by simpa using ho') hg
  · obtain ⟨b, off, rfl, hc⟩ := hm.open_ (by omega)
    refine wpList_append_own_at w hgd s x 25 ho base 5 i (.int .u8 0) 1 1 Tryz.underlying25 hi hz hz1 hz2 rfl (by decide) v l.length _ hs hown ⟨b, off, none⟩ m.length cap (m.map fun x => Value.int .u8 x) hx (by simp) (fun j u hj => ?_) (fun u hu => by simp at hu; obtain ⟨y, _, rfl⟩ := hu; rfl) (by unfold maxLen; omega) (by omega) hbase ?_
    · simp at hj
      obtain ⟨y, hy, rfl⟩ := hj
      have hj2 : j < m.length := (List.getElem?_eq_some_iff.1 hy).1
      rw [add_addr, hc j hj2]
      simp [List.getD, hy]
    · intro v' w' ho' hg _ _
      exact fin v' w' ho' hg
/-- '[]byte{}'. -/
theorem own_empty (w : World) : Own (w.alloc (.cells #[] 5)) w.heap.size (.slice (some ⟨w.heap.size, 0, none⟩) 0 0) [] :=
  ⟨rfl, .inr ⟨w.heap.size, 0, #[], rfl, Nat.le_refl _, (MapKept.heap_alloc w _).1, Nat.le_refl _, by unfold maxLen; omega, rfl, rfl⟩⟩
theorem Own.below {w w' : World} {base : Nat} {v : Value} {l : List Int} (h : Own w base v l) (hb : Below w.heap.size w w') : Own w' base v l := owns_below h hb
theorem bytes_one (w : World) (y : Int) (hy : IsB y) : Bytes (w.alloc (.cells #[.int .u8 y] 5)) (some ⟨w.heap.size, 0, none⟩) [y] := fun i hi => by
  obtain rfl : i = 0 := by simpa using hi
  exact ⟨w.heap.size, 0, rfl, new_cell w _ _ _ 0 (by simp), hy⟩
theorem Mem.conv {w : World} {g N len cap : Nat} {f : Nat → Int} (h : Mem w g N f) (hl : len ≤ N) : (convert 25 9 (.slice (some ⟨g, 0, none⟩) len cap)).run Tryz.prog w = .ok (.string (strOfNums (at_ f 0 len))) w :=
  run_convert_bytes_arg w 25 5 Tryz.underlying25 Tryz.underlying5 g 0 len cap (at_ f 0 len) (at_len f 0 len) (fun i hi => by rw [at_get f 0 len i hi]; exact h.cell (by omega)) 9 Tryz.underlying9

theorem rch_some (f : Nat → Int) (base n : Nat) : ∀ (fu p : Nat) (L R : List Bf), L.length ≤ n → rch f base n fu p L = some R → L.length < R.length ∧ R.length ≤ n ∧ p < n
  | 0, _, _, _, _, h => by cases h
  | fu + 1, p, L, R, hL, h => by
    rw [rch] at h
    split at h
    · cases h
    · rename_i h1
      split at h
      · cases h
      · split at h
        · have := rch_some f base n fu _ _ R (by rw [List.length_append]; simp; omega) h
          rw [List.length_append] at this
          simp at this
          omega
        · simp only [Option.some.injEq] at h
          subst h
          rw [List.length_append]
          simp
          omega
theorem given_out (f : Nat → Int) (q : Qu) (u : Nat) (hd len : Int) (i : Nat) (h : i < q.base ∨ q.base + (8 + 26 * q.n) ≤ i) : given f q.pu q.n u hd len i = f i := by
  have hk := Nat.mod_lt u (show 0 < q.n from q.geo.n1)
  have e1 := q.geo.epu
  unfold given wr
  rw [if_neg (by omega), if_neg (by omega), if_neg (by omega)]

def rowL (L : List Int) : List Int := List.replicate 12 0 ++ L
theorem rowL_len (L : List Int) : (rowL L).length = 12 + L.length := by unfold rowL; rw [List.length_append, List.length_replicate]
theorem rowL_isB {L : List Int} (h : ∀ x ∈ L, IsB x) : ∀ x ∈ rowL L, IsB x := fun x hx => by
  rcases List.mem_append.1 hx with h1 | h1
  · rw [(List.mem_replicate.1 h1).2]; exact ⟨by omega, by omega⟩
  · exact h x h1
/-- A slice that begins a block of its own, holding L. -/
def Blk (w : World) (b : Nat) (L : List Int) : Prop := Mem w b L.length (fun i => L.getD i 0)
set_option maxRecDepth 100000 in
set_option maxHeartbeats 400000 in
theorem framed_any (w : World) (ad : Option Addr) (cap len : Nat) (L : List Int) (hB : Bytes w ad L) (hln : L.length = len) (h1 : 14 ≤ len) (h2 : len ≤ 1514) :
    Calls Tryz.prog 44 #[.slice ad len cap] w fun e w' => ∃ b c, e = .returned (.slice (some ⟨b, 0, none⟩) (12 + len) c) ∧ w.heap.size ≤ b ∧ 12 + len ≤ c ∧ Blk w' b (rowL L) ∧ Below w.heap.size w w' := by
  have hmk := run_make_row' (P := Tryz.prog) 25 5 (.int .u8 0) 1 Tryz.underlying25 info5 rfl .i64 .i64 12 (by omega) (by omega)
  rw [show ((12 : Nat) : Int) = 12 from rfl] at hmk
  have HO : Hid (Own (w.alloc (.cells (madeCells #[Value.int .u8 0] 12) 5)) w.heap.size (.slice (some ⟨w.heap.size, 0, none⟩) 12 12) (List.replicate 12 0)) := hid ⟨rfl, .inr ⟨w.heap.size, 12, _, rfl, Nat.le_refl _, (MapKept.heap_alloc w _).1, Nat.le_refl _, by unfold maxLen; omega, by simp [size_madeCells], by rw [toList_madeCells_one]; rfl⟩⟩
  have HB := hid hB
  have HLN := hid hln
  clear hB hln
  go_enter Tryz.func44, Tryz.ntmps44
  go_wp2_with (at_builtin; refine wpList_append_bytes rfl (.tmp 3) (.tmp 4) rfl w.heap.size _ (List.replicate 12 0) L rfl HO.out ad cap (by rw [HLN.out]; rfl) (HB.out.later ((Below.refl _ _).alloc (Nat.le_refl _) _)) (fun e => by have h3 := HB.out 0 (by rw [HLN.out]; omega); obtain ⟨b, off, h4, _⟩ := h3; rw [e] at h4; cases h4) (by rw [HLN.out]; simp; omega) (by simp) w.heap.size w (Nat.le_refl _) ((Below.refl _ _).alloc (Nat.le_refl _) _) ?_; intro v2 w2 hown2 hb2)
  go_ret
  obtain ⟨b, c, rfl, h3, _, h5, h6, h7⟩ := Own.open_ (l := rowL L) hown2.out (by rw [rowL_len]; omega) (rowL_isB HB.out.isB)
  rw [rowL_len, HLN.out] at h3
  exact ⟨b, c, by rw [rowL_len, HLN.out]; rfl, h5, h3, h7, hb2.out⟩
set_option maxRecDepth 100000 in
set_option maxHeartbeats 400000 in
theorem frameOf_any (w : World) (g off len cap : Nat) (L : List Int) (hB : Bytes w (some ⟨g, off, none⟩) L) (hln : L.length = len) (h1 : 26 ≤ len) (h2 : len ≤ 1526) (hc : len ≤ cap) :
    Calls Tryz.prog 42 #[.slice (some ⟨g, off, none⟩) len cap] w fun e w' => ∃ b c, e = .returned (.slice (some ⟨b, 0, none⟩) (len - 12) c) ∧ w.heap.size ≤ b ∧ len - 12 ≤ c ∧ Blk w' b (L.drop 12) ∧ Below w.heap.size w w' := by
  have hcut := cutL_run g off len cap 12 (by omega)
  rw [behind_more g off len cap 12 (by omega)] at hcut
  rw [show ((12 : Nat) : Int) = 12 from rfl] at hcut
  have HL2 : Hid ((L.drop 12).length = len - 12) := hid (by simp; omega)
  have HB2 : Hid (Bytes w (some ⟨g, off + 12, none⟩) (L.drop 12)) := hid (by have := hB.cut 12 (len - 12); rwa [List.take_of_length_le (by simp; omega)] at this)
  clear hB hln
  go_enter Tryz.func42, Tryz.ntmps42
  go_wp2_with (at_builtin; refine wpList_append_bytes rfl (.const (.slice none 0 0)) (.tmp 4) rfl w.heap.size _ [] (L.drop 12) rfl ⟨rfl, .inl ⟨rfl, rfl⟩⟩ (some ⟨g, off + 12, none⟩) (cap - 12) (by rw [HL2.out]; rfl) HB2.out (fun e => by cases e) (by rw [HL2.out]; simp; omega) (Nat.le_refl _) w.heap.size w (Nat.le_refl _) (Below.refl _ _) ?_; intro v2 w2 hown2 hb2)
  go_ret
  obtain ⟨b, c, rfl, h3, _, h5, h6, h7⟩ := Own.open_ (l := L.drop 12) hown2.out (by rw [HL2.out]; omega) HB2.out.isB
  rw [HL2.out] at h3
  exact ⟨b, c, by rw [HL2.out]; rfl, h5, h3, h7, hb2.out⟩
end Go.Proofs.YtdjghkngiicncaaGreat
