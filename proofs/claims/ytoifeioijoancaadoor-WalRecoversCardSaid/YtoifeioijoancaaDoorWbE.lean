/- bytes.Equal, HasPrefix; blockOf, isEnd. -/
import Derived.Test.YtoifeioijoancaaDoorWbD
import Derived.Laws.BytesArg
import Derived.Lib.Bytes
namespace Go.Proofs.YtoifeioijoancaaDoor
open Go.RowKit Go.Maps
set_option linter.unusedVariables false

theorem bytesOf_inj : ∀ (l m : List Int), (∀ x ∈ l, IsB x) → (∀ x ∈ m, IsB x) → Lib.bytesOf l = Lib.bytesOf m → l = m := by
  intro l
  induction l with
  | nil => intro m _ _ h; cases m with
    | nil => rfl
    | cons y m => simp [Lib.bytesOf] at h
  | cons x l ih => intro m hl hm h; cases m with
    | nil => simp [Lib.bytesOf] at h
    | cons y m =>
      simp only [Lib.bytesOf, List.map_cons, List.cons.injEq] at h
      have e1 := ih m (fun z hz => hl z (by simp [hz])) (fun z hz => hm z (by simp [hz])) h.2
      have hx := hl x (by simp)
      have hy := hm y (by simp)
      unfold IsB at hx hy
      have e2 := congrArg UInt8.toNat h.1
      simp at e2
      have : x = y := by omega
      rw [this, e1]
theorem bytes_conv {w : World} {a : Option Addr} {cap k : Nat} {l : List Int} (h : Bytes w a l) (hk : l.length = k) : ∀ q : Nat, (convert 27 9 (.slice a k cap)).run Tryd.prog (w.drewN q) = .ok (.string (strOfNums l)) (w.drewN q) := by
  intro q
  by_cases hp : 0 < l.length
  · obtain ⟨b, off, rfl, hc⟩ := h.open_ hp
    exact run_convert_bytes_arg (w.drewN q) (P := Tryd.prog) 27 5 Tryd.underlying27 Tryd.underlying5 b off k cap l hk (fun i hi => hc i (by omega)) 9 Tryd.underlying9
  · obtain rfl : l = [] := List.eq_nil_of_length_eq_zero (by omega)
    simp at hk
    subst hk
    cases a with
    | none => exact run_convert_bytes_nil (w.drewN q) 27 5 Tryd.underlying27 Tryd.underlying5 0 cap 9 Tryd.underlying9
    | some a =>
      show (convert 27 9 (.slice (some a) 0 cap)).run Tryd.prog (w.drewN q) = _
      rw [run_convert_bytes_string (w.drewN q) 27 9 5 _ _ cap Tryd.underlying27 Tryd.underlying5 Tryd.underlying9, run_bytesToString (w.drewN q) a 0 cap [] (by simpa using run_loadCells_list (P := Tryd.prog) (w.drewN q) a [] (fun j v hj => by simp at hj))]
      rfl
theorem conv0 {w : World} {a : Option Addr} {cap k : Nat} {l : List Int} (h : Bytes w a l) (hk : l.length = k) : (convert 27 9 (.slice a k cap)).run Tryd.prog w = .ok (.string (strOfNums l)) w := bytes_conv h hk 0
theorem str_eq {l m : List Int} (hl : ∀ x ∈ l, IsB x) (hm : ∀ x ∈ m, IsB x) : ((strOfNums l).toList == (strOfNums m).toList) = decide (l = m) := by
  rw [Lib.strOfNums_toList, Lib.strOfNums_toList]
  by_cases h : l = m
  · subst h; simp
  · rw [decide_eq_false h, beq_eq_false_iff_ne]
    exact fun e => h (bytesOf_inj l m hl hm e)
set_option maxRecDepth 100000 in
set_option maxHeartbeats 400000 in
theorem Equal_any (w : World) (a b : Option Addr) (n k ca cb : Nat) (l m : List Int) (hl : l.length = n) (hm : m.length = k) (h1 : Bytes w a l) (h2 : Bytes w b m) :
    Calls Tryd.prog 93 #[.slice a n ca, .slice b k cb] w fun e w' => e = .returned (.bool (decide (l = m))) ∧ w' = w := by
  have c1 := conv0 (cap := ca) h1 hl
  have c2 := conv0 (cap := cb) h2 hm
  rw [← str_eq h1.isB h2.isB]
  generalize strOfNums l = s1 at *
  generalize strOfNums m = s2 at *
  clear hl hm h1 h2
  go_enter Tryd.func93, Tryd.ntmps93
  go_wp2
  go_ret
  exact ⟨rfl, rfl⟩
set_option maxRecDepth 100000 in
theorem cutH_run (a : Option Addr) (len cap hi : Nat) (hh : hi ≤ cap) (W : World) : (Instr.slice 27 (.slice a len cap) none (some (.int .i64 hi)) none).run Tryd.prog W = .ok (.slice a hi cap) W := by
  have hz : (sizeOf 5).run Tryd.prog W = .ok 1 W := by kernel_rfl
  rw [run_slice_h (P := Tryd.prog) W 27 a len cap Tryd.underlying27 .i64 hi (by omega) (by omega)]
  have e : Tryd.prog.elem 27 = 5 := by kernel_rfl
  rw [e, hz]
  cases a <;> simp [sliced, Addr.add]
set_option maxRecDepth 100000 in
set_option maxHeartbeats 1000000 in
theorem HasPrefix_any (w : World) (a b : Option Addr) (n k ca cb : Nat) (l m : List Int) (hl : l.length = n) (hm : m.length = k) (hle : k ≤ n) (hc : n ≤ ca) (hn : n ≤ 1000000) (h1 : Bytes w a l) (h2 : Bytes w b m) :
    Calls Tryd.prog 75 #[.slice a n ca, .slice b k cb] w fun e w' => e = .returned (.bool (decide (l.take k = m))) ∧ w' = w := by
  have hcut := cutH_run a n ca k (by omega) w
  have HC := hid (Equal_any w a b k k ca cb (l.take k) m (by rw [List.length_take]; omega) hm (h1.take k) h2)
  have hki : (k : Int) ≤ n := by omega
  generalize decide (l.take k = m) = r at *
  clear hl hm h1 h2
  go_enter Tryd.func75, Tryd.ntmps75
  go_wp2_with (go_at_call 93; refine HC.out.mono ?_; rintro e w1 ⟨rfl, hw1⟩; rw [hw1]; clear hw1)
  go_ret
  exact ⟨rfl, rfl⟩
set_option maxRecDepth 100000 in
set_option maxHeartbeats 1000000 in
theorem blockOf_any (w : World) (S : Nat → Prop) (a : Option Addr) (n cap i : Nat) (x : Int) (l : List Int) (hx : x = i) (hl : l.length = n) (hc : n ≤ cap) (hn : 512 * (i + 1) ≤ n) (hn2 : n ≤ 1000000) (h : By w S a l) :
    Calls Tryd.prog 49 #[.slice a n cap, .int .i64 x] w fun e w' => ∃ a' c', e = .returned (.slice a' 512 c') ∧ By w S a' ((l.drop (512 * i)).take 512) ∧ 512 ≤ c' ∧ w' = w := by
  obtain ⟨g, off, rfl, _, _⟩ := h.addr (by omega)
  have HY := hid (h.cut (512 * i) 512)
  have hcut := cut_run g off n cap (512 * i) (512 * (i + 1)) (by omega) (by omega) hc w
  have e1 : ((512 * i : Nat) : Int) = x * 512 := by rw [hx]; omega
  have e2 : ((512 * (i + 1) : Nat) : Int) = (x + 1) * 512 := by rw [hx]; omega
  rw [e1, e2, show 512 * (i + 1) - 512 * i = 512 by omega] at hcut
  have b1 : 0 ≤ x := by omega
  have b2 : x ≤ 1000000 := by omega
  have hcc : 512 ≤ cap - 512 * i := by omega
  clear e1 e2 h hx hl
  go_enter Tryd.func49, Tryd.ntmps49
  go_wp2
  go_ret
  exact ⟨_, _, rfl, HY.out, hcc, rfl⟩
theorem endL_take (seq sum : Int) : (endL seq sum).take 20 = endB seq sum := by
  unfold endL pad
  rw [List.take_append_of_le_length (by rw [endB_len]; omega), List.take_of_length_le (by rw [endB_len]; omega)]
set_option maxRecDepth 100000 in
set_option maxHeartbeats 1000000 in
theorem isEnd_any (w : World) (a : Option Addr) (c : Nat) (l : List Int) (seq sum : Int) (h0 : 0 ≤ seq) (h1 : seq < 18446744073709551616) (h2 : 0 ≤ sum) (h3 : sum < 4294967296) (hl : l.length = 512) (hc : 512 ≤ c) (h : Bytes w a l) :
    Calls Tryd.prog 50 #[.slice a 512 c, .int .u64 seq, .int .u32 sum] w fun e w' => e = .returned (.bool (decide (l.take 20 = endB seq sum))) ∧ Below w.heap.size w w' := by
  have HC := hid (end_any w seq sum h0 h1 h2 h3)
  have HH := hid h
  obtain ⟨R, hR⟩ : ∃ R, R = decide (l.take 20 = endB seq sum) := ⟨_, rfl⟩
  rw [← hR]
  have HR := hid hR
  clear h hR
  go_enter Tryd.func50, Tryd.ntmps50
  go_wp2_with fail
  refine HC.out.mono ?_
  rintro e w1 ⟨g, rfl, hy, hb⟩
  have hcut := cutH_run (some ⟨g, 0, none⟩) 512 512 20 (by omega) w1
  have h20 := hy.bytes.take 20
  rw [endL_take] at h20
  have HC2 := hid (HasPrefix_any w1 a (some ⟨g, 0, none⟩) 512 20 c 512 l (endB seq sum) hl (endB_len _ _) (by omega) hc (by omega) (HH.out.later hb) h20)
  rw [← HR.out] at HC2
  have HB := hid hb
  clear hy hb h20 HC
  go_wp2_with (go_at_call 75; refine HC2.out.mono ?_; rintro e w2 ⟨rfl, hw2⟩; rw [hw2]; clear hw2)
  go_ret
  exact ⟨rfl, HB.out⟩
end Go.Proofs.YtoifeioijoancaaDoor
