/- VhA, VgA in one text. -/
import Derived.Test.YtaplmlldmhdhoaaGreatDoorVfI
import Derived.Test.YtaplmlldmhdhoaaGreatDoorVbB
import Derived.Lib.SlBytesConst
import Derived.Laws.BytesArg
import Derived.Lib.Bytes
/- What VolTakes leans on: rows of answers, within, Super, Is; the calls that came in. -/
namespace Go.Proofs.YtaplmlldmhdhoaaGreatDoor
open Go.RowKit Go.Maps
set_option linter.unusedVariables false

structure Bk where
  at_ : Int
  size : Int
  b : Int
instance : Inhabited Bk := ⟨⟨0, 0, 0⟩⟩
def Bks (w : World) (a : Option Addr) (l : List Bk) : Prop :=
  ∀ i, i < l.length → ((l.getD i default).at_ < 9223372036854775808 ∧ -9223372036854775808 ≤ (l.getD i default).at_ ∧ IsB (l.getD i default).b) ∧ ∃ b off, a = some ⟨b, off, none⟩ ∧ w.cell? ⟨b, off + i * 3, none⟩ = some (.int .i64 (l.getD i default).at_) ∧ w.cell? ⟨b, off + i * 3 + 1, none⟩ = some (.int .i64 (l.getD i default).size) ∧ w.cell? ⟨b, off + i * 3 + 2, none⟩ = some (.int .u8 (l.getD i default).b)
theorem Bks.later {w w' : World} {a : Option Addr} {l : List Bk} (h : Bks w a l) (hb : Below w.heap.size w w') : Bks w' a l := fun i hi => by
  obtain ⟨h1, b, off, ha, c0, c1, c2⟩ := h i hi
  exact ⟨h1, b, off, ha, cell_later hb c0, cell_later hb c1, cell_later hb c2⟩
/-- A row of answers. -/
def BoolR (w : World) (g m : Nat) (G : Nat → Bool) : Prop := ∃ cs, w.heap[g]? = some (.cells cs 4 (0, 0)) ∧ cs.size = m ∧ ∀ k, k < m → cs[k]? = some (.bool (G k))
variable {w w' : World} {g m : Nat} {G G' : Nat → Bool}
theorem BoolR.cell (h : BoolR w g m G) {k : Nat} (hk : k < m) : w.cell? ⟨g, k, none⟩ = some (.bool (G k)) ∧ w.frozen? ⟨g, k, none⟩ = false := by
  obtain ⟨cs, h1, _, h3⟩ := h
  exact ⟨cell_of h1 (h3 k hk), froz_of h1 k⟩
theorem BoolR.lt (h : BoolR w g m G) : g < w.heap.size := let ⟨_, h1, _⟩ := h; (Array.getElem?_eq_some_iff.1 h1).1
theorem BoolR.keep (h : BoolR w g m G) (hk : w'.heap[g]? = w.heap[g]?) : BoolR w' g m G := let ⟨cs, h1, h2, h3⟩ := h; ⟨cs, hk.trans h1, h2, h3⟩
theorem BoolR.congr (h : BoolR w g m G) (e : ∀ k, k < m → G k = G' k) : BoolR w g m G' := let ⟨cs, h1, h2, h3⟩ := h; ⟨cs, h1, h2, fun k hk => by rw [h3 k hk, e k hk]⟩
theorem BoolR.set (h : BoolR w g m G) {k : Nat} (hk : k < m) (b : Bool) (e : ∀ j, j < m → G' j = if j = k then b else G j) : BoolR (w.setCell ⟨g, k, none⟩ (.bool b)) g m G' := by
  obtain ⟨cs, h1, h2, h3⟩ := h
  refine ⟨_, setc h1 k (.bool b), by simp [h2], fun j hj => ?_⟩
  by_cases e2 : j = k
  · subst e2
    rw [Array.getElem?_setIfInBounds_self_of_lt (by omega), e j hj, if_pos rfl]
  · rw [Array.getElem?_setIfInBounds_ne (by omega), h3 j hj, e j hj, if_neg e2]
theorem BoolR.made (w : World) (m : Nat) : BoolR (w.alloc (.cells (madeCells #[.bool false] m) 4)) w.heap.size m (fun _ => false) :=
  ⟨_, alloc_new w _, by rw [size_madeCells], fun k hk => by rw [← Array.getElem?_toList, toList_madeCells_one]; simp [hk]⟩
/-- A number modulo n, from 0 on. -/
def wi (at_ n : Int) : Int := if at_.tmod n < 0 then at_.tmod n + n else at_.tmod n
theorem wi_bd (at_ n : Int) (h : 0 < n) : 0 ≤ wi at_ n ∧ wi at_ n < n := by
  unfold wi
  have h1 := Int.tmod_lt_of_pos at_ h
  have h2 : -n < at_.tmod n := by
    rcases Int.lt_or_le at_ 0 with h3 | h3
    · have h4 := Int.neg_tmod (-at_) n
      rw [Int.neg_neg] at h4
      rw [h4]
      have := Int.tmod_lt_of_pos (-at_) h
      omega
    · have := Int.tmod_nonneg n h3
      omega
  split <;> omega
theorem wrap_wi {x n : Int} (h0 : 0 < n) (hn : n < 1099511627776) (h : x.tmod n < 0) : IntKind.i64.wrap (x.tmod n + n) = x.tmod n + n := by
  have h1 := wi_bd x n h0
  unfold wi at h1
  rw [if_pos h] at h1
  exact IntWalk.i64_in _ (by omega)
set_option maxRecDepth 100000 in
set_option maxHeartbeats 1000000 in
theorem Super_lv {pv n N : Nat} {S : Nat → Prop} {i : Int} {FB FI : Nat → Bool} (h : Lv w pv S N i n FB FI) : Calls Tryz.prog 55 #[.pointer (some ⟨pv, 0, none⟩)] w fun e w' => e = .returned (.agg #[n64 N, n64 i, n64 1, n64 2, n64 68, n64 69, n64 (planT N), n64 (planD N i)]) ∧ Below w.heap.size w w' := by
  obtain ⟨q, S0, T, P, bc, ⟨m, MV, hv, _⟩, _⟩ := h.ex
  obtain ⟨W0, hW0⟩ : ∃ W, W = w.alloc (.cells #[n64 0, n64 0, n64 0, n64 0, n64 0, n64 0, n64 0, n64 0] 115) := ⟨_, rfl⟩
  have hb0 : Below w.heap.size w W0 := by rw [hW0]; exact (Below.refl _ _).alloc (Nat.le_refl _) _
  have hh0 : W0.heap[w.heap.size]? = some (.cells #[n64 0, n64 0, n64 0, n64 0, n64 0, n64 0, n64 0, n64 0] 115 (0, 0)) := by rw [hW0]; exact alloc_new w _
  have hv0 := (hb0.block _ (Array.getElem?_eq_some_iff.1 hv).1).trans hv
  have k2 : W0.cell? ⟨pv, 2, none⟩ = some (n64 N) := cell_of hv0 rfl
  have k3 : W0.cell? ⟨pv, 3, none⟩ = some (n64 i) := cell_of hv0 rfl
  have k4 : W0.cell? ⟨pv, 4, none⟩ = some (n64 1) := cell_of hv0 rfl
  have k5 : W0.cell? ⟨pv, 5, none⟩ = some (n64 2) := cell_of hv0 rfl
  have k6 : W0.cell? ⟨pv, 6, none⟩ = some (n64 68) := cell_of hv0 rfl
  have k7 : W0.cell? ⟨pv, 7, none⟩ = some (n64 69) := cell_of hv0 rfl
  have k8 : W0.cell? ⟨pv, 8, none⟩ = some (n64 (planT N)) := cell_of hv0 rfl
  have k9 : W0.cell? ⟨pv, 9, none⟩ = some (n64 (planD N i)) := cell_of hv0 rfl
  obtain ⟨z0, z1, z2, z3, z4, z5, z6, z7⟩ := cells8 hh0
  have zf := fun k => froz_of hh0 k
  have HH := hid hh0
  have HB := hid hb0
  clear hb0 hh0 hv hv0 h
  go_enter Tryz.func55, Tryz.ntmps55
  go_wp2_with (rw [← hW0]; clear hW0)
  exact bodyPost_ret (results_c rfl _ _ _ _ _ _ rfl (set8_heap HH.out _ _ _ _ _ _ _ _) Tryz.underlying115 sizeSup) rfl ⟨rfl, set8_below HB.out (Nat.le_refl _) _ _ _ _ _ _ _ _⟩
set_option maxRecDepth 100000 in
set_option maxHeartbeats 1000000 in
theorem Is_same (w : World) (k : Int) (hk : k ≠ 0) : Calls Tryz.prog 12 #[.iface 57 (n64 k), n64 k] w fun e w' => e = .returned (.bool true) ∧ w' = w := by
  have HC := is_num k k w
  have e : (k == k) = true := by simp
  rw [e] at HC
  replace HC := hid HC
  have hk0 : ¬ k = 0 := hk
  have hk1 : (k == 0) = false := by simpa using hk
  clear e
  go_enter Tryz.func12, Tryz.ntmps12
  go_wp2_with fail
  refine HC.out.mono ?_
  rintro e w2 ⟨rfl, rfl⟩
  go_wp2
  go_ret
  exact ⟨rfl, rfl⟩
theorem cnt_from {F : Nat → Bool} {D : Nat} (h : ∀ k, k < D → F k = true) : ∀ m, cnt F 0 m = cnt F D m
  | 0 => rfl
  | m + 1 => by
    rw [cnt, cnt, cnt_from h m]
    by_cases hm : D ≤ m
    · simp [hm]
    · rw [if_neg (by rw [h m (by omega)]; simp), if_neg (by omega)]
theorem flip_flip (F : Nat → Bool) (x : Nat) : flip1 (flip1 F x) x = F := by
  funext j
  unfold flip1
  by_cases e : j = x
  · simp [e]
  · simp [e]
end Go.Proofs.YtaplmlldmhdhoaaGreatDoor

/- Sums, prefixes, numbers at places: the program's. -/
namespace Go.Proofs.YtaplmlldmhdhoaaGreatDoor
open Go.RowKit Go.Maps
set_option linter.unusedVariables false

theorem Tab.later {w w' : World} (h : Tab w) (hb : Below w.heap.size w w') : Tab w' := fun i hi => cell_later hb (h i hi)
theorem rows_new (w : World) (l : List Int) (a : Option Addr) (c n : Nat) (hn : n = l.length) (h : Bytes w a l) : RowsOf (w.alloc (.cells #[.slice a n c] 59)) (some ⟨w.heap.size, 0, none⟩) [l] := by
  subst hn
  intro i hi
  obtain rfl : i = 0 := by simp at hi; omega
  refine ⟨w.heap.size, 0, a, c, rfl, ?_, ?_⟩
  · rw [Nat.zero_add, new_cell _ _ _ _ 0 (by simp)]; simp
  · exact h.later ((Below.refl _ _).alloc (Nat.le_refl _) _)
theorem bytesOf_inj : ∀ (l m : List Int), (∀ x ∈ l, IsB x) → (∀ x ∈ m, IsB x) → Lib.bytesOf l = Lib.bytesOf m → l = m := by
  intro l
  induction l with
  | nil => intro m _ _ h; cases m with
    | nil => rfl
    | cons y m => simp [Lib.bytesOf] at h
  | cons x l ih => intro m hl hm h; cases m with
    | nil => simp [Lib.bytesOf] at h
    | cons y m =>
      simp only [Lib.bytesOf, List.map_cons, List.cons.injEq] at h
      have e1 := ih m (fun z hz => hl z (by simp [hz])) (fun z hz => hm z (by simp [hz])) h.2
      have hx := hl x (by simp)
      have hy := hm y (by simp)
      unfold IsB at hx hy
      have e2 := congrArg UInt8.toNat h.1
      simp at e2
      have : x = y := by omega
      rw [this, e1]
theorem bytes_conv {w : World} {a : Option Addr} {cap k : Nat} {l : List Int} (h : Bytes w a l) (hk : l.length = k) : ∀ q : Nat, (convert 59 9 (.slice a k cap)).run Tryz.prog (w.drewN q) = .ok (.string (strOfNums l)) (w.drewN q) := by
  intro q
  by_cases hp : 0 < l.length
  · obtain ⟨b, off, rfl, hc⟩ := h.open_ hp
    exact run_convert_bytes_arg (w.drewN q) (P := Tryz.prog) 59 5 Tryz.underlying59 Tryz.underlying5 b off k cap l hk (fun i hi => hc i (by omega)) 9 Tryz.underlying9
  · obtain rfl : l = [] := List.eq_nil_of_length_eq_zero (by omega)
    simp at hk
    subst hk
    cases a with
    | none => exact run_convert_bytes_nil (w.drewN q) 59 5 Tryz.underlying59 Tryz.underlying5 0 cap 9 Tryz.underlying9
    | some a =>
      show (convert 59 9 (.slice (some a) 0 cap)).run Tryz.prog (w.drewN q) = _
      rw [run_convert_bytes_string (w.drewN q) 59 9 5 _ _ cap Tryz.underlying59 Tryz.underlying5 Tryz.underlying9, run_bytesToString (w.drewN q) a 0 cap [] (by simpa using run_loadCells_list (P := Tryz.prog) (w.drewN q) a [] (fun j v hj => by simp at hj))]
      rfl
theorem conv0 {w : World} {a : Option Addr} {cap k : Nat} {l : List Int} (h : Bytes w a l) (hk : l.length = k) : (convert 59 9 (.slice a k cap)).run Tryz.prog w = .ok (.string (strOfNums l)) w := bytes_conv h hk 0
theorem str_eq {l m : List Int} (hl : ∀ x ∈ l, IsB x) (hm : ∀ x ∈ m, IsB x) : ((strOfNums l).toList == (strOfNums m).toList) = decide (l = m) := by
  rw [Lib.strOfNums_toList, Lib.strOfNums_toList]
  by_cases h : l = m
  · subst h; simp
  · rw [decide_eq_false h, beq_eq_false_iff_ne]
    exact fun e => h (bytesOf_inj l m hl hm e)
set_option maxRecDepth 100000 in
theorem cutH_run (a : Option Addr) (len cap hi : Nat) (hh : hi ≤ cap) (W : World) : (Instr.slice 59 (.slice a len cap) none (some (.int .i64 hi)) none).run Tryz.prog W = .ok (.slice a hi cap) W := by
  have hz : (sizeOf 5).run Tryz.prog W = .ok 1 W := by kernel_rfl
  rw [run_slice_h (P := Tryz.prog) W 59 a len cap Tryz.underlying59 .i64 hi (by omega) (by omega)]
  have e : Tryz.prog.elem 59 = 5 := by kernel_rfl
  rw [e, hz]
  cases a <;> simp [sliced, Addr.add]
/-- A number of n bytes at a place of bytes. -/
def rdN (l : List Int) (p n : Nat) : Int := leOf ((l.drop p).take n)
theorem rdN_bd (l : List Int) (p n : Nat) (h : ∀ x ∈ l, IsB x) (hn : n ≤ 8) : 0 ≤ rdN l p n ∧ rdN l p n < 256 ^ n := by
  have hb := leOf_bd ((l.drop p).take n) (fun x hx => h x (List.mem_of_mem_drop (List.mem_of_mem_take hx)))
  refine ⟨hb.1, Int.lt_of_lt_of_le hb.2 ?_⟩
  have hle : ((l.drop p).take n).length ≤ n := by simp; omega
  have h3 : ((256 ^ ((l.drop p).take n).length : Nat) : Int) ≤ ((256 ^ n : Nat) : Int) := Int.ofNat_le.2 (Nat.pow_le_pow_right (by decide : 0 < 256) hle)
  rw [Int.natCast_pow, Int.natCast_pow] at h3
  exact h3
theorem le_at (w : World) (a : Option Addr) (n cap p k : Nat) (x y : Int) (l : List Int) (hx : x = p) (hy : y = k) (hl : l.length = n) (hc : n ≤ cap) (hn : n ≤ 1000000) (hk : k = 4 ∨ k = 8) (hp : p + k ≤ n) (h : Bytes w a l) :
    Calls Tryz.prog 62 #[.slice a n cap, .int .i64 x, .int .i64 y] w fun e w' => e = .returned (.tuple #[.int .u64 (rdN l p k), .int .i64 0]) ∧ ∃ q, w' = w.drewN q := by
  subst hx hy hl
  have hw : widB ((k : Nat) : Int) = true := by rcases hk with rfl | rfl <;> rfl
  have := numLe_any a cap l p k w (by unfold maxLen; omega) hc h
  obtain ⟨e1, e2, _⟩ := rd_yes l p k hw (by simp [insB]; omega)
  rw [e1, e2] at this
  simp only [cutOf, Int.toNat_natCast] at this
  exact this
theorem strW {X Y : List Int} {B : List UInt8} (hX : ∀ x ∈ X, IsB x) (hY : ∀ x ∈ Y, IsB x) (e : (strOfNums Y).toList = B) : (strOfNums X).toList = B ↔ X = Y := by
  have := str_eq hX hY
  rw [e] at this
  constructor
  · intro h
    rw [h] at this
    simpa using this.symm
  · intro h
    rw [h]; exact e
theorem supW_str : (strOfNums supW).toList = [85, 78, 68, 67, 82, 79, 70, 49] := by rw [Lib.strOfNums_toList]; rfl
end Go.Proofs.YtaplmlldmhdhoaaGreatDoor
