/- PaD, PbB, PbC, PbD, PbE in one text. -/
import Derived.Test.YtbfdkbdjipiliaaDoorPbA
import Derived.Test.YtbfdkbdjipiliaaDoorPaA
/- Parts of bytes; storing a cell. -/
namespace Go.Proofs.YtbfdkbdjipiliaaDoor
open Go.RowKit Go.Maps
set_option linter.unusedVariables false
theorem size5run (W : World) : (sizeOf 5).run Tryd.prog W = .ok 1 W := by kernel_rfl
theorem elemB : Tryd.prog.elem 27 = 5 := by kernel_rfl
theorem sliced_bytes {a : Option Addr} {n cap : Nat} (lo hi : Nat) (h1 : lo ≤ hi) (h2 : hi ≤ n) (hc : n ≤ cap) :
    ∃ a2, sliced a lo hi cap 1 = .slice a2 (hi - lo) (cap - lo) ∧ ∀ W l, l.length = n → Bytes W a l → Bytes W a2 ((l.drop lo).take (hi - lo)) := by
  refine ⟨_, rfl, fun W l hl h => ?_⟩
  by_cases h0 : lo = hi
  · subst h0
    simp
    exact Bytes.nil_ _ _
  · obtain ⟨b, off, rfl, _⟩ := h.open_ (by omega)
    rw [if_neg (by omega)]
    have e : (some (⟨b, off, none⟩ : Addr)).map (·.add (lo * 1)) = some ⟨b, off + lo, none⟩ := by
      simp only [Option.map_some, Nat.mul_one]
      unfold Addr.add
      split <;> simp_all
    rw [e]
    exact h.cut lo _
set_option maxRecDepth 100000 in
theorem cut_lh (a : Option Addr) (n cap p q : Nat) (h1 : p ≤ q) (h2 : q ≤ n) (hc : n ≤ cap) :
    ∃ a2, (∀ W, (Instr.slice 27 (.slice a n cap) (some (.int .i64 p)) (some (.int .i64 q)) none).run Tryd.prog W = .ok (.slice a2 (q - p) (cap - p)) W) ∧ ∀ W l, l.length = n → Bytes W a l → Bytes W a2 ((l.drop p).take (q - p)) := by
  obtain ⟨a2, e, hb⟩ := sliced_bytes (a := a) p q h1 h2 hc
  refine ⟨a2, fun W => ?_, hb⟩
  rw [run_slice_lh (P := Tryd.prog) W 27 a n cap Tryd.underlying27 .i64 .i64 p q (by omega) (by omega) (by omega), elemB, size5run]
  simp [e]
set_option maxRecDepth 100000 in
theorem cut_h (a : Option Addr) (n cap q : Nat) (h2 : q ≤ n) (hc : n ≤ cap) :
    ∃ a2, (∀ W, (Instr.slice 27 (.slice a n cap) none (some (.int .i64 q)) none).run Tryd.prog W = .ok (.slice a2 q cap) W) ∧ ∀ W l, l.length = n → Bytes W a l → Bytes W a2 (l.take q) := by
  obtain ⟨a2, e, hb⟩ := sliced_bytes (a := a) 0 q (by omega) h2 hc
  refine ⟨a2, fun W => ?_, fun W l hl h => by simpa using hb W l hl h⟩
  rw [run_slice_h (P := Tryd.prog) W 27 a n cap Tryd.underlying27 .i64 q (by omega) (by omega), elemB, size5run]
  simp [e]
set_option maxRecDepth 100000 in
theorem cut_l (a : Option Addr) (n cap p : Nat) (h2 : p ≤ n) (hc : n ≤ cap) :
    ∃ a2, (∀ W, (Instr.slice 27 (.slice a n cap) (some (.int .i64 p)) none none).run Tryd.prog W = .ok (.slice a2 (n - p) (cap - p)) W) ∧ ∀ W l, l.length = n → Bytes W a l → Bytes W a2 (l.drop p) := by
  obtain ⟨a2, e, hb⟩ := sliced_bytes (a := a) p n h2 (Nat.le_refl _) hc
  refine ⟨a2, fun W => ?_, fun W l hl h => ?_⟩
  · rw [run_slice_l (P := Tryd.prog) W 27 a n cap Tryd.underlying27 .i64 p (by omega) (by omega), elemB, size5run]
    simp [e]
  · have := hb W l hl h
    rwa [List.take_of_length_le (by simp; omega)] at this
theorem ex_store3 {o : Oper} {ev : Operand → Value} {W : World} (x y : Operand) (ho : o.op = .store 3 x y) (g k : Nat) (n : Int) (hx : ev x = .pointer (some ⟨g, k, none⟩)) (hy : ev y = .int .i64 n) {C : Array Value} {t : TypeId} (hg : W.heap[g]? = some (.cells C t (0, 0))) (hk : k < C.size) :
    (execOp ev o).run Tryd.prog W = .ok .skip (W.setCell ⟨g, k, none⟩ (.int .i64 n)) := by
  have c := cell_of hg (i := k) (v := C[k]) (by simp [hk])
  have f := froz_of hg k
  unfold execOp
  rw [ho]
  simp only [hx, hy]
  go_simp
theorem ex_store4 {o : Oper} {ev : Operand → Value} {W : World} (x y : Operand) (ho : o.op = .store 4 x y) (g k : Nat) (b : Bool) (hx : ev x = .pointer (some ⟨g, k, none⟩)) (hy : ev y = .bool b) {C : Array Value} {t : TypeId} (hg : W.heap[g]? = some (.cells C t (0, 0))) (hk : k < C.size) :
    (execOp ev o).run Tryd.prog W = .ok .skip (W.setCell ⟨g, k, none⟩ (.bool b)) := by
  have c := cell_of hg (i := k) (v := C[k]) (by simp [hk])
  have f := froz_of hg k
  unfold execOp
  rw [ho]
  simp only [hx, hy]
  go_simp
theorem ex_storeB {o : Oper} {ev : Operand → Value} {W : World} (x y : Operand) (ho : o.op = .store 27 x y) (g k : Nat) (a : Option Addr) (n c : Nat) (hx : ev x = .pointer (some ⟨g, k, none⟩)) (hy : ev y = .slice a n c) {C : Array Value} {t : TypeId} (hg : W.heap[g]? = some (.cells C t (0, 0))) (hk : k < C.size) :
    (execOp ev o).run Tryd.prog W = .ok .skip (W.setCell ⟨g, k, none⟩ (.slice a n c)) := by
  have c := cell_of hg (i := k) (v := C[k]) (by simp [hk])
  have f := froz_of hg k
  unfold execOp
  rw [ho]
  simp only [hx, hy]
  go_simp
theorem ex_store5 {o : Oper} {ev : Operand → Value} {W : World} (x y : Operand) (ho : o.op = .store 5 x y) (g k : Nat) (n : Int) (hx : ev x = .pointer (some ⟨g, k, none⟩)) (hy : ev y = .int .u8 n) {C : Array Value} {t : TypeId} (hg : W.heap[g]? = some (.cells C t (0, 0))) (hk : k < C.size) :
    (execOp ev o).run Tryd.prog W = .ok .skip (W.setCell ⟨g, k, none⟩ (.int .u8 n)) := by
  have c := cell_of hg (i := k) (v := C[k]) (by simp [hk])
  have f := froz_of hg k
  unfold execOp
  rw [ho]
  simp only [hx, hy]
  go_simp
end Go.Proofs.YtbfdkbdjipiliaaDoor

/- Package ip's parts: a packet in parts of n bytes. -/
namespace Go.Proofs.YtbfdkbdjipiliaaDoor
open Go.RowKit Go.Maps
set_option linter.unusedVariables false
/-- The part that begins at k times n. -/
def partAt (p : Pk) (n k : Nat) : Pk := { p with off := ((k * n : Nat) : Int), more := decide ((k + 1) * n < p.body.length), whole := false, body := (p.body.drop (k * n)).take n }
def partsL (p : Pk) (n K : Nat) : List Pk := (List.range K).map (partAt p n)
theorem partsL_snoc (p : Pk) (n K : Nat) : partsL p n (K + 1) = partsL p n K ++ [partAt p n K] := by simp [partsL, List.range_succ]
theorem partsL_len (p : Pk) (n K : Nat) : (partsL p n K).length = K := by simp [partsL]
def numP (len n : Nat) : Nat := (len + n - 1) / n
theorem numP_eq (len n k : Nat) (hn : 0 < n) (h1 : len ≤ k * n) (h2 : k = 0 ∨ (k - 1) * n < len) : numP len n = k := by
  unfold numP
  rcases h2 with rfl | h2
  · have : len = 0 := by simpa using h1
    subst this
    rw [Nat.zero_add]
    exact Nat.div_eq_of_lt (by omega)
  · by_cases hk : k = 0
    · subst hk; have : len = 0 := by simpa using h1
      omega
    · have e : k * n = (k - 1) * n + n := by
        have : k = (k - 1) + 1 := by omega
        rw [this, Nat.add_mul, Nat.one_mul]; simp
      refine Nat.div_eq_of_lt_le ?_ ?_
      · omega
      · rw [Nat.add_mul, Nat.one_mul]; omega
theorem step_mul (k n : Nat) : (k + 1) * n = k * n + n := by rw [Nat.add_mul, Nat.one_mul]
theorem le_mul_self (k n : Nat) (hn : 0 < n) : k ≤ k * n := Nat.le_mul_of_pos_right k hn
theorem drawn (w : World) (g : Nat) (o : Obj) (h : w.heap[g]? = some o) : w.drew.heap[g]? = some o := h
end Go.Proofs.YtbfdkbdjipiliaaDoor

/- Package ip's Cut. -/
namespace Go.Proofs.YtbfdkbdjipiliaaDoor
open Go.RowKit Go.Maps
set_option linter.unusedVariables false
def cutE (p : Pk) (mtu : Int) : Int := if mtu < 28 then 1 else if (decide (p.off = 0) && !p.more) = false then 15 else 0
def cutP (p : Pk) (mtu : Int) : List Pk :=
  if mtu < 28 then [] else if (decide (p.off = 0) && !p.more) = false then [] else if 20 + (p.body.length : Int) ≤ mtu then [{ p with whole := true }] else partsL p ((mtu - 20) / 8 * 8).toNat (numP p.body.length ((mtu - 20) / 8 * 8).toNat)
theorem PL.one (w : World) (t B : Nat) (W : World) (x : Px) (hx : By w (fun b => B ≤ b) x.a x.p.body) (hB : B ≤ w.heap.size) (hc : x.p.body.length ≤ x.c) (hW : W = w.alloc (.cells (pxV x).toArray t)) : PL W t B (.slice (some ⟨w.heap.size, 0, none⟩) 1 1) [x] := by
  subst hW
  have h1 : (w.alloc (.cells (pxV x).toArray t)).heap[w.heap.size]? = some (.cells (pxV x).toArray t (0, 0)) := alloc_new w _
  have hb : Below w.heap.size w (w.alloc (.cells (pxV x).toArray t)) := below_alloc (Below.refl _ _) (Nat.le_refl _) _
  refine ⟨⟨by rw [cellsPx_len], .inr ⟨w.heap.size, 0, 1, _, rfl, h1, by simp, by unfold maxLen; omega, by simp [pxV_len], fun j hj => ?_⟩⟩, fun b hb => ?_, fun y hy => ?_⟩
  · rw [Nat.zero_add]; simp [cellsPx]
  · simp [blkV] at hb; omega
  · obtain rfl : y = x := by simpa using hy
    refine ⟨?_, hc⟩
    have h2 := (hx.weak (S' := fun b => B ≤ b ∧ b < w.heap.size) (fun b h1 h2 => ⟨h1, h2⟩)).later hb
    exact h2.weak (fun b h _ => ⟨h.1, fun e => by simp [blkV] at e; have := h.2; omega⟩)
end Go.Proofs.YtbfdkbdjipiliaaDoor

/- The law's known. -/
namespace Go.Proofs.YtbfdkbdjipiliaaDoor
open Go.RowKit Go.Maps
set_option linter.unusedVariables false
theorem repl_getD (n i : Nat) : (List.replicate n (0 : Int)).getD i 0 = 0 := by
  simp only [List.getD, List.getElem?_replicate]; split <;> rfl
theorem get_map {L : List Px} {M : List Pk} (h : L.map Px.p = M) (i : Nat) (hi : i < L.length) (d : Pk) : (L.getD i default).p = M.getD i d := by
  rw [← h]; simp [List.getD, hi]
end Go.Proofs.YtbfdkbdjipiliaaDoor

/- Numbers that are read and put; what an echo is answered. -/
namespace Go.Proofs.YtbfdkbdjipiliaaDoor
open Go.RowKit Go.Maps
set_option linter.unusedVariables false
/-- The sum of the wire. -/
def inetL (l : List Int) : Int := 65535 - inetFold (wsum 0 l)
theorem inetL_bd (l : List Int) (h : ∀ x ∈ l, IsB x) : 0 ≤ inetL l ∧ inetL l ≤ 65535 := by
  have := inetFold_bd (wsum 0 l) (wsum_bd 0 l h).1
  unfold inetL; omega
theorem wsum_par (n : Nat) (l : List Int) : wsum (n + 2) l = wsum n l := by
  induction l generalizing n with
  | nil => rfl
  | cons x l ih =>
    have e : n + 2 + 1 = n + 1 + 2 := by omega
    simp only [wsum, Nat.add_mod_right]
    rw [e, ih (n + 1)]
theorem fitsB_all (k : Nat) (l : List Int) (h : ∀ v ∈ l, 0 ≤ v ∧ v < 256 ^ k) : fitsB k l = true := by
  unfold fitsB
  rw [List.all_eq_true]
  intro v hv
  obtain ⟨h0, h1⟩ := h v hv
  have : v / 256 ^ k = 0 := Int.ediv_eq_zero_of_lt h0 h1
  simp [fitB, this]
/-- num.PutBe of numbers that fit: bytes of one's own. -/
theorem putBeW (w : World) (a a2 : Option Addr) (n c k m cap : Nat) (b vs : List Int) (hn : b.length = n) (hm : vs.length = m) (hl : n ≤ 900000) (hml : m ≤ 1000) (hk : k = 1 ∨ k = 2 ∨ k = 4) (hv : ∀ v ∈ vs, 0 ≤ v ∧ v < 256 ^ k) (hb : Bytes w a b) (hw : Words w a2 vs) :
    Calls Tryd.prog 50 #[.slice a n c, .int .i64 k, .slice a2 m cap] w fun e w' => ∃ a3 c3, e = .returned (.tuple #[.slice a3 (n + k * m) c3, .int .i64 0]) ∧ GO w' w.heap.size (.slice a3 (n + k * m) c3) (outBe b k vs) ∧ Below w.heap.size w w' := by
  subst hn hm
  have hI : ∀ x ∈ outBe b k vs, IsB x := by
    intro x hx
    unfold outBe at hx
    rcases List.mem_append.1 hx with h | h
    · exact hb.isB x h
    · obtain ⟨v, _, hv⟩ := List.mem_flatMap.1 h
      exact be_isB k v x hv
  have key : ∀ w' : World, w'.rowIs w.heap.size 5 (b.length + k * vs.length) (fun i => .int .u8 ((outBe b k vs).getD i 0)) → GO w' w.heap.size (.slice (some ⟨w.heap.size, 0, none⟩) (b.length + k * vs.length) (b.length + k * vs.length)) (outBe b k vs) := fun w' ⟨cs, hh, hs, hc⟩ => by
    have hlen := outBe_len b k vs
    refine ⟨hI, ?_⟩
    rw [hlen]
    refine ⟨by simp [hlen], .inr ⟨w.heap.size, _, cs, rfl, Nat.le_refl _, hh, Nat.le_refl _, ?_, by omega, ?_⟩⟩
    · unfold maxLen; rcases hk with rfl | rfl | rfl <;> omega
    · apply List.ext_getElem?
      intro i
      by_cases hi : i < b.length + k * vs.length
      · rw [List.getElem?_take, if_pos (by omega), Array.getElem?_toList, hc i hi, u8s_get (by rw [hlen]; exact hi)]
      · rw [List.getElem?_eq_none (by rw [List.length_take]; omega), List.getElem?_eq_none (by simp [hlen]; omega)]
  rcases hk with rfl | rfl | rfl
  · refine (putBe_1 a a2 c cap b vs w (by omega) (by omega) hb hw (fitsB_all 1 vs hv)).mono ?_
    rintro e w' ⟨rfl, h1, h2, h3⟩
    exact ⟨_, _, rfl, key w' h3, h1⟩
  · refine (putBe_2 a a2 c cap b vs w (by omega) (by omega) hb hw (fitsB_all 2 vs hv)).mono ?_
    rintro e w' ⟨rfl, h1, h2, h3⟩
    exact ⟨_, _, rfl, key w' h3, h1⟩
  · refine (putBe_4 a a2 c cap b vs w (by omega) (by omega) hb hw (fitsB_all 4 vs hv)).mono ?_
    rintro e w' ⟨rfl, h1, h2, h3⟩
    exact ⟨_, _, rfl, key w' h3, h1⟩
/-- A row of words laid anew. -/
theorem words_new (w : World) (t : TypeId) (vs : List Int) (hv : ∀ v ∈ vs, 0 ≤ v ∧ v < 18446744073709551616) : Words (w.alloc (.cells (vs.map (Value.int .u64)).toArray t)) (some ⟨w.heap.size, 0, none⟩) vs := fun i hi => by
  have h1 := alloc_new w (.cells (vs.map (Value.int .u64)).toArray t)
  refine ⟨w.heap.size, 0, rfl, ?_, ?_⟩
  · rw [Nat.zero_add]
    exact cell_of h1 (by simp [List.getD, hi])
  · exact mem_getD vs IsW (fun v hx => hv v hx) i hi
theorem rows2 (w : World) (a1 a2 : Option Addr) (n1 n2 c1 c2 : Nat) (l1 l2 : List Int) (e1 : l1.length = n1) (e2 : l2.length = n2) (h1 : Bytes w a1 l1) (h2 : Bytes w a2 l2) :
    RowsOf (w.alloc (.cells #[.slice a1 n1 c1, .slice a2 n2 c2] 27)) (some ⟨w.heap.size, 0, none⟩) [l1, l2] := by
  have hb : Below w.heap.size w (w.alloc (.cells #[.slice a1 n1 c1, .slice a2 n2 c2] 27)) := below_alloc (Below.refl _ _) (Nat.le_refl _) _
  have h0 := alloc_new w (.cells #[.slice a1 n1 c1, .slice a2 n2 c2] 27)
  subst e1 e2
  intro i hi
  rcases (show i = 0 ∨ i = 1 by simp at hi; omega) with rfl | rfl
  · exact ⟨w.heap.size, 0, a1, c1, rfl, cell_of h0 rfl, h1.later hb⟩
  · exact ⟨w.heap.size, 0, a2, c2, rfl, cell_of h0 rfl, h2.later hb⟩
end Go.Proofs.YtbfdkbdjipiliaaDoor
