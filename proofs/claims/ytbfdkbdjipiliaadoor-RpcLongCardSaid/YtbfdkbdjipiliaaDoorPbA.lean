/- PaC, EcF, EcG, PbA in one text. -/
import Derived.Test.YtbfdkbdjipiliaaDoorPaB
import Derived.Test.YtbfdkbdjipiliaaDoorEcE
/- Packets: what one is, what stands for it in memory, and rows of them. -/
namespace Go.Proofs.YtbfdkbdjipiliaaDoor
open Go.RowKit Go.Maps
set_option linter.unusedVariables false

/-- An int of the machine. -/
def II (x : Int) : Prop := -9223372036854775808 ≤ x ∧ x ≤ 9223372036854775807
structure Pk where
  src : Int
  dst : Int
  proto : Int
  id : Int
  off : Int
  more : Bool
  whole : Bool
  ttl : Int
  body : List Int
def pk0 : Pk := ⟨0, 0, 0, 0, 0, false, false, 0, []⟩
instance : Inhabited Pk := ⟨pk0⟩
def Pk.ok (p : Pk) : Prop := IsU p.src ∧ IsU p.dst ∧ II p.proto ∧ II p.id ∧ II p.off ∧ II p.ttl ∧ ∀ x ∈ p.body, IsB x
abbrev pkC (s d pr i o : Int) (m h : Bool) (t : Int) (v : Value) : Array Value := #[.int .u32 s, .int .u32 d, .int .i64 pr, .int .i64 i, .int .i64 o, .bool m, .bool h, .int .i64 t, v]
abbrev pkV (p : Pk) (v : Value) : Array Value := pkC p.src p.dst p.proto p.id p.off p.more p.whole p.ttl v
theorem pkC_one (s d pr i o : Int) (m h : Bool) (t : Int) (v : Value) (hv : v.oneCell' = true) : (pkC s d pr i o m h t v).all (·.oneCell') = true := by
  have h1 : (pkC s d pr i o m h t v).all (·.oneCell') = (v.oneCell') := by simp [Value.oneCell']
  rw [h1, hv]
/-- The same, and where its bytes lie. -/
structure Px where
  p : Pk
  a : Option Addr
  c : Nat
instance : Inhabited Px := ⟨⟨pk0, none, 0⟩⟩
def pxV (x : Px) : List Value := [.int .u32 x.p.src, .int .u32 x.p.dst, .int .i64 x.p.proto, .int .i64 x.p.id, .int .i64 x.p.off, .bool x.p.more, .bool x.p.whole, .int .i64 x.p.ttl, .slice x.a x.p.body.length x.c]
theorem pxV_len (x : Px) : (pxV x).length = 9 := rfl
def cellsPx (L : List Px) : List Value := L.flatMap pxV
theorem flat_len {α : Type} (f : α → List Value) (s : Nat) (hf : ∀ x, (f x).length = s) (L : List α) : (L.flatMap f).length = L.length * s := by
  induction L with
  | nil => simp
  | cons x l ih => rw [List.flatMap_cons, List.length_append, hf, ih, List.length_cons, Nat.add_mul, Nat.one_mul, Nat.add_comm]
theorem flat_at {α : Type} (f : α → List Value) (s : Nat) (hf : ∀ x, (f x).length = s) (L : List α) (d : α) (i j : Nat) (hi : i < L.length) (hj : j < s) : (L.flatMap f)[i * s + j]? = (f (L.getD i d))[j]? := by
  induction L generalizing i with
  | nil => simp at hi
  | cons x l ih =>
    rw [List.flatMap_cons]
    cases i with
    | zero => rw [List.getElem?_append_left (by rw [hf]; omega)]; simp
    | succ i =>
      have e : (i + 1) * s + j = s + (i * s + j) := by rw [Nat.add_mul, Nat.one_mul]; omega
      rw [e, List.getElem?_append_right (by rw [hf]; omega), hf, Nat.add_sub_cancel_left, ih i (by simpa using hi)]
      simp
theorem cellsPx_len (L : List Px) : (cellsPx L).length = L.length * 9 := flat_len pxV 9 pxV_len L
theorem cellsPx_one (L : List Px) : ∀ u ∈ cellsPx L, u.oneCell' = true := by
  intro u hu
  obtain ⟨e, _, he⟩ := List.mem_flatMap.1 hu
  simp [pxV] at he
  rcases he with rfl | rfl | rfl | rfl | rfl | rfl | rfl | rfl | rfl <;> rfl
/-- A row of packets of type t: their bodies lie in blocks from B on, none in the row's own. -/
def PL (w : World) (t B : Nat) (v : Value) (L : List Px) : Prop :=
  RW w t 9 v L.length (cellsPx L) ∧ (∀ b, blkV v = some b → B ≤ b) ∧ ∀ x ∈ L, By w (fun b => B ≤ b ∧ blkV v ≠ some b) x.a x.p.body ∧ x.p.body.length ≤ x.c
section
variable {w w' : World} {t B : Nat} {v : Value} {L : List Px}
theorem PL.nil (w : World) (t B : Nat) : PL w t B (.slice none 0 0) [] := ⟨RW.nil w t 9, fun b hb => by simp [blkV] at hb, fun x hx => by simp at hx⟩
theorem PL.later (h : PL w t B v L) (hb : Below w.heap.size w w') : PL w' t B v L := ⟨h.1.later hb, h.2.1, fun x hx => ⟨(h.2.2 x hx).1.later hb, (h.2.2 x hx).2⟩⟩
theorem PL.keep (h : PL w t B v L) (hk : ∀ b, B ≤ b → b < w.heap.size → w'.heap[b]? = w.heap[b]?) : PL w' t B v L :=
  ⟨h.1.keep (fun b hb => hk b (h.2.1 b hb) (h.1.lt hb)), h.2.1, fun x hx => ⟨(h.2.2 x hx).1.keep (fun b hb hl => hk b hb.1 hl), (h.2.2 x hx).2⟩⟩
theorem PL.mono {B' : Nat} (h : PL w t B v L) (hB : B' ≤ B) : PL w t B' v L := ⟨h.1, fun b hb => Nat.le_trans hB (h.2.1 b hb), fun x hx => ⟨(h.2.2 x hx).1.weak (fun b hb _ => ⟨Nat.le_trans hB hb.1, hb.2⟩), (h.2.2 x hx).2⟩⟩
theorem PL.slice (h : PL w t B v L) : ∃ a c, v = .slice a L.length c := h.1.shape
theorem getD_memX {L : List Px} {i : Nat} (h : i < L.length) : L.getD i default ∈ L := by
  simp [List.getD, h]
theorem PL.at_ (h : PL w t B v L) {i : Nat} (hi : i < L.length) : ∃ b off cap, v = .slice (some ⟨b, off, none⟩) L.length cap ∧ L.length ≤ cap ∧ B ≤ b ∧ (∀ j u, (pxV (L.getD i default))[j]? = some u → w.cell? ⟨b, off + (i * 9 + j), none⟩ = some u) ∧ By w (fun x => B ≤ x) (L.getD i default).a (L.getD i default).p.body ∧ (L.getD i default).p.body.length ≤ (L.getD i default).c := by
  obtain ⟨b, off, cap, rfl, hc, hb, h1, _⟩ := h.1.at_ (by omega)
  obtain ⟨h2, h3⟩ := h.2.2 _ (getD_memX hi)
  refine ⟨b, off, cap, rfl, hc, h.2.1 b hb, fun j u hj => ?_, h2.weak (fun b hb _ => hb.1), h3⟩
  have hj2 : j < 9 := by have := (List.getElem?_eq_some_iff.1 hj).1; rw [pxV_len] at this; exact this
  exact h1 (i * 9 + j) u (by rw [cellsPx, flat_at pxV 9 pxV_len L default i j hi hj2]; exact hj)
end
/-- 'append' of a packet, at any type that is laid out as one. -/
theorem PL.push (w : World) (st ty t B : Nat) (hu : Tryd.prog.underlying st = some (.slice t)) (hinfo : (Tryd.prog.info? t).map (fun i => (i.zero, i.size, i.bytes)) = some (some (.agg #[.int .u32 0, .int .u32 0, .int .i64 0, .int .i64 0, .int .i64 0, .bool false, .bool false, .int .i64 0, .slice none 0 0]), 9, 72))
    (ht : t ≠ 5) (v : Value) (L : List Px) (h : PL w t B v L) (x : Px) (hB : B ≤ w.heap.size) (hx : By w (fun b => B ≤ b) x.a x.p.body) (hxc : x.p.body.length ≤ x.c) (hl : L.length ≤ 1000000) (ad : Addr) (cc : Nat) (hg : ∀ j u, (pxV x)[j]? = some u → w.cell? (ad.add j) = some u) :
    ∃ a c w', (Builtin.append_ #[st, st] ty #[v, .slice (some ad) 1 cc]).run Tryd.prog w = .ok (.slice a (L.length + 1) c) w' ∧ PL w' t B (.slice a (L.length + 1) c) (L ++ [x]) ∧ Mods (fun b => blkV v = some b) w w' := by
  obtain ⟨a, c, w', hr, hR, hm, hbk⟩ := RW.push w st ty t 9 72 _ hu hinfo rfl (by omega) (by omega) v L.length (cellsPx L) h.1 (pxV x) (pxV_len x) (fun u hu => cellsPx_one [x] u (by simpa [cellsPx] using hu)) hl ad cc hg
  have hxo : By w (fun b => B ≤ b ∧ blkV v ≠ some b) x.a x.p.body := ⟨hx.1, fun hp => by
    obtain ⟨b, off, cur, fr, ha, hs, hh, hc⟩ := hx.2 hp
    refine ⟨b, off, cur, fr, ha, ⟨hs, fun hb => ?_⟩, hh, hc⟩
    obtain ⟨cur', hk⟩ := h.1.kind hb
    rw [hh] at hk
    simp only [Option.some.injEq, Obj.cells.injEq] at hk
    exact ht hk.2.1.symm⟩
  refine ⟨a, c, w', hr, ⟨?_, fun b hb => ?_, fun y hy => ?_⟩, hm⟩
  · simp only [List.length_append, List.length_cons, List.length_nil, Nat.zero_add]
    have e : cellsPx (L ++ [x]) = cellsPx L ++ pxV x := by simp [cellsPx]
    rw [e]; exact hR
  · rcases hbk with e | ⟨z, hz, e⟩
    · exact h.2.1 b (by rw [← e]; exact hb)
    · rw [hb] at e; simp at e; omega
  · have key : ∀ (a0 : Option Addr) (l : List Int), By w (fun b => B ≤ b ∧ blkV v ≠ some b) a0 l → By w' (fun b => B ≤ b ∧ blkV (.slice a (L.length + 1) c) ≠ some b) a0 l := fun a0 l hb => by
      have hb1 := hb.weak (S' := fun b => B ≤ b ∧ blkV v ≠ some b ∧ b < w.heap.size) (fun b hb hl => ⟨hb.1, hb.2, hl⟩)
      have hb2 := hb1.keep (w' := w') (fun b hb hl => hm.block b hl hb.2.1)
      refine hb2.weak (fun b hb _ => ⟨hb.1, fun e2 => ?_⟩)
      rcases hbk with e | ⟨z, hz, e⟩
      · exact hb.2.1 (by rw [← e]; exact e2)
      · rw [e2] at e; simp at e; have := hb.2.2; omega
    rcases List.mem_append.1 hy with hy | hy
    · exact ⟨key _ _ (h.2.2 y hy).1, (h.2.2 y hy).2⟩
    · obtain rfl : y = x := by simpa using hy
      exact ⟨key _ _ hxo, hxc⟩
end Go.Proofs.YtbfdkbdjipiliaaDoor

/- Hosts as bytes. -/
namespace Go.Proofs.YtbfdkbdjipiliaaDoor
open Go.RowKit Go.Maps
set_option linter.unusedVariables false

theorem fits_one (k v : Int) (h : v / 256 ^ k.toNat = 0) : fitsB k [v] = true := by simp [fitsB, fitB, h]
/-- num.PutBe of one number that fits. -/
theorem putBe1 (w : World) (a : Option Addr) (n c k g cap : Nat) (b : List Int) (v : Int) (hn : b.length = n) (hl : n ≤ 900000) (hk : k = 2 ∨ k = 4) (hv : 0 ≤ v ∧ v < 256 ^ k) (hb : Bytes w a b) (hg : w.cell? ⟨g, 0, none⟩ = some (.int .u64 v)) :
    Calls Tryd.prog 50 #[.slice a n c, .int .i64 k, .slice (some ⟨g, 0, none⟩) 1 cap] w fun e w' => ∃ a2 c2, e = .returned (.tuple #[.slice a2 (n + k) c2, .int .i64 0]) ∧ By w' (New w) a2 (b ++ bytesBe k v) ∧ n + k ≤ c2 ∧ Below w.heap.size w w' := by
  subst hn
  have hv64 : v < 18446744073709551616 := by rcases hk with rfl | rfl <;> omega
  have hW : Words w (some ⟨g, 0, none⟩) [v] := fun i hi => by
    obtain rfl : i = 0 := by simp at hi; omega
    exact ⟨g, 0, rfl, hg, hv.1, hv64⟩
  have hI : ∀ x ∈ outBe b k [v], IsB x := by
    rw [outBe_uno]; intro x hx
    rcases List.mem_append.1 hx with h | h
    · exact hb.isB x h
    · exact be_isB k v x h
  rcases hk with rfl | rfl
  · refine (putBe_2 a (some ⟨g, 0, none⟩) c cap b [v] w (by omega) (by simp) hb hW (fits_one 2 v (by simp; omega))).mono ?_
    rintro e w' ⟨rfl, h1, h2, h3⟩
    have h4 := By.of_row (S := New w) h3 (Nat.le_refl _) hI (by rw [outBe_len]; exact Nat.le_refl _)
    rw [outBe_uno] at h4
    exact ⟨_, _, rfl, h4, Nat.le_refl _, h1⟩
  · refine (putBe_4 a (some ⟨g, 0, none⟩) c cap b [v] w (by omega) (by simp) hb hW (fits_one 4 v (by simp; omega))).mono ?_
    rintro e w' ⟨rfl, h1, h2, h3⟩
    have h4 := By.of_row (S := New w) h3 (Nat.le_refl _) hI (by rw [outBe_len]; exact Nat.le_refl _)
    rw [outBe_uno] at h4
    exact ⟨_, _, rfl, h4, Nat.le_refl _, h1⟩
theorem mac_bytes {w : World} {b o : Nat} {m : Mac} (hm : m.ok) (h : ∀ i, i < 6 → w.cell? ⟨b, o + i, none⟩ = some (.int .u8 (m.l.getD i 0))) : Bytes w (some ⟨b, o, none⟩) m.l := Bytes.mk_ hm (fun i hi => h i hi)
end Go.Proofs.YtbfdkbdjipiliaaDoor

/- Messages as bytes. -/
namespace Go.Proofs.YtbfdkbdjipiliaaDoor
open Go.RowKit Go.Maps
set_option linter.unusedVariables false

/-- The bytes of a message. -/
def arpL (op : Int) (m1 : Mac) (i1 : Int) (m2 : Mac) (i2 : Int) : List Int := headM.l ++ bytesBe 2 op ++ (m1.l ++ bytesBe 4 i1) ++ (m2.l ++ bytesBe 4 i2)
theorem arp_flat (op : Int) (m1 : Mac) (i1 : Int) (m2 : Mac) (i2 : Int) : [headM.l ++ bytesBe 2 op, m1.l ++ bytesBe 4 i1, m2.l ++ bytesBe 4 i2].flatten = arpL op m1 i1 m2 i2 := by simp [arpL]
theorem arpL_len (op : Int) (m1 : Mac) (i1 : Int) (m2 : Mac) (i2 : Int) : (arpL op m1 i1 m2 i2).length = 28 := by simp [arpL, len_be, Mac.len]
theorem headM_ok : headM.ok := by intro x hx; simp [headM, Mac.l] at hx; unfold IsB; omega
theorem rng {w : World} {b : Nat} {C : Array Value} {t : TypeId} (hb : w.heap[b]? = some (.cells C t (0, 0))) (o : Nat) (cs : List Value) (h : ∀ j, j < cs.length → C[o + j]? = cs[j]?) : w.rangeAt b o cs := fun j v hv => by
  have hj : j < cs.length := (List.getElem?_eq_some_iff.1 hv).1
  exact cell_of hb (by rw [h j hj]; exact hv)
theorem range7 {C : Array Value} {o : Nat} {x0 x1 x2 x3 x4 x5 x6 : Value} (h0 : C[o + 0]? = some x0) (h1 : C[o + 1]? = some x1) (h2 : C[o + 2]? = some x2) (h3 : C[o + 3]? = some x3) (h4 : C[o + 4]? = some x4) (h5 : C[o + 5]? = some x5) (h6 : C[o + 6]? = some x6) :
    ∀ j, j < [x0, x1, x2, x3, x4, x5, x6].length → C[o + j]? = [x0, x1, x2, x3, x4, x5, x6][j]? := fun j hj => by
  simp at hj
  rcases (show j = 0 ∨ j = 1 ∨ j = 2 ∨ j = 3 ∨ j = 4 ∨ j = 5 ∨ j = 6 by omega) with rfl | rfl | rfl | rfl | rfl | rfl | rfl <;> assumption
theorem range6 {C : Array Value} {o : Nat} {x0 x1 x2 x3 x4 x5 : Value} (h0 : C[o + 0]? = some x0) (h1 : C[o + 1]? = some x1) (h2 : C[o + 2]? = some x2) (h3 : C[o + 3]? = some x3) (h4 : C[o + 4]? = some x4) (h5 : C[o + 5]? = some x5) :
    ∀ j, j < [x0, x1, x2, x3, x4, x5].length → C[o + j]? = [x0, x1, x2, x3, x4, x5][j]? := fun j hj => by
  simp at hj
  rcases (show j = 0 ∨ j = 1 ∨ j = 2 ∨ j = 3 ∨ j = 4 ∨ j = 5 by omega) with rfl | rfl | rfl | rfl | rfl | rfl <;> assumption
theorem ex_mid {o : Oper} {ev : Operand → Value} {W : World} (ty : TypeId) (x : Operand) (ho : o.op = .load ty x) (b off : Nat) (hx : ev x = .pointer (some ⟨b, off, none⟩)) (cs : List Value) (hc : W.rangeAt b off cs) (d : TypeDesc)
    (hu : Tryd.prog.underlying ty = some d) (hd : d.isRow = true) (hi : (Tryd.prog.info? ty).map (·.size) = some cs.length) : (execOp ev o).run Tryd.prog W = .ok (.value (.agg cs.toArray)) W := by
  unfold execOp
  simp only [ho, hx, Instr.loadAt, Instr.sureAddr, Sem.run_bind, Sem.run_pure, Result.andThen_ok, run_loadVar_mid W b off ty cs d hc hu hd hi]
theorem rows3 (w : World) (a1 a2 a3 : Option Addr) (n1 n2 n3 c1 c2 c3 : Nat) (l1 l2 l3 : List Int) (e1 : l1.length = n1) (e2 : l2.length = n2) (e3 : l3.length = n3) (h1 : Bytes w a1 l1) (h2 : Bytes w a2 l2) (h3 : Bytes w a3 l3) :
    RowsOf (w.alloc (.cells #[.slice a1 n1 c1, .slice a2 n2 c2, .slice a3 n3 c3] 27)) (some ⟨w.heap.size, 0, none⟩) [l1, l2, l3] := by
  subst e1 e2 e3
  have hb : Below w.heap.size w (w.alloc (.cells #[.slice a1 l1.length c1, .slice a2 l2.length c2, .slice a3 l3.length c3] 27)) := (Below.refl _ _).alloc (Nat.le_refl _) _
  intro i hi
  simp at hi
  rcases (show i = 0 ∨ i = 1 ∨ i = 2 by omega) with rfl | rfl | rfl
  · exact ⟨_, 0, a1, c1, rfl, by rw [Nat.zero_add, new_cell _ _ _ _ 0 (by simp)]; rfl, h1.later hb⟩
  · exact ⟨_, 0, a2, c2, rfl, by rw [Nat.zero_add, new_cell _ _ _ _ 1 (by simp)]; rfl, h2.later hb⟩
  · exact ⟨_, 0, a3, c3, rfl, by rw [Nat.zero_add, new_cell _ _ _ _ 2 (by simp)]; rfl, h3.later hb⟩
end Go.Proofs.YtbfdkbdjipiliaaDoor

/- The small functions of package ip: isWhole, whole. -/
namespace Go.Proofs.YtbfdkbdjipiliaaDoor
open Go.RowKit Go.Maps
set_option linter.unusedVariables false

/-- A packet in a box of the call's own. -/
theorem boxP (w : World) (M : Array Value) (t : TypeId) : ∃ W1, W1 = w.alloc (.cells M t) ∧ W1.heap[w.heap.size]? = some (.cells M t (0, 0)) ∧ Below w.heap.size w W1 :=
  ⟨_, rfl, alloc_new w _, below_alloc (Below.refl _ _) (Nat.le_refl _) _⟩
/-- bytes.Clone of any bytes, or of nil. -/
theorem Clone_all (w : World) (a : Option Addr) (n c : Nat) (l : List Int) (hn : l.length = n) (hl : n ≤ 900000) (hb : Bytes w a l) :
    Calls Tryd.prog 25 #[.slice a n c] w fun e w' => ∃ a2 c2, e = .returned (.slice a2 n c2) ∧ By w' (New w) a2 l ∧ n ≤ c2 ∧ Below w.heap.size w w' := by
  cases a with
  | some ad => exact Clone_y w ad n c l hn hl hb
  | none =>
    obtain rfl : l = [] := by
      cases l with
      | nil => rfl
      | cons x l => obtain ⟨b, off, ha, _⟩ := hb.open_ (by simp); simp at ha
    obtain rfl : n = 0 := by simpa using hn.symm
    have qT : ∀ (w : World) (a : Option Addr) (n c n' c' : Nat), (binOp .eql 27 (.slice a n c) (.slice none n' c')).run Tryd.prog w = .ok (.bool a.isNone) w := fun w a n c n' c' => Lib.run_eql_slice_nil w _ _ a n c n' c' Tryd.underlying27
    clear hb
    go_enter Tryd.func25, Tryd.ntmps25
    go_wp2
    go_ret
    exact ⟨none, 0, rfl, By.nil _ _ _, Nat.le_refl _, Below.refl _ _⟩
/-- A cell of a block is stored. -/
theorem setP {w : World} {g : Nat} {C : Array Value} {t : TypeId} (h : w.heap[g]? = some (.cells C t (0, 0))) (k : Nat) (v : Value) (B : Nat) (w0 : World) (hb : Below B w0 w) (hB : B ≤ g) :
    ∃ W, W = w.setCell ⟨g, k, none⟩ v ∧ W.heap[g]? = some (.cells (C.setIfInBounds k v) t (0, 0)) ∧ Below B w0 W ∧ (∀ b, b ≠ g → W.heap[b]? = w.heap[b]?) ∧ W.heap.size = w.heap.size := by
  refine ⟨_, rfl, setc h k v, ?_, fun b hb => ?_, by simp [World.setCell]⟩
  · exact ((Mods.refl (fun b => b = g) w).setCell g k v rfl).to_below hb (by have := (Array.getElem?_eq_some_iff.1 h).1; omega) (fun b hb => by rw [hb]; exact hB)
  · simp [World.setCell, Array.getElem?_modify, Ne.symm hb]
end Go.Proofs.YtbfdkbdjipiliaaDoor
