/- Packets: what one is, what stands for it in memory, and rows of them. -/
import Derived.Test.YteeakkpbpffohaaPaB
import Derived.Test.YteeakkpbpffohaaEcE
namespace Go.Proofs.Yteeakkpbpffohaa
open Go.RowKit Go.Maps
set_option linter.unusedVariables false

/-- An int of the machine. -/
def II (x : Int) : Prop := -9223372036854775808 ≤ x ∧ x ≤ 9223372036854775807
structure Pk where
  src : Int
  dst : Int
  proto : Int
  id : Int
  off : Int
  more : Bool
  whole : Bool
  ttl : Int
  body : List Int
def pk0 : Pk := ⟨0, 0, 0, 0, 0, false, false, 0, []⟩
instance : Inhabited Pk := ⟨pk0⟩
def Pk.ok (p : Pk) : Prop := IsU p.src ∧ IsU p.dst ∧ II p.proto ∧ II p.id ∧ II p.off ∧ II p.ttl ∧ ∀ x ∈ p.body, IsB x
abbrev pkC (s d pr i o : Int) (m h : Bool) (t : Int) (v : Value) : Array Value := #[.int .u32 s, .int .u32 d, .int .i64 pr, .int .i64 i, .int .i64 o, .bool m, .bool h, .int .i64 t, v]
abbrev pkV (p : Pk) (v : Value) : Array Value := pkC p.src p.dst p.proto p.id p.off p.more p.whole p.ttl v
theorem pkC_one (s d pr i o : Int) (m h : Bool) (t : Int) (v : Value) (hv : v.oneCell' = true) : (pkC s d pr i o m h t v).all (·.oneCell') = true := by
  have h1 : (pkC s d pr i o m h t v).all (·.oneCell') = (v.oneCell') := by simp [Value.oneCell']
  rw [h1, hv]
/-- The same, and where its bytes lie. -/
structure Px where
  p : Pk
  a : Option Addr
  c : Nat
instance : Inhabited Px := ⟨⟨pk0, none, 0⟩⟩
def pxV (x : Px) : List Value := [.int .u32 x.p.src, .int .u32 x.p.dst, .int .i64 x.p.proto, .int .i64 x.p.id, .int .i64 x.p.off, .bool x.p.more, .bool x.p.whole, .int .i64 x.p.ttl, .slice x.a x.p.body.length x.c]
theorem pxV_len (x : Px) : (pxV x).length = 9 := rfl
def cellsPx (L : List Px) : List Value := L.flatMap pxV
theorem flat_len {α : Type} (f : α → List Value) (s : Nat) (hf : ∀ x, (f x).length = s) (L : List α) : (L.flatMap f).length = L.length * s := by
  induction L with
  | nil => simp
  | cons x l ih => rw [List.flatMap_cons, List.length_append, hf, ih, List.length_cons, Nat.add_mul, Nat.one_mul, Nat.add_comm]
theorem flat_at {α : Type} (f : α → List Value) (s : Nat) (hf : ∀ x, (f x).length = s) (L : List α) (d : α) (i j : Nat) (hi : i < L.length) (hj : j < s) : (L.flatMap f)[i * s + j]? = (f (L.getD i d))[j]? := by
  induction L generalizing i with
  | nil => simp at hi
  | cons x l ih =>
    rw [List.flatMap_cons]
    cases i with
    | zero => rw [List.getElem?_append_left (by rw [hf]; omega)]; simp
    | succ i =>
      have e : (i + 1) * s + j = s + (i * s + j) := by rw [Nat.add_mul, Nat.one_mul]; omega
      rw [e, List.getElem?_append_right (by rw [hf]; omega), hf, Nat.add_sub_cancel_left, ih i (by simpa using hi)]
      simp
theorem cellsPx_len (L : List Px) : (cellsPx L).length = L.length * 9 := flat_len pxV 9 pxV_len L
theorem cellsPx_one (L : List Px) : ∀ u ∈ cellsPx L, u.oneCell' = true := by
  intro u hu
  obtain ⟨e, _, he⟩ := List.mem_flatMap.1 hu
  simp [pxV] at he
  rcases he with rfl | rfl | rfl | rfl | rfl | rfl | rfl | rfl | rfl <;> rfl
/-- A row of packets of type t: their bodies lie in blocks from B on, none in the row's own. -/
def PL (w : World) (t B : Nat) (v : Value) (L : List Px) : Prop :=
  RW w t 9 v L.length (cellsPx L) ∧ (∀ b, blkV v = some b → B ≤ b) ∧ ∀ x ∈ L, By w (fun b => B ≤ b ∧ blkV v ≠ some b) x.a x.p.body ∧ x.p.body.length ≤ x.c
section
variable {w w' : World} {t B : Nat} {v : Value} {L : List Px}
theorem PL.nil (w : World) (t B : Nat) : PL w t B (.slice none 0 0) [] := ⟨RW.nil w t 9, fun b hb => by simp [blkV] at hb, fun x hx => by simp at hx⟩
theorem PL.later (h : PL w t B v L) (hb : Below w.heap.size w w') : PL w' t B v L := ⟨h.1.later hb, h.2.1, fun x hx => ⟨(h.2.2 x hx).1.later hb, (h.2.2 x hx).2⟩⟩
theorem PL.keep (h : PL w t B v L) (hk : ∀ b, B ≤ b → b < w.heap.size → w'.heap[b]? = w.heap[b]?) : PL w' t B v L :=
  ⟨h.1.keep (fun b hb => hk b (h.2.1 b hb) (h.1.lt hb)), h.2.1, fun x hx => ⟨(h.2.2 x hx).1.keep (fun b hb hl => hk b hb.1 hl), (h.2.2 x hx).2⟩⟩
theorem PL.mono {B' : Nat} (h : PL w t B v L) (hB : B' ≤ B) : PL w t B' v L := ⟨h.1, fun b hb => Nat.le_trans hB (h.2.1 b hb), fun x hx => ⟨(h.2.2 x hx).1.weak (fun b hb _ => ⟨Nat.le_trans hB hb.1, hb.2⟩), (h.2.2 x hx).2⟩⟩
theorem PL.slice (h : PL w t B v L) : ∃ a c, v = .slice a L.length c := h.1.shape
theorem getD_memX {L : List Px} {i : Nat} (h : i < L.length) : L.getD i default ∈ L := by
  simp [List.getD, h]
theorem PL.at_ (h : PL w t B v L) {i : Nat} (hi : i < L.length) : ∃ b off cap, v = .slice (some ⟨b, off, none⟩) L.length cap ∧ L.length ≤ cap ∧ B ≤ b ∧ (∀ j u, (pxV (L.getD i default))[j]? = some u → w.cell? ⟨b, off + (i * 9 + j), none⟩ = some u) ∧ By w (fun x => B ≤ x) (L.getD i default).a (L.getD i default).p.body ∧ (L.getD i default).p.body.length ≤ (L.getD i default).c := by
  obtain ⟨b, off, cap, rfl, hc, hb, h1, _⟩ := h.1.at_ (by omega)
  obtain ⟨h2, h3⟩ := h.2.2 _ (getD_memX hi)
  refine ⟨b, off, cap, rfl, hc, h.2.1 b hb, fun j u hj => ?_, h2.weak (fun b hb _ => hb.1), h3⟩
  have hj2 : j < 9 := by have := (List.getElem?_eq_some_iff.1 hj).1; rw [pxV_len] at this; exact this
  exact h1 (i * 9 + j) u (by rw [cellsPx, flat_at pxV 9 pxV_len L default i j hi hj2]; exact hj)
end
/-- 'append' of a packet, at any type that is laid out as one. -/
theorem PL.push (w : World) (st ty t B : Nat) (hu : Try.prog.underlying st = some (.slice t)) (hinfo : (Try.prog.info? t).map (fun i => (i.zero, i.size, i.bytes)) = some (some (.agg #[.int .u32 0, .int .u32 0, .int .i64 0, .int .i64 0, .int .i64 0, .bool false, .bool false, .int .i64 0, .slice none 0 0]), 9, 72))
    (ht : t ≠ 5) (v : Value) (L : List Px) (h : PL w t B v L) (x : Px) (hB : B ≤ w.heap.size) (hx : By w (fun b => B ≤ b) x.a x.p.body) (hxc : x.p.body.length ≤ x.c) (hl : L.length ≤ 1000000) (ad : Addr) (cc : Nat) (hg : ∀ j u, (pxV x)[j]? = some u → w.cell? (ad.add j) = some u) :
    ∃ a c w', (Builtin.append_ #[st, st] ty #[v, .slice (some ad) 1 cc]).run Try.prog w = .ok (.slice a (L.length + 1) c) w' ∧ PL w' t B (.slice a (L.length + 1) c) (L ++ [x]) ∧ Mods (fun b => blkV v = some b) w w' := by
  obtain ⟨a, c, w', hr, hR, hm, hbk⟩ := RW.push w st ty t 9 72 _ hu hinfo rfl (by omega) (by omega) v L.length (cellsPx L) h.1 (pxV x) (pxV_len x) (fun u hu => cellsPx_one [x] u (by simpa [cellsPx] using hu)) hl ad cc hg
  have hxo : By w (fun b => B ≤ b ∧ blkV v ≠ some b) x.a x.p.body := ⟨hx.1, fun hp => by
    obtain ⟨b, off, cur, fr, ha, hs, hh, hc⟩ := hx.2 hp
    refine ⟨b, off, cur, fr, ha, ⟨hs, fun hb => ?_⟩, hh, hc⟩
    obtain ⟨cur', hk⟩ := h.1.kind hb
    rw [hh] at hk
    simp only [Option.some.injEq, Obj.cells.injEq] at hk
    exact ht hk.2.1.symm⟩
  refine ⟨a, c, w', hr, ⟨?_, fun b hb => ?_, fun y hy => ?_⟩, hm⟩
  · simp only [List.length_append, List.length_cons, List.length_nil, Nat.zero_add]
    have e : cellsPx (L ++ [x]) = cellsPx L ++ pxV x := by simp [cellsPx]
    rw [e]; exact hR
  · rcases hbk with e | ⟨z, hz, e⟩
    · exact h.2.1 b (by rw [← e]; exact hb)
    · rw [hb] at e; simp at e; omega
  · have key : ∀ (a0 : Option Addr) (l : List Int), By w (fun b => B ≤ b ∧ blkV v ≠ some b) a0 l → By w' (fun b => B ≤ b ∧ blkV (.slice a (L.length + 1) c) ≠ some b) a0 l := fun a0 l hb => by
      have hb1 := hb.weak (S' := fun b => B ≤ b ∧ blkV v ≠ some b ∧ b < w.heap.size) (fun b hb hl => ⟨hb.1, hb.2, hl⟩)
      have hb2 := hb1.keep (w' := w') (fun b hb hl => hm.block b hl hb.2.1)
      refine hb2.weak (fun b hb _ => ⟨hb.1, fun e2 => ?_⟩)
      rcases hbk with e | ⟨z, hz, e⟩
      · exact hb.2.1 (by rw [← e]; exact e2)
      · rw [e2] at e; simp at e; have := hb.2.2; omega
    rcases List.mem_append.1 hy with hy | hy
    · exact ⟨key _ _ (h.2.2 y hy).1, (h.2.2 y hy).2⟩
    · obtain rfl : y = x := by simpa using hy
      exact ⟨key _ _ hxo, hxc⟩
end Go.Proofs.Yteeakkpbpffohaa
