/- Rows of segments, and where their bytes lie. -/
import Derived.Test.YtmmijbiapflneaaTbB
namespace Go.Proofs.Ytmmijbiapflneaa
open Go.RowKit Go.Maps
set_option linter.unusedVariables false

def sg0 : Sg := ⟨0, 0, 0, 0, 0, 0, 0, []⟩
instance : Inhabited Sg := ⟨sg0⟩
/-- The same, and where its bytes lie. -/
structure Sx where
  p : Sg
  a : Option Addr
  c : Nat
instance : Inhabited Sx := ⟨⟨sg0, none, 0⟩⟩
def sxV (x : Sx) : List Value := [.int .i64 x.p.fr, .int .i64 x.p.to_, .int .u32 x.p.seq, .int .u32 x.p.ack, .int .i64 x.p.fl, .int .i64 x.p.win, .int .i64 x.p.mss, .slice x.a x.p.dat.length x.c]
theorem sxV_len (x : Sx) : (sxV x).length = 8 := rfl
def cellsSx (L : List Sx) : List Value := L.flatMap sxV
theorem cellsSx_len (L : List Sx) : (cellsSx L).length = L.length * 8 := flat_len sxV 8 sxV_len L
theorem cellsSx_one (L : List Sx) : ∀ u ∈ cellsSx L, u.oneCell' = true := by
  intro u hu
  obtain ⟨e, _, he⟩ := List.mem_flatMap.1 hu
  simp [sxV] at he
  rcases he with rfl | rfl | rfl | rfl | rfl | rfl | rfl | rfl <;> rfl
/-- A row of segments of type t: their bodies lie in blocks from B on, none in the row's own. -/
def SL (w : World) (t B : Nat) (v : Value) (L : List Sx) : Prop :=
  RW w t 8 v L.length (cellsSx L) ∧ (∀ b, blkV v = some b → B ≤ b) ∧ ∀ x ∈ L, By w (fun b => B ≤ b ∧ blkV v ≠ some b) x.a x.p.dat ∧ x.p.dat.length ≤ x.c
section
variable {w w' : World} {t B : Nat} {v : Value} {L : List Sx}
theorem SL.nil (w : World) (t B : Nat) : SL w t B (.slice none 0 0) [] := ⟨RW.nil w t 8, fun b hb => by simp [blkV] at hb, fun x hx => by simp at hx⟩
theorem SL.later (h : SL w t B v L) (hb : Below w.heap.size w w') : SL w' t B v L := ⟨h.1.later hb, h.2.1, fun x hx => ⟨(h.2.2 x hx).1.later hb, (h.2.2 x hx).2⟩⟩
theorem SL.keep (h : SL w t B v L) (hk : ∀ b, B ≤ b → b < w.heap.size → w'.heap[b]? = w.heap[b]?) : SL w' t B v L :=
  ⟨h.1.keep (fun b hb => hk b (h.2.1 b hb) (h.1.lt hb)), h.2.1, fun x hx => ⟨(h.2.2 x hx).1.keep (fun b hb hl => hk b hb.1 hl), (h.2.2 x hx).2⟩⟩
theorem SL.mono {B' : Nat} (h : SL w t B v L) (hB : B' ≤ B) : SL w t B' v L := ⟨h.1, fun b hb => Nat.le_trans hB (h.2.1 b hb), fun x hx => ⟨(h.2.2 x hx).1.weak (fun b hb _ => ⟨Nat.le_trans hB hb.1, hb.2⟩), (h.2.2 x hx).2⟩⟩
theorem SL.slice (h : SL w t B v L) : ∃ a c, v = .slice a L.length c := h.1.shape
theorem getD_memS {L : List Sx} {i : Nat} (h : i < L.length) : L.getD i default ∈ L := by
  simp [List.getD, h]
theorem SL.at_ (h : SL w t B v L) {i : Nat} (hi : i < L.length) : ∃ b off cap, v = .slice (some ⟨b, off, none⟩) L.length cap ∧ L.length ≤ cap ∧ B ≤ b ∧ (∀ j u, (sxV (L.getD i default))[j]? = some u → w.cell? ⟨b, off + (i * 8 + j), none⟩ = some u) ∧ By w (fun x => B ≤ x) (L.getD i default).a (L.getD i default).p.dat ∧ (L.getD i default).p.dat.length ≤ (L.getD i default).c := by
  obtain ⟨b, off, cap, rfl, hc, hb, h1, _⟩ := h.1.at_ (by omega)
  obtain ⟨h2, h3⟩ := h.2.2 _ (getD_memS hi)
  refine ⟨b, off, cap, rfl, hc, h.2.1 b hb, fun j u hj => ?_, h2.weak (fun b hb _ => hb.1), h3⟩
  have hj2 : j < 8 := by have := (List.getElem?_eq_some_iff.1 hj).1; rw [sxV_len] at this; exact this
  exact h1 (i * 8 + j) u (by rw [cellsSx, flat_at sxV 8 sxV_len L default i j hi hj2]; exact hj)
end
theorem infoSG : (Try.prog.info? 30).map (fun i => (i.zero, i.size, i.bytes)) = some (some (.agg #[.int .i64 0, .int .i64 0, .int .u32 0, .int .u32 0, .int .i64 0, .int .i64 0, .int .i64 0, .slice none 0 0]), 8, 72) := by kernel_rfl
/-- 'append' of a segment, at any type that is laid out as one. -/
theorem SL.push (w : World) (st ty t B : Nat) (hu : Try.prog.underlying st = some (.slice t)) (hinfo : (Try.prog.info? t).map (fun i => (i.zero, i.size, i.bytes)) = some (some (.agg #[.int .i64 0, .int .i64 0, .int .u32 0, .int .u32 0, .int .i64 0, .int .i64 0, .int .i64 0, .slice none 0 0]), 8, 72))
    (ht : t ≠ 5) (v : Value) (L : List Sx) (h : SL w t B v L) (x : Sx) (hB : B ≤ w.heap.size) (hx : By w (fun b => B ≤ b) x.a x.p.dat) (hxc : x.p.dat.length ≤ x.c) (hl : L.length ≤ 1000000) (ad : Addr) (cc : Nat) (hg : ∀ j u, (sxV x)[j]? = some u → w.cell? (ad.add j) = some u) :
    ∃ a c w', (Builtin.append_ #[st, st] ty #[v, .slice (some ad) 1 cc]).run Try.prog w = .ok (.slice a (L.length + 1) c) w' ∧ SL w' t B (.slice a (L.length + 1) c) (L ++ [x]) ∧ Mods (fun b => blkV v = some b) w w' := by
  obtain ⟨a, c, w', hr, hR, hm, hbk⟩ := RW.push w st ty t 8 72 _ hu hinfo rfl (by omega) (by omega) v L.length (cellsSx L) h.1 (sxV x) (sxV_len x) (fun u hu => cellsSx_one [x] u (by simpa [cellsSx] using hu)) hl ad cc hg
  have hxo : By w (fun b => B ≤ b ∧ blkV v ≠ some b) x.a x.p.dat := ⟨hx.1, fun hp => by
    obtain ⟨b, off, cur, fr, ha, hs, hh, hc⟩ := hx.2 hp
    refine ⟨b, off, cur, fr, ha, ⟨hs, fun hb => ?_⟩, hh, hc⟩
    obtain ⟨cur', hk⟩ := h.1.kind hb
    rw [hh] at hk
    simp only [Option.some.injEq, Obj.cells.injEq] at hk
    exact ht hk.2.1.symm⟩
  refine ⟨a, c, w', hr, ⟨?_, fun b hb => ?_, fun y hy => ?_⟩, hm⟩
  · simp only [List.length_append, List.length_cons, List.length_nil, Nat.zero_add]
    have e : cellsSx (L ++ [x]) = cellsSx L ++ sxV x := by simp [cellsSx]
    rw [e]; exact hR
  · rcases hbk with e | ⟨z, hz, e⟩
    · exact h.2.1 b (by rw [← e]; exact hb)
    · rw [hb] at e; simp at e; omega
  · have key : ∀ (a0 : Option Addr) (l : List Int), By w (fun b => B ≤ b ∧ blkV v ≠ some b) a0 l → By w' (fun b => B ≤ b ∧ blkV (.slice a (L.length + 1) c) ≠ some b) a0 l := fun a0 l hb => by
      have hb1 := hb.weak (S' := fun b => B ≤ b ∧ blkV v ≠ some b ∧ b < w.heap.size) (fun b hb hl => ⟨hb.1, hb.2, hl⟩)
      have hb2 := hb1.keep (w' := w') (fun b hb hl => hm.block b hl hb.2.1)
      refine hb2.weak (fun b hb _ => ⟨hb.1, fun e2 => ?_⟩)
      rcases hbk with e | ⟨z, hz, e⟩
      · exact hb.2.1 (by rw [← e]; exact e2)
      · rw [e2] at e; simp at e; have := hb.2.2; omega
    rcases List.mem_append.1 hy with hy | hy
    · exact ⟨key _ _ (h.2.2 y hy).1, (h.2.2 y hy).2⟩
    · obtain rfl : y = x := by simpa using hy
      exact ⟨key _ _ hxo, hxc⟩
end Go.Proofs.Ytmmijbiapflneaa
