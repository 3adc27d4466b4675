/- Bytes put behind a row; what is noted of a segment. -/
import Derived.Test.YtmmijbiapflneaaTbA
import Derived.Test.YtmmijbiapflneaaPaD
namespace Go.Proofs.Ytmmijbiapflneaa
open Go.RowKit Go.Maps
set_option linter.unusedVariables false

theorem u8s_len (l : List Int) : (u8s l).length = l.length * 1 := by simp
theorem u8s_append (l m : List Int) : u8s (l ++ m) = u8s l ++ u8s m := by simp
theorem bytes_cells {w : World} {b off : Nat} {m : List Int} (h : ∀ i, i < m.length → w.cell? ⟨b, off + i, none⟩ = some (.int .u8 (m.getD i 0))) : ∀ j u, (u8s m)[j]? = some u → w.cell? ((⟨b, off, none⟩ : Addr).add j) = some u := fun j u hj => by
  have hj2 : j < m.length := by have := (List.getElem?_eq_some_iff.1 hj).1; simpa using this
  rw [u8s_get hj2] at hj
  rw [add_addr, h j hj2]
  simpa using hj
/-- 'append' of bytes to a row that may have been cut at its head. -/
theorem RB.push (w : World) (v : Value) (l : List Int) (h : RW w 5 1 v l.length (u8s l)) (m : List Int) (a : Option Addr) (n c : Nat) (hn : m.length = n) (hm : Bytes w a m) (hl : l.length + n ≤ 900000) (ty : TypeId) :
    ∃ a' c' w', (Builtin.append_ #[28, 28] ty #[v, .slice a n c]).run Try.prog w = .ok (.slice a' (l.length + n) c') w' ∧ RW w' 5 1 (.slice a' (l.length + n) c') (l ++ m).length (u8s (l ++ m)) ∧ Mods (fun b => blkV v = some b) w w' ∧ (blkV (.slice a' (l.length + n) c') = blkV v ∨ ∃ x, w.heap.size ≤ x ∧ blkV (.slice a' (l.length + n) c') = some x) := by
  obtain ⟨i0, hi, hz0, hz1, hz2⟩ := info5b
  have hlm : (l ++ m).length = l.length + n := by rw [List.length_append, hn]
  rw [hlm, u8s_append]
  by_cases hp : 0 < n
  · obtain ⟨b0, off0, rfl, hcur⟩ := hm.open_ (by omega)
    have hcell := bytes_cells hcur
    have hml : (u8s m).length = n * 1 := by rw [u8s_len, hn]
    have hone := u8s_one m
    have fromOwn : ∀ (v' : Value) (w' : World), w'.ownsRow w.heap.size 5 1 v' (l.length + n) (u8s l ++ u8s m) → ∃ a c, v' = .slice a (l.length + n) c ∧ RW w' 5 1 v' (l.length + n) (u8s l ++ u8s m) ∧ ∃ x, w.heap.size ≤ x ∧ blkV v' = some x := fun v' w' ho => by
      have hR := RW.of_owns ho
      rcases ho.2 with ⟨_, h0⟩ | ⟨g', cap', cur', rfl, hge, hh', _⟩
      · omega
      · exact ⟨_, _, rfl, hR, g', hge, rfl⟩
    rcases h.2 with ⟨rfl, h0⟩ | ⟨b, off, cap, cur, rfl, hh, h1, hmx, h2, h3⟩
    · have hl0 : l = [] := List.eq_nil_of_length_eq_zero h0
      subst hl0
      obtain ⟨v', w', hr, ho, hgr, _, hob⟩ := run_append_own_at (P := Try.prog) w w.heap.size 28 ty 5 i0 _ 1 1 Try.underlying28 hi hz0 hz1 hz2 rfl (by omega) (.slice none 0 0) 0 [] ⟨by simp, .inl ⟨rfl, rfl⟩⟩ ⟨b0, off0, none⟩ n c (u8s m) hml hcell hone (by unfold maxLen; omega) (by omega) (Nat.le_refl _)
      obtain ⟨a', c', rfl, hp', x, hx1, hx2⟩ := fromOwn v' w' (by simpa using ho)
      exact ⟨a', c', w', hr, hp', ⟨hgr.os, hgr.tape, hgr.output, hgr.size, fun y hy hn => hgr.block y hy (by simp [Value.ownBlock])⟩, .inr ⟨x, hx1, hx2⟩⟩
    · by_cases hroom : l.length + n ≤ cap
      · have hr := run_append_room_cells (P := Try.prog) w 28 ty 5 i0 Try.underlying28 hi b off l.length cap ⟨b0, off0, none⟩ n c (u8s m) (by rw [hz1, hml]) hcell hone hroom (fun j hj => by
          rw [hz1]
          rw [hml] at hj
          have hlt : off + l.length * 1 + j < cur.size := by omega
          have := cell_of hh (i := off + l.length * 1 + j) (v := cur[off + l.length * 1 + j]) (by simp)
          rw [this]; rfl) (fun j hj => froz_of hh _)
        rw [hz1] at hr
        have hb' := setCells_heap (g := b) (t := 5) (u8s m) w cur (off + l.length * 1) hh
        refine ⟨_, _, _, hr, ⟨by simp [hn], .inr ⟨b, off, cap, _, rfl, hb', hroom, hmx, by rw [putA_size]; exact h2, fun j hj => ?_⟩⟩, (setCells_mods b (u8s m) w _).weak (fun y hy => by subst hy; exact .inl rfl), .inl rfl⟩
        rw [putA_get _ _ _ (by rw [hml]; omega), hml]
        by_cases hj2 : j < l.length * 1
        · rw [if_neg (by omega), h3 j hj2, List.getElem?_append_left (by rw [u8s_len]; exact hj2)]
        · rw [if_pos (by omega), List.getElem?_append_right (by rw [u8s_len]; omega), u8s_len]
          rw [show off + j - (off + l.length * 1) = j - l.length * 1 by omega]
      · have hold : ∀ j u, (u8s l)[j]? = some u → w.cell? ((⟨b, off, none⟩ : Addr).add j) = some u := fun j u hj => by
          have hj2 : j < l.length * 1 := by have := (List.getElem?_eq_some_iff.1 hj).1; rw [u8s_len] at this; exact this
          rw [add_addr]
          exact cell_of hh (by rw [h3 j hj2]; exact hj)
        obtain ⟨v', w', hr, ho, hgr⟩ := run_append_arg_grows (P := Try.prog) w 28 ty 5 i0 _ 1 1 Try.underlying28 hi hz0 hz1 hz2 rfl (by omega) ⟨b, off, none⟩ l.length cap (u8s l) (u8s_len l) hold ⟨b0, off0, none⟩ n c (u8s m) hml hcell (by omega) (by unfold maxLen; omega) (by omega)
        obtain ⟨a', c', rfl, hp', x, hx1, hx2⟩ := fromOwn v' w' ho
        exact ⟨a', c', w', hr, hp', ⟨hgr.os, hgr.tape, hgr.output, hgr.size, fun y hy hn => hgr.block y hy (by simp)⟩, .inr ⟨x, hx1, hx2⟩⟩
  · obtain rfl : n = 0 := by omega
    obtain rfl : m = [] := List.eq_nil_of_length_eq_zero hn
    have hs : Src Try.prog i0.size 28 (.slice a 0 c) 0 [] w := by
      cases a with
      | none => exact Src.ofNil _ Try.underlying28 c
      | some ad => exact Src.ofSlice _ Try.underlying28 ad 0 c [] (by simp) (fun j u hj => by simp at hj) (fun u hu => by simp at hu)
    rcases h.2 with ⟨rfl, h0⟩ | ⟨b, off, cap, cur, rfl, hh, h1, r⟩
    · have hl0 : l = [] := List.eq_nil_of_length_eq_zero h0
      subst hl0
      exact ⟨none, 0, w, run_append_nothing _ 28 28 ty 5 i0 Try.underlying28 hi _ _ _ (Nat.le_refl _) _ hs, by simpa using RW.nil w 5 1, Mods.refl _ _, .inl rfl⟩
    · exact ⟨some ⟨b, off, none⟩, cap, w, run_append_nothing _ 28 28 ty 5 i0 Try.underlying28 hi _ _ _ h1 _ hs, by simpa using h, Mods.refl _ _, .inl rfl⟩
/-- The block of what came in order turns: the connection with its new row. -/
theorem CnX.comes {w w2 : World} {p : Nat} {S : Nat → Prop} {c : Cn} {vc vm vw : Value} (h : CnX w p S c vc vm vw) (vc2 : Value) (c2 : Cn) (hm : Mods (fun b => blkV vc = some b ∨ b = p) w w2) (hb : w2.heap[p]? = some (.cells (cnC c2 vc2 vm vw) 60 (0, 0))) (hr : RW w2 5 1 vc2 c2.came.length (u8s c2.came)) (hbk : ∀ b, blkV vc2 = some b → blkV vc = some b ∨ w.heap.size ≤ b)
    (e2 : c2.waits = c.waits) (e3 : c2.lv = c.lv) (e4 : c2.ec = c.ec) (e5 : c2.E = c.E) : ∃ S', CnX w2 p S' c2 vc2 vm vw ∧ Kp S w S' w2 := by
  have hbx := h.box
  have nep : ∀ v n X b, RW w 5 1 v n X → blkV v = some b → b ≠ p := fun v n X b hr hb2 e => by
    subst e
    obtain ⟨cur, hk⟩ := hr.kind hb2
    rw [hbx] at hk
    simp only [Option.some.injEq, Obj.cells.injEq] at hk
    exact absurd hk.2.1 (by decide)
  refine ⟨fun b => S b ∨ blkV vc2 = some b, ⟨hb, hr, ?_, ?_, ?_, .inl h.sp, fun b hb2 => .inr hb2, fun b hb2 => .inl (h.sw b hb2), ?_⟩, ?_, hm.weak ?_⟩
  · rw [e2]
    exact h.rw_.keep (fun b hb2 => hm.block b (h.rw_.lt hb2) (fun e => by
      rcases e with e | e
      · exact h.ne b e hb2
      · exact nep _ _ _ b h.rw_ hb2 e))
  · rw [e3, e4, e5]
    refine h.mp.imp id (fun ⟨e, gm, f1, f2, f3⟩ => ⟨e, gm, f1, .inl f2, f3.keep (hm.block gm f3.lt (fun e => ?_))⟩)
    obtain ⟨D, ⟨es, cl, hh, _⟩, _⟩ := f3
    rcases e with e | e
    · obtain ⟨cur, hk⟩ := h.rc.kind e
      rw [hh] at hk
      simp at hk
    · subst e
      rw [hbx] at hh
      simp at hh
  · intro b h1 h2
    rcases hbk b h1 with e | e
    · exact h.ne b e h2
    · have := h.rw_.lt h2; omega
  · intro b hb2
    rcases hb2 with e | e
    · exact Nat.lt_of_lt_of_le (h.slt b e) hm.size
    · exact hr.lt e
  · intro b hb2
    rcases hb2 with e | e
    · exact .inl e
    · rcases hbk b e with e | e
      · exact .inl (h.sc b e)
      · exact .inr e
  · intro b hb2
    rcases hb2 with e | e
    · exact .inl (h.sc b e)
    · exact .inl (by rw [e]; exact h.sp)
def put1 (c : Cn) (k x : Int) : Cn := if (c.E k).isSome then c else { c with E := upd c.E k (some x), ec := c.ec + 1 }
def putsN (c : Cn) (seq : Int) (d : List Int) : Nat → Cn
  | 0 => c
  | k + 1 => put1 (putsN c seq d k) (a32 seq k) (d.getD k 0)
def noteQ (c : Cn) (seq at_ : Int) (d : List Int) : Cn :=
  if at_ = 0 ∧ c.ec = 0 then { c with came := c.came ++ d, R := a32 c.R d.length } else putsN c seq d d.length
/-- What of the bytes is awaited, from where on. -/
def ntAt (c : Cn) (seq : Int) : Int := if roomC c ≤ s32 seq c.R then 0 else s32 seq c.R
def ntSeq (c : Cn) (seq : Int) : Int := if roomC c ≤ s32 seq c.R then c.R else seq
def ntDat (c : Cn) (seq : Int) (d : List Int) : List Int := ((if roomC c ≤ s32 seq c.R then d.drop (min (s32 c.R seq).toNat d.length) else d).take (roomC c - ntAt c seq).toNat)
def noteS (c : Cn) (seq : Int) (d : List Int) : Cn := noteQ c (ntSeq c seq) (ntAt c seq) (ntDat c seq d)
end Go.Proofs.Ytmmijbiapflneaa
