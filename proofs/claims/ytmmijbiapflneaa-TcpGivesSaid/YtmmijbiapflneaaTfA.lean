/- A segment of a connection. -/
import Derived.Test.YtmmijbiapflneaaTbB
import Derived.Test.YtmmijbiapflneaaTeB
namespace Go.Proofs.Ytmmijbiapflneaa
open Go.RowKit Go.Maps
set_option linter.unusedVariables false

def sg0 : Sg := ⟨0, 0, 0, 0, 0, 0, 0, []⟩
instance : Inhabited Sg := ⟨sg0⟩
/-- The same, and where its bytes lie. -/
structure Sx where
  p : Sg
  a : Option Addr
  c : Nat
instance : Inhabited Sx := ⟨⟨sg0, none, 0⟩⟩
def sxV (x : Sx) : List Value := [.int .i64 x.p.fr, .int .i64 x.p.to_, .int .u32 x.p.seq, .int .u32 x.p.ack, .int .i64 x.p.fl, .int .i64 x.p.win, .int .i64 x.p.mss, .slice x.a x.p.dat.length x.c]
theorem sxV_len (x : Sx) : (sxV x).length = 8 := rfl
def cellsSx (L : List Sx) : List Value := L.flatMap sxV
theorem cellsSx_len (L : List Sx) : (cellsSx L).length = L.length * 8 := flat_len sxV 8 sxV_len L
theorem cellsSx_one (L : List Sx) : ∀ u ∈ cellsSx L, u.oneCell' = true := by
  intro u hu
  obtain ⟨e, _, he⟩ := List.mem_flatMap.1 hu
  simp [sxV] at he
  rcases he with rfl | rfl | rfl | rfl | rfl | rfl | rfl | rfl <;> rfl
/-- A row of segments of type t: their bodies lie in blocks from B on, none in the row's own. -/
def SL (w : World) (t B : Nat) (v : Value) (L : List Sx) : Prop :=
  RW w t 8 v L.length (cellsSx L) ∧ (∀ b, blkV v = some b → B ≤ b) ∧ ∀ x ∈ L, By w (fun b => B ≤ b ∧ blkV v ≠ some b) x.a x.p.dat ∧ x.p.dat.length ≤ x.c
section
variable {w w' : World} {t B : Nat} {v : Value} {L : List Sx}
theorem SL.nil (w : World) (t B : Nat) : SL w t B (.slice none 0 0) [] := ⟨RW.nil w t 8, fun b hb => by simp [blkV] at hb, fun x hx => by simp at hx⟩
theorem SL.later (h : SL w t B v L) (hb : Below w.heap.size w w') : SL w' t B v L := ⟨h.1.later hb, h.2.1, fun x hx => ⟨(h.2.2 x hx).1.later hb, (h.2.2 x hx).2⟩⟩
theorem SL.keep (h : SL w t B v L) (hk : ∀ b, B ≤ b → b < w.heap.size → w'.heap[b]? = w.heap[b]?) : SL w' t B v L :=
  ⟨h.1.keep (fun b hb => hk b (h.2.1 b hb) (h.1.lt hb)), h.2.1, fun x hx => ⟨(h.2.2 x hx).1.keep (fun b hb hl => hk b hb.1 hl), (h.2.2 x hx).2⟩⟩
theorem SL.mono {B' : Nat} (h : SL w t B v L) (hB : B' ≤ B) : SL w t B' v L := ⟨h.1, fun b hb => Nat.le_trans hB (h.2.1 b hb), fun x hx => ⟨(h.2.2 x hx).1.weak (fun b hb _ => ⟨Nat.le_trans hB hb.1, hb.2⟩), (h.2.2 x hx).2⟩⟩
theorem SL.slice (h : SL w t B v L) : ∃ a c, v = .slice a L.length c := h.1.shape
theorem getD_memS {L : List Sx} {i : Nat} (h : i < L.length) : L.getD i default ∈ L := by
  simp [List.getD, h]
theorem SL.at_ (h : SL w t B v L) {i : Nat} (hi : i < L.length) : ∃ b off cap, v = .slice (some ⟨b, off, none⟩) L.length cap ∧ L.length ≤ cap ∧ B ≤ b ∧ (∀ j u, (sxV (L.getD i default))[j]? = some u → w.cell? ⟨b, off + (i * 8 + j), none⟩ = some u) ∧ By w (fun x => B ≤ x) (L.getD i default).a (L.getD i default).p.dat ∧ (L.getD i default).p.dat.length ≤ (L.getD i default).c := by
  obtain ⟨b, off, cap, rfl, hc, hb, h1, _⟩ := h.1.at_ (by omega)
  obtain ⟨h2, h3⟩ := h.2.2 _ (getD_memS hi)
  refine ⟨b, off, cap, rfl, hc, h.2.1 b hb, fun j u hj => ?_, h2.weak (fun b hb _ => hb.1), h3⟩
  have hj2 : j < 8 := by have := (List.getElem?_eq_some_iff.1 hj).1; rw [sxV_len] at this; exact this
  exact h1 (i * 8 + j) u (by rw [cellsSx, flat_at sxV 8 sxV_len L default i j hi hj2]; exact hj)
end
theorem infoSG : (Try.prog.info? 30).map (fun i => (i.zero, i.size, i.bytes)) = some (some (.agg #[.int .i64 0, .int .i64 0, .int .u32 0, .int .u32 0, .int .i64 0, .int .i64 0, .int .i64 0, .slice none 0 0]), 8, 72) := by kernel_rfl
/-- 'append' of a segment, at any type that is laid out as one. -/
theorem SL.push (w : World) (st ty t B : Nat) (hu : Try.prog.underlying st = some (.slice t)) (hinfo : (Try.prog.info? t).map (fun i => (i.zero, i.size, i.bytes)) = some (some (.agg #[.int .i64 0, .int .i64 0, .int .u32 0, .int .u32 0, .int .i64 0, .int .i64 0, .int .i64 0, .slice none 0 0]), 8, 72))
    (ht : t ≠ 5) (v : Value) (L : List Sx) (h : SL w t B v L) (x : Sx) (hB : B ≤ w.heap.size) (hx : By w (fun b => B ≤ b) x.a x.p.dat) (hxc : x.p.dat.length ≤ x.c) (hl : L.length ≤ 1000000) (ad : Addr) (cc : Nat) (hg : ∀ j u, (sxV x)[j]? = some u → w.cell? (ad.add j) = some u) :
    ∃ a c w', (Builtin.append_ #[st, st] ty #[v, .slice (some ad) 1 cc]).run Try.prog w = .ok (.slice a (L.length + 1) c) w' ∧ SL w' t B (.slice a (L.length + 1) c) (L ++ [x]) ∧ Mods (fun b => blkV v = some b) w w' := by
  obtain ⟨a, c, w', hr, hR, hm, hbk⟩ := RW.push w st ty t 8 72 _ hu hinfo rfl (by omega) (by omega) v L.length (cellsSx L) h.1 (sxV x) (sxV_len x) (fun u hu => cellsSx_one [x] u (by simpa [cellsSx] using hu)) hl ad cc hg
  have hxo : By w (fun b => B ≤ b ∧ blkV v ≠ some b) x.a x.p.dat := ⟨hx.1, fun hp => by
    obtain ⟨b, off, cur, fr, ha, hs, hh, hc⟩ := hx.2 hp
    refine ⟨b, off, cur, fr, ha, ⟨hs, fun hb => ?_⟩, hh, hc⟩
    obtain ⟨cur', hk⟩ := h.1.kind hb
    rw [hh] at hk
    simp only [Option.some.injEq, Obj.cells.injEq] at hk
    exact ht hk.2.1.symm⟩
  refine ⟨a, c, w', hr, ⟨?_, fun b hb => ?_, fun y hy => ?_⟩, hm⟩
  · simp only [List.length_append, List.length_cons, List.length_nil, Nat.zero_add]
    have e : cellsSx (L ++ [x]) = cellsSx L ++ sxV x := by simp [cellsSx]
    rw [e]; exact hR
  · rcases hbk with e | ⟨z, hz, e⟩
    · exact h.2.1 b (by rw [← e]; exact hb)
    · rw [hb] at e; simp at e; omega
  · have key : ∀ (a0 : Option Addr) (l : List Int), By w (fun b => B ≤ b ∧ blkV v ≠ some b) a0 l → By w' (fun b => B ≤ b ∧ blkV (.slice a (L.length + 1) c) ≠ some b) a0 l := fun a0 l hb => by
      have hb1 := hb.weak (S' := fun b => B ≤ b ∧ blkV v ≠ some b ∧ b < w.heap.size) (fun b hb hl => ⟨hb.1, hb.2, hl⟩)
      have hb2 := hb1.keep (w' := w') (fun b hb hl => hm.block b hl hb.2.1)
      refine hb2.weak (fun b hb _ => ⟨hb.1, fun e2 => ?_⟩)
      rcases hbk with e | ⟨z, hz, e⟩
      · exact hb.2.1 (by rw [← e]; exact e2)
      · rw [e2] at e; simp at e; have := hb.2.2; omega
    rcases List.mem_append.1 hy with hy | hy
    · exact ⟨key _ _ (h.2.2 y hy).1, (h.2.2 y hy).2⟩
    · obtain rfl : y = x := by simpa using hy
      exact ⟨key _ _ hxo, hxc⟩
end Go.Proofs.Ytmmijbiapflneaa
namespace Go.Proofs.Ytmmijbiapflneaa
open Go.RowKit Go.Maps
set_option linter.unusedVariables false
/-- What a connection's segments have in common. -/
def segOf (c : Cn) (fl q : Int) (l : List Int) : Sg := ⟨c.fr, c.to_, q, c.R, fl, ownW c, 0, l⟩
set_option maxRecDepth 100000 in
set_option maxHeartbeats 8000000 in
theorem segment_any {w : World} {p : Nat} {S : Nat → Prop} {c : Cn} {vc vm vw : Value} (h : CnX w p S c vc vm vw) (ho : c.came.length ≤ 16384) (fl q : Int) (a : Option Addr) (n cp : Nat) (l : List Int) (hn : l.length = n) (hl : n ≤ 900000) (hb : Bytes w a l) :
    Calls Try.prog 27 #[.pointer (some ⟨p, 0, none⟩), .int .i64 fl, .int .u32 q, .slice a n cp] w fun e w' => ∃ a2 c2, e = .returned (.agg (sgC c.fr c.to_ q c.R fl (ownW c) 0 (.slice a2 n c2))) ∧ By w' (New w) a2 l ∧ n ≤ c2 ∧ Below w.heap.size w w' := by
  obtain ⟨W1, hW1, h1, b1⟩ := boxS w (sgC 0 0 0 0 0 0 0 (.slice none 0 0)) 30
  obtain ⟨g, hg⟩ : ∃ g, w.heap.size = g := ⟨_, rfl⟩
  have hpl := h.slt p h.sp
  have HNE : Hid (p ≠ g) := hid (by omega)
  rw [hg] at h1
  have hX := h.later b1
  have p14 := cell_of hX.box (i := 14) (v := .int .i64 c.fr) rfl
  have p15 := cell_of hX.box (i := 15) (v := .int .i64 c.to_) rfl
  have p0 := cell_of hX.box (i := 0) (v := .int .u32 c.R) rfl
  obtain ⟨fr, hfr⟩ : ∃ x, c.fr = x := ⟨_, rfl⟩
  obtain ⟨to_, hto⟩ : ∃ x, c.to_ = x := ⟨_, rfl⟩
  obtain ⟨R, hR⟩ : ∃ x, c.R = x := ⟨_, rfl⟩
  obtain ⟨wn, hwn⟩ : ∃ x, ownW c = x := ⟨_, rfl⟩
  have HOW : Hid (∀ W, Below w.heap.size w W → Calls Try.prog 33 #[.pointer (some ⟨p, 0, none⟩)] W fun e w' => e = .returned (.int .i64 wn) ∧ w' = W) := hid (fun W hW => by have := ownWindow_any (h.later hW) ho; rwa [hwn] at this)
  have HCL : Hid (∀ W, Below w.heap.size w W → Calls Try.prog 44 #[.slice a n cp] W fun e w' => ∃ a2 c2, e = .returned (.slice a2 n c2) ∧ By w' (New W) a2 l ∧ n ≤ c2 ∧ Below W.heap.size W w') := hid (fun W hW => Clone_all W a n cp l hn hl (hb.later hW))
  rw [hfr] at p14
  rw [hto] at p15
  rw [hR] at p0
  rw [hfr, hto, hR, hwn]
  have H1 := hid h1
  have HB1 := hid b1
  have HG := hid hg
  have HW := hW1.symm
  clear h1 b1 hW1 hX h ho hb hn hfr hto hR hwn hpl
  go_enter Try.func27, Try.ntmps27
  go_upto_region 1 with fail
  try simp only [Act.put]
  refine wp_region_held_drew (S := fun w' => w'.cell? ⟨p, 14, none⟩ = some (.int .i64 fr) ∧ w'.cell? ⟨p, 15, none⟩ = some (.int .i64 to_) ∧ w'.cell? ⟨p, 0, none⟩ = some (.int .u32 R)) (by kernel_rfl) ⟨p14, p15, p0⟩ (fun hS => ?_)
  obtain ⟨v0, hv0⟩ : ∃ W, W = W1.drew := ⟨_, rfl⟩
  rw [← hv0] at hS ⊢
  have HB0 := hid (show Below w.heap.size w v0 by rw [hv0]; exact HB1.out.drew)
  have H0 := hid (show v0.heap[g]? = some (.cells (sgC 0 0 0 0 0 0 0 (.slice none 0 0)) 30 (0, 0)) by rw [hv0]; exact H1.out)
  clear hv0
  refine nany_take 0 9 (.pointer (some ⟨p, 0, none⟩)) rfl rfl (by kernel_rfl) (by kernel_rfl) (by kernel_rfl) (fun _ _ _ h => h) (Or.inl ⟨by rfl, ?_⟩) hS ?_
  · rintro w' hS'
    first | go_simp | (go_simp; exact hS'.1) | (go_simp; exact hS'.2.1) | (go_simp; exact hS'.2.2)
  simp only [List.setIfInBounds_toArray, List.set_cons_zero, List.set_cons_succ]
  refine nany_take 1 10 (.pointer (some ⟨p, 0, none⟩)) rfl rfl (by kernel_rfl) (by kernel_rfl) (by kernel_rfl) (fun _ _ _ h => h) (Or.inl ⟨by rfl, ?_⟩) hS ?_
  · rintro w' hS'
    first | go_simp | (go_simp; exact hS'.1) | (go_simp; exact hS'.2.1) | (go_simp; exact hS'.2.2)
  simp only [List.setIfInBounds_toArray, List.set_cons_zero, List.set_cons_succ]
  refine nany_take 2 11 (.pointer (some ⟨p, 14, none⟩)) rfl rfl (by kernel_rfl) (by kernel_rfl) (by kernel_rfl) (fun _ _ _ h => h) (Or.inl ⟨by rfl, ?_⟩) hS ?_
  · rintro w' hS'
    first | go_simp | (go_simp; exact hS'.1) | (go_simp; exact hS'.2.1) | (go_simp; exact hS'.2.2)
  simp only [List.setIfInBounds_toArray, List.set_cons_zero, List.set_cons_succ]
  refine nany_take 3 12 (.int .i64 fr) rfl rfl (by kernel_rfl) (by kernel_rfl) (by kernel_rfl) (fun _ _ _ h => h) (Or.inl ⟨by rfl, ?_⟩) hS ?_
  · rintro w' hS'
    first | go_simp | (go_simp; exact hS'.1) | (go_simp; exact hS'.2.1) | (go_simp; exact hS'.2.2)
  simp only [List.setIfInBounds_toArray, List.set_cons_zero, List.set_cons_succ]
  refine nany_take 4 13 (.pointer (some ⟨p, 0, none⟩)) rfl rfl (by kernel_rfl) (by kernel_rfl) (by kernel_rfl) (fun _ _ _ h => h) (Or.inl ⟨by rfl, ?_⟩) hS ?_
  · rintro w' hS'
    first | go_simp | (go_simp; exact hS'.1) | (go_simp; exact hS'.2.1) | (go_simp; exact hS'.2.2)
  simp only [List.setIfInBounds_toArray, List.set_cons_zero, List.set_cons_succ]
  refine nany_take 5 14 (.pointer (some ⟨p, 0, none⟩)) rfl rfl (by kernel_rfl) (by kernel_rfl) (by kernel_rfl) (fun _ _ _ h => h) (Or.inl ⟨by rfl, ?_⟩) hS ?_
  · rintro w' hS'
    first | go_simp | (go_simp; exact hS'.1) | (go_simp; exact hS'.2.1) | (go_simp; exact hS'.2.2)
  simp only [List.setIfInBounds_toArray, List.set_cons_zero, List.set_cons_succ]
  refine nany_take 6 15 (.pointer (some ⟨p, 15, none⟩)) rfl rfl (by kernel_rfl) (by kernel_rfl) (by kernel_rfl) (fun _ _ _ h => h) (Or.inl ⟨by rfl, ?_⟩) hS ?_
  · rintro w' hS'
    first | go_simp | (go_simp; exact hS'.1) | (go_simp; exact hS'.2.1) | (go_simp; exact hS'.2.2)
  simp only [List.setIfInBounds_toArray, List.set_cons_zero, List.set_cons_succ]
  refine nany_take 7 16 (.int .i64 to_) rfl rfl (by kernel_rfl) (by kernel_rfl) (by kernel_rfl) (fun _ _ _ h => h) (Or.inl ⟨by rfl, ?_⟩) hS ?_
  · rintro w' hS'
    first | go_simp | (go_simp; exact hS'.1) | (go_simp; exact hS'.2.1) | (go_simp; exact hS'.2.2)
  simp only [List.setIfInBounds_toArray, List.set_cons_zero, List.set_cons_succ]
  refine nany_take 8 17 (.int .u32 q) rfl rfl (by kernel_rfl) (by kernel_rfl) (by kernel_rfl) (fun _ _ _ h => h) (Or.inl ⟨by rfl, ?_⟩) hS ?_
  · rintro w' hS'
    first | go_simp | (go_simp; exact hS'.1) | (go_simp; exact hS'.2.1) | (go_simp; exact hS'.2.2)
  simp only [List.setIfInBounds_toArray, List.set_cons_zero, List.set_cons_succ]
  refine nany_take 9 18 (.pointer (some ⟨p, 0, none⟩)) rfl rfl (by kernel_rfl) (by kernel_rfl) (by kernel_rfl) (fun _ _ _ h => h) (Or.inl ⟨by rfl, ?_⟩) hS ?_
  · rintro w' hS'
    first | go_simp | (go_simp; exact hS'.1) | (go_simp; exact hS'.2.1) | (go_simp; exact hS'.2.2)
  simp only [List.setIfInBounds_toArray, List.set_cons_zero, List.set_cons_succ]
  refine nany_take 10 19 (.pointer (some ⟨p, 0, none⟩)) rfl rfl (by kernel_rfl) (by kernel_rfl) (by kernel_rfl) (fun _ _ _ h => h) (Or.inl ⟨by rfl, ?_⟩) hS ?_
  · rintro w' hS'
    first | go_simp | (go_simp; exact hS'.1) | (go_simp; exact hS'.2.1) | (go_simp; exact hS'.2.2)
  simp only [List.setIfInBounds_toArray, List.set_cons_zero, List.set_cons_succ]
  refine nany_take 11 20 (.pointer (some ⟨p, 0, none⟩)) rfl rfl (by kernel_rfl) (by kernel_rfl) (by kernel_rfl) (fun _ _ _ h => h) (Or.inl ⟨by rfl, ?_⟩) hS ?_
  · rintro w' hS'
    first | go_simp | (go_simp; exact hS'.1) | (go_simp; exact hS'.2.1) | (go_simp; exact hS'.2.2)
  simp only [List.setIfInBounds_toArray, List.set_cons_zero, List.set_cons_succ]
  refine nany_take 12 21 (.pointer (some ⟨p, 0, none⟩)) rfl rfl (by kernel_rfl) (by kernel_rfl) (by kernel_rfl) (fun _ _ _ h => h) (Or.inl ⟨by rfl, ?_⟩) hS ?_
  · rintro w' hS'
    first | go_simp | (go_simp; exact hS'.1) | (go_simp; exact hS'.2.1) | (go_simp; exact hS'.2.2)
  simp only [List.setIfInBounds_toArray, List.set_cons_zero, List.set_cons_succ]
  refine nany_take 13 22 (.int .u32 R) rfl rfl (by kernel_rfl) (by kernel_rfl) (by kernel_rfl) (fun _ _ _ h => h) (Or.inl ⟨by rfl, ?_⟩) hS ?_
  · rintro w' hS'
    first | go_simp | (go_simp; exact hS'.1) | (go_simp; exact hS'.2.1) | (go_simp; exact hS'.2.2)
  simp only [List.setIfInBounds_toArray, List.set_cons_zero, List.set_cons_succ]
  refine nany_take 14 23 (.int .i64 fl) rfl rfl (by kernel_rfl) (by kernel_rfl) (by kernel_rfl) (fun _ _ _ h => h) (Or.inl ⟨by rfl, ?_⟩) hS ?_
  · rintro w' hS'
    first | go_simp | (go_simp; exact hS'.1) | (go_simp; exact hS'.2.1) | (go_simp; exact hS'.2.2)
  simp only [List.setIfInBounds_toArray, List.set_cons_zero, List.set_cons_succ]
  refine nany_take 15 24 (.pointer (some ⟨p, 0, none⟩)) rfl rfl (by kernel_rfl) (by kernel_rfl) (by kernel_rfl) (fun _ _ _ h => h) (Or.inl ⟨by rfl, ?_⟩) hS ?_
  · rintro w' hS'
    first | go_simp | (go_simp; exact hS'.1) | (go_simp; exact hS'.2.1) | (go_simp; exact hS'.2.2)
  simp only [List.setIfInBounds_toArray, List.set_cons_zero, List.set_cons_succ]
  refine nany_take 16 25 (.pointer (some ⟨p, 0, none⟩)) rfl rfl (by kernel_rfl) (by kernel_rfl) (by kernel_rfl) (fun _ _ _ h => h) (Or.inl ⟨by rfl, ?_⟩) hS ?_
  · rintro w' hS'
    first | go_simp | (go_simp; exact hS'.1) | (go_simp; exact hS'.2.1) | (go_simp; exact hS'.2.2)
  simp only [List.setIfInBounds_toArray, List.set_cons_zero, List.set_cons_succ]
  refine nany_take 17 26 (.pointer (some ⟨p, 0, none⟩)) rfl rfl (by kernel_rfl) (by kernel_rfl) (by kernel_rfl) (fun _ _ _ h => h) (Or.inl ⟨by rfl, ?_⟩) hS ?_
  · rintro w' hS'
    first | go_simp | (go_simp; exact hS'.1) | (go_simp; exact hS'.2.1) | (go_simp; exact hS'.2.2)
  simp only [List.setIfInBounds_toArray, List.set_cons_zero, List.set_cons_succ]
  refine nany_take 19 28 (.slice a n cp) rfl rfl (by kernel_rfl) (by kernel_rfl) (by kernel_rfl) (fun _ _ _ h => h) (Or.inl ⟨by rfl, ?_⟩) hS ?_
  · rintro w' hS'
    first | go_simp | (go_simp; exact hS'.1) | (go_simp; exact hS'.2.1) | (go_simp; exact hS'.2.2)
  simp only [List.setIfInBounds_toArray, List.set_cons_zero, List.set_cons_succ]
  refine nany_one 18 (by kernel_rfl) ?_
  refine nop_callE 27 (f := 33) (args := #[.pointer (some ⟨p, 0, none⟩)]) (R := fun v w' => v = .int .i64 wn ∧ w' = v0) rfl (by rfl) rfl (by go_simp) ((HOW.out v0 HB0.out).mono (fun e w' h => ⟨_, h.1, rfl, h.2⟩)) ?_
  rintro v v5 ⟨rfl, rfl⟩
  refine ⟨hS, ?_⟩
  simp only [List.setIfInBounds_toArray, List.set_cons_zero, List.set_cons_succ]
  refine nany_one 20 (by kernel_rfl) ?_
  refine nop_callE 29 (f := 44) (args := #[.slice a n cp]) (R := fun v w' => ∃ a2 c2, v = .slice a2 n c2 ∧ By w' (New v5) a2 l ∧ n ≤ c2 ∧ Below v5.heap.size v5 w') rfl (by rfl) rfl (by go_simp) ((HCL.out v5 HB0.out).mono (fun e w' h => by obtain ⟨a2, c2, h1, h2⟩ := h; exact ⟨_, h1, a2, c2, rfl, h2⟩)) ?_
  rintro v v6 ⟨a2, c2, rfl, hy6, hc6, hb6⟩
  have HS6 := hid (And.intro (cell_later hb6 hS.1) (And.intro (cell_later hb6 hS.2.1) (cell_later hb6 hS.2.2)))
  have HB6 := hid (HB0.out.trans (hb6.mono HB0.out.size))
  have H6 := hid ((hb6.block g (Array.getElem?_eq_some_iff.1 H0.out).1).trans H0.out)
  have HY := hid hy6
  have HC := hid hc6
  have HLX := hid (Array.getElem?_eq_some_iff.1 H0.out).1
  have HSZ := hid HB0.out.size
  clear hb6 hy6 hc6
  refine ⟨HS6.out, ?_⟩
  simp only [List.setIfInBounds_toArray, List.set_cons_zero, List.set_cons_succ]
  clear hS
  have hS := HS6.out
  refine nany_take 21 30 (.agg (sgC fr to_ q R fl wn 0 (.slice a2 n c2))) rfl rfl (by kernel_rfl) (by kernel_rfl) (by kernel_rfl) (fun _ _ _ h => h) (Or.inl ⟨by rfl, ?_⟩) hS ?_
  · rintro w' -
    go_simp
  simp only [List.setIfInBounds_toArray, List.set_cons_zero, List.set_cons_succ]
  obtain ⟨W9, hW9⟩ : ∃ W, W = v6.setRow g (sgC fr to_ q R fl wn 0 (.slice a2 n c2)) := ⟨_, rfl⟩
  refine nany_one 22 (by kernel_rfl) ?_
  refine nop_skip (w' := W9) rfl (by rfl) rfl (by rw [hW9]; exact ex_store 30 _ _ rfl g (sgC fr to_ q R fl wn 0 (.slice a2 n c2)) rfl rfl 30 _ H6.out sizeSg rfl (sgC_one _ _ _ _ _ _ _ _ _ _)) ?_
  have hS9 : W9.cell? ⟨p, 14, none⟩ = some (.int .i64 fr) ∧ W9.cell? ⟨p, 15, none⟩ = some (.int .i64 to_) ∧ W9.cell? ⟨p, 0, none⟩ = some (.int .u32 R) := by
      have hk : W9.heap[p]? = v6.heap[p]? := by rw [hW9]; exact setRow_other _ _ _ _ HNE.out
      exact ⟨(World.cell?_of_block hk).trans hS.1, (World.cell?_of_block hk).trans hS.2.1, (World.cell?_of_block hk).trans hS.2.2⟩
  refine ⟨hS9, ?_⟩
  refine wpAnyH_done (by kernel_rfl) ?_ _
  have H9 := hid (show W9.heap[g]? = some (.cells (sgC fr to_ q R fl wn 0 (.slice a2 n c2)) 30 (0, 0)) by rw [hW9]; exact setRow_heap _ _ _ _ _ _ H6.out)
  have HB9 := hid (show Below w.heap.size w W9 by rw [hW9]; exact (setRow_mods _ _ _).to_below HB6.out HB6.out.size (fun x hx => by rw [hx, HG.out]; exact Nat.le_refl _))
  have HY9 := hid (show By W9 (fun b => w.heap.size ≤ b) a2 l by rw [hW9]; exact (HY.out.keep (fun x hx hl => setRow_other _ _ _ _ (fun e => by have := HLX.out; rw [e] at hx; exact absurd this (Nat.not_lt.2 hx)))).weak (fun x hx _ => Nat.le_trans HSZ.out hx))
  clear hW9 hS hS9
  go_wp2
  refine bodyPost_ret (results_c rfl _ _ g (sgC fr to_ q R fl wn 0 (.slice a2 n c2)) _ _ rfl H9.out Try.underlying30 sizeSg) rfl ⟨a2, c2, rfl, HY9.out, HC.out, ?_⟩
  have h2 := HB9.out
  first | exact h2 | (rw [HG.out] at h2; exact h2)
end Go.Proofs.Ytmmijbiapflneaa
