/- One call of both sides: a chain is offered. -/
import Derived.Test.YtjnhcbompgmknaaBothF
import Derived.Test.YtjnhcbompgmknaaRefM
import Derived.Test.YtjnhcbompgmknaaWildA
namespace Go.Proofs.Ytjnhcbompgmknaa
open Go.RowKit

theorem wpList_append_bs {w : World} {ops : Array Oper} {rest : List Oper} {o : Oper} {a : Act} {Q : Exit → Act → World → Prop} (hgd : o.guard = none) (s x : Operand)
    (ho : o.op = .call { callee := .builtin .append, args := #[s, x], argTypes := #[28, 28] }) (base : Nat) (v : Value) (hs : a.eval s = v) (hown : w.ownsRow base 51 3 v 0 []) (ad : Option Addr) (m cap : Nat) (l : List Bf) (hl : l.length = m)
    (hx : a.eval x = .slice ad m cap) (hB : CBufs w ad l) (hnil : ad = none → cap = 0) (hm : m ≤ 65536) (hbase : base ≤ w.heap.size)
    (h : ∀ (v' : Value) (w' : World), Hid (w'.ownsRow base 51 3 v' l.length (cellsB l)) → Hid (w.grownBy w' v.ownBlock) → wpList Try.prog ops Q rest (a.put o.dst v') w') : wpList Try.prog ops Q (o :: rest) a w := by
  obtain ⟨i, hi, hz, hz1, hz2⟩ := info51
  cases ad with
  | none =>
    obtain rfl := hnil rfl
    have h0 : l.length = 0 := by
      by_cases hp : 0 < l.length
      · obtain ⟨b, off, e, _⟩ := hB 0 hp
        cases e
      · omega
    obtain rfl := List.eq_nil_of_length_eq_zero h0
    subst hl
    refine wpList_append_own_none hgd s x 28 ho base 51 i 3 Try.underlying28 hi v 0 [] hs hown hx ?_
    refine h v w (hid hown) (hid (World.grownBy.refl w _))
  | some ad =>
    refine wpList_append_own_at w hgd s x 28 ho base 51 i _ 3 24 Try.underlying28 hi hz hz1 hz2 rfl (by decide) v 0 [] hs hown ad m cap (cellsB l) hx (by rw [cellsB_len, hl]) (fun j u hj => ?_) (fun u hu => ?_) (by unfold maxLen; omega) (by omega) hbase ?_
    · have hj3 : j < l.length * 3 := by have := (List.getElem?_eq_some_iff.1 hj).1; rw [cellsB_len] at this; exact this
      obtain ⟨b, off, e, c0, c1, c2⟩ := hB (j / 3) (by omega)
      simp only [Option.some.injEq] at e
      subst e
      rw [add_addr]
      obtain ⟨g0, g1, g2⟩ := cellsB_get l (j / 3) (by omega)
      rcases (show j = j / 3 * 3 ∨ j = j / 3 * 3 + 1 ∨ j = j / 3 * 3 + 2 by omega) with e | e | e
      · rw [e, c0, ← g0, ← e]; exact hj
      · rw [e, ← Nat.add_assoc, c1, ← g1, ← e]; exact hj
      · rw [e, ← Nat.add_assoc, c2, ← g2, ← e]; exact hj
    · simp only [cellsB, List.mem_flatMap] at hu
      obtain ⟨q, _, hu⟩ := hu
      simp only [List.mem_cons, List.not_mem_nil, or_false] at hu
      rcases hu with rfl | rfl | rfl <;> rfl
    · intro v' w' k1 k2 _ _
      refine h v' w' (hid ?_) (hid k2)
      rw [Nat.zero_add, List.nil_append] at k1
      rw [hl]
      exact k1

section
variable {w0 w : World} {H : Hd} {c : Nat} {S S2 : Sd} {T : List Int} {Z : Nat → Prop}
theorem Both.add2 (h : Both Z w0 w H c S S2 T) (hwf : Wf H.q.n S2.A) (ab : Option Addr) (m cap : Nat) (bufs : List Bf) (hb : bufs.length = m) (hB : CBufs w ab bufs) (hz : 0 < m → ∀ b off, ab = some ⟨b, off, none⟩ → Z b) (h64 : ∀ b ∈ bufs, Is64 b.addr ∧ Is64 b.len) (hm : m ≤ 65536) :
    Calls Try.prog 27 #[.pointer (some ⟨H.px, 0, none⟩), .slice ab m cap] w fun e w' => e = .returned (.tuple #[.int .i64 (addR S2 bufs).1, .int .i64 (addR S2 bufs).2]) ∧ Goes Z w0 w w' H c S (addS H.q S2 bufs) T := by
  have h' := h
  obtain ⟨vt, al, ar, lab, b, hZ⟩ := h
  subst hb
  by_cases h0 : bufs.length = 0
  · rw [show addR S2 bufs = (0, 1) by simp [addR, h0], show addS H.q S2 bufs = S2 by simp [addS, h0], h0]
    refine (refAdd_none w H.px ab cap).mono ?_
    rintro e w' ⟨rfl, rfl⟩
    exact ⟨rfl, h', fun _ _ => rfl⟩
  · have hBu : Bufs w ab bufs H.g := hB.bufs (fun x off e e2 => by have h1 := (hZ x (hz (by omega) x off e)).2; have h2 := b.l6; rw [e2] at h1; omega)
    by_cases ha : anyB bufs = true
    · rw [show addR S2 bufs = (0, 1) by simp [addR, ha], show addS H.q S2 bufs = S2 by simp [addS, ha]]
      refine (refAdd_arg w H.px H.g ab bufs.length cap bufs rfl hBu hm (by omega) ha).mono ?_
      rintro e w' ⟨rfl, rfl⟩
      exact ⟨rfl, h', fun _ _ => rfl⟩
    · have hok := okB_of (by simpa using ha) h64
      by_cases hf : S2.A.free.length < bufs.length
      · rw [show addR S2 bufs = (0, 7) by simp [addR, h0, ha, hf], show addS H.q S2 bufs = S2 by simp [addS, hf]]
        refine (rAdd_full w H.px H.g H.q S2.A ar b.rdrv hwf ab bufs.length cap bufs rfl hBu hok hm (by omega) hf).mono ?_
        rintro e w' ⟨rfl, rfl⟩
        exact ⟨rfl, h', fun _ _ => rfl⟩
      · rw [show addR S2 bufs = (((S2.A.free.getD 0 0 : Nat) : Int), 0) by simp [addR, h0, ha, hf], show addS H.q S2 bufs = { S2 with A := AddA S2.A bufs.length, f := addF S2.f H.q S2.A bufs } by simp [addS, h0, ha, hf]]
        refine (rAdd_ok w H.px H.g H.q S2.A ar S2.f b.rdrv hwf b.rmem ab bufs.length cap bufs rfl hBu (fun x off e => ⟨(hZ x (hz (by omega) x off e)).1, fun e2 => by have h1 := (hZ x (hz (by omega) x off e)).2; have h2 := b.l4 x e2; omega⟩) hok (by omega) (by omega)).mono ?_
        rintro e w' ⟨rfl, hs, hme⟩
        exact ⟨rfl, b.toRdrv hZ hs hme⟩

set_option maxRecDepth 100000 in
set_option maxHeartbeats 4000000 in
theorem do_add (h : Both (Z0 w0) w0 w H c S S T) (hc : c < 1099511627776) (n m : Int) (la : Option Addr) (lc : Nat) (bufs : List Bf) (hB : CBufs w0 la bufs) (hnil : la = none → lc = 0) (h64 : ∀ b ∈ bufs, Is64 b.addr ∧ Is64 b.len) (hl : bufs.length ≤ 300) :
    Calls Try.prog 11 #[.pointer (some ⟨H.pb, 0, none⟩), .agg #[.int .i64 1, .int .i64 n, .int .i64 m, .slice la bufs.length lc]] w fun e w' => e = .returned (.bool true) ∧ ∃ S' T', Both (Z0 w0) w0 w' H (c + 1) S' S' T' ∧ T'.length ≤ T.length + 1 := by
  have hla : 0 < bufs.length → ∀ b off, la = some ⟨b, off, none⟩ → b < w0.heap.size := fun hp b off e => by
    obtain ⟨b', off', e', h1, _⟩ := hB 0 hp
    rw [e] at e'
    simp only [Option.some.injEq, Addr.mk.injEq, and_true] at e'
    rw [e'.1]
    exact cell_lt h1
  have hbel := h.bel
  have hs0 := hbel.size
  obtain ⟨len, hlen⟩ : ∃ len, bufs.length = len := ⟨_, rfl⟩
  rw [hlen] at hl hla ⊢
  have hbe1 : Below w.heap.size w (w.alloc (.cells #[.int .i64 1, .int .i64 n, .int .i64 m, .slice la len lc] 30)) := (Below.refl _ w).alloc (Nat.le_refl _) _
  have e0 : (w.alloc (.cells #[.int .i64 1, .int .i64 n, .int .i64 m, .slice la len lc] 30)).cell? ⟨w.heap.size, 0, none⟩ = some (.int .i64 1) := new_cell w _ _ _ 0 (by simp)
  have e3 : (w.alloc (.cells #[.int .i64 1, .int .i64 n, .int .i64 m, .slice la len lc] 30)).cell? ⟨w.heap.size, 3, none⟩ = some (.slice la len lc) := new_cell w _ _ _ 3 (by simp)
  have hs1 : (w.alloc (.cells #[.int .i64 1, .int .i64 n, .int .i64 m, .slice la len lc] 30)).heap.size = w.heap.size + 1 := by simp
  have H0 := hid h
  have HWF := hid h.wf
  have HB0 := hid hB
  have HNIL := hid hnil
  have H64 := hid h64
  have HLA := hid hla
  have HLEN := hid hlen
  have HBE1 := hid hbe1
  have HS1 := hid hs1
  clear h hB hnil h64 hla hlen hbe1
  have hbe2 : Below w.heap.size w ((w.alloc (.cells #[.int .i64 1, .int .i64 n, .int .i64 m, .slice la len lc] 30)).alloc (.cells #[] 51)) := HBE1.out.alloc (by rw [hs1]; omega) _
  have HOWN : Hid (((w.alloc (.cells #[.int .i64 1, .int .i64 n, .int .i64 m, .slice la len lc] 30)).alloc (.cells #[] 51)).ownsRow w.heap.size 51 3 (.slice (some ⟨w.heap.size + 1, 0, none⟩) 0 0) 0 []) := hid ⟨rfl, .inr ⟨w.heap.size + 1, 0, #[], rfl, by omega, by have h := (MapKept.heap_alloc (w.alloc (.cells #[.int .i64 1, .int .i64 n, .int .i64 m, .slice la len lc] 30)) (.cells #[] 51)).1; rw [hs1] at h; exact h, Nat.le_refl _, Nat.zero_le _, rfl, rfl⟩⟩
  have HCB : Hid (CBufs ((w.alloc (.cells #[.int .i64 1, .int .i64 n, .int .i64 m, .slice la len lc] 30)).alloc (.cells #[] 51)) la bufs) := hid (HB0.out.keep (fun hp b off e => by
    have hb := HLA.out (by rw [← HLEN.out]; exact hp) b off e
    exact (hbe2.block b (by omega)).trans (hbel.block b hb)))
  have HBE2 := hid hbe2
  have HBASE : Hid (w.heap.size ≤ ((w.alloc (.cells #[.int .i64 1, .int .i64 n, .int .i64 m, .slice la len lc] 30)).alloc (.cells #[] 51)).heap.size) := hid hbe2.size
  have HBEL := hid hbel
  clear hbe2 hbel hs1
  go_enter Try.func11, Try.ntmps11
  go_wp2_with (at_builtin; refine wpList_append_bs rfl (.tmp 27) (.tmp 29) rfl w.heap.size _ rfl HOWN.out la len lc bufs HLEN.out rfl HCB.out HNIL.out (by omega) HBASE.out ?_; intro v2 w2 hown2 hgrow2; have hb2 : Below w.heap.size w w2 := HBE2.out.grown hgrow2.out HBASE.out (fun b hb => (owns_lt HOWN.out hb).2); have h2 := H0.out.wide hb2 (Z' := fun b => b < w0.heap.size ∨ (w.heap.size ≤ b ∧ b < w2.heap.size)) (fun b e => by rcases e with e | e; exact ⟨by have := hb2.size; omega, .inr (.inr e)⟩; exact ⟨e.2, .inr (.inl e.1)⟩); obtain ⟨d0, d1, d2, d3, d4, d5⟩ := h2.cells; have H2 := hid h2; have HB2 := hid hb2; clear h2 hb2; obtain ⟨a2, c2, hv2, hB2, hk2⟩ := owns_cbufs hown2.out; subst hv2; have HCB2 := hid hB2; have HK2 := hid hk2; clear hB2 hk2)
  have hC2 : w2.heap[w.heap.size]? = (w.alloc (.cells #[.int .i64 1, .int .i64 n, .int .i64 m, .slice la len lc] 30)).heap[w.heap.size]? := by
    refine (hgrow2.out.block w.heap.size (by simp; omega) (fun e => by have h : some w.heap.size = some (w.heap.size + 1) := e; simp only [Option.some.injEq] at h; omega)).trans ?_
    exact Below.heap_alloc (w.alloc (.cells #[.int .i64 1, .int .i64 n, .int .i64 m, .slice la len lc] 30)) _ _ (by rw [HS1.out]; omega)
  have e32 := (World.cell?_of_block (w := w.alloc (.cells #[.int .i64 1, .int .i64 n, .int .i64 m, .slice la len lc] 30)) hC2 (a := ⟨w.heap.size, 3, none⟩)).trans e3
  have hClt : w.heap.size < w2.heap.size := cell_lt e32
  have hc20 := H2.out.add1 hc a2 bufs.length c2 bufs rfl HCB2.out (fun hp b off e => .inr (HK2.out hp b off e)) H64.out (by rw [HLEN.out]; omega)
  refine hc20.mono ?_
  rintro e w3 ⟨rfl, hg3⟩
  have hla2 : CBufs w2 la bufs := HB0.out.keep (fun hp b off e => by
    have hb := HLA.out (by rw [← HLEN.out]; exact hp) b off e
    exact (HB2.out.block b (by omega)).trans (HBEL.out.block b hb))
  have HLA3 : Hid (CBufs w3 la bufs) := hid (hla2.keep (fun hp b off e => hg3.2 b (.inl (HLA.out (by rw [← HLEN.out]; exact hp) b off e))))
  have HL23 : Hid (CBufs w3 a2 bufs) := hid (HCB2.out.keep (fun hp b off e => hg3.2 b (.inr (HK2.out hp b off e))))
  have e33 := (World.cell?_of_block (w := w2) (hg3.2 w.heap.size (.inr ⟨Nat.le_refl _, hClt⟩)) (a := ⟨w.heap.size, 3, none⟩)).trans e32
  obtain ⟨d0, d1, d2, d3, d4, d5⟩ := hg3.1.cells
  have h3d := hg3.1.below ((Below.refl _ w3).drew)
  have hc27 := h3d.add2 HWF.out la len lc bufs HLEN.out HLA3.out (fun hp b off e => .inl (HLA.out hp b off e)) H64.out (by omega)
  have HC27 := hid hc27
  have e33d : w3.drew.cell? ⟨w.heap.size, 3, none⟩ = some (.slice la len lc) := e33
  clear hc20 hg3 hla2 h3d hc27 hC2 e32 e3 e0
  generalize addR S bufs = R at *
  obtain ⟨r1, r2⟩ := R
  simp only at HC27 ⊢
  have hr1 : (r1 == r1) = true := by simp
  have hr2 : (r2 == r2) = true := by simp
  go_wp2
  go_region_held3 (fun w' => w'.cell? ⟨H.pb, 2, none⟩ = some (.pointer (some ⟨H.px, 0, none⟩)) ∧ w'.cell? ⟨w.heap.size, 3, none⟩ = some (.slice la len lc)) ((first | exact ⟨d2, e33⟩ | exact HS5.out))
    ((go_at_call 27; refine HC27.out.mono ?_; rintro e w5 ⟨rfl, hg5⟩; have HG5 := hid hg5; have HS5 := hid (And.intro hg5.1.cells.2.2.1 ((World.cell?_of_block (w := w3.drew) (hg5.2 w.heap.size (.inr ⟨Nat.le_refl _, hClt⟩)) (a := ⟨w.heap.size, 3, none⟩)).trans e33d)); clear hg5))
  have e35 := HS5.out.2
  have HLA5 : Hid (CBufs w5 la bufs) := hid (HLA3.out.keep (fun hp b off e => HG5.out.2 b (.inl (HLA.out (by rw [← HLEN.out]; exact hp) b off e))))
  have HL25 : Hid (CBufs w5 a2 bufs) := hid (HL23.out.keep (fun hp b off e => HG5.out.2 b (.inr (HK2.out hp b off e))))
  have hsb := sameBufs_same w5 a2 la c2 lc bufs (by rw [HLEN.out]; omega) HL25.out HLA5.out
  rw [HLEN.out] at hsb
  have HSB := hid hsb
  clear hsb
  rw [HLEN.out]
  go_wp2_with (go_at_call 28; refine HSB.out.mono ?_; rintro e w9 ⟨rfl, ⟨qd, hw9⟩⟩; rw [hw9]; clear hw9 w9)
  go_ret
  exact ⟨by simp, _, T, (HG5.out.1.below (below_drewN (Below.refl _ _) _)).less (fun b hb => .inl hb), Nat.le_succ _⟩
end
end Go.Proofs.Ytjnhcbompgmknaa
