/- Flush: of each block its last version is its platter; there are no versions. -/
import Derived.Test.YtdbpjdaaggenpaaLaws
import Derived.Maps.RangeWalk
namespace Go.Proofs.Ytdbpjdaaggenpaa
open Go.RowKit

/-- The platters while some keys are still to come. -/
def flushed (A : Abs) (left : Lit → Bool) : Abs := { A with P := fun k => if left (.int .i64 k) then A.P k else lastOf A k }
theorem flushed_end (A : Abs) (left : Lit → Bool) (h : ∀ kl, left kl = false) : flushed A left = { A with P := lastOf A } := by
  simp only [flushed, Abs.mk.injEq, true_and, and_true]
  funext k
  simp [h]
theorem flushed_start {w : World} {pd bp bv : Nat} {MP MV : Int → Option Value} {A : Abs} {n : Nat} {al : Nat → Prop} (d : DiskAt w pd bp bv MP MV A n al) {D : DataW Value}
    (hat : ∀ k, IsI k → ∀ z, D.atKey (.int .i64 k) z = ((MV k).map DataW.held).getD z) (k : Int) (hk : IsI k) : (flushed A (Maps.has D)).P k = A.P k := by
  simp only [flushed]
  cases hh : Maps.has D (.int .i64 k) with
  | true => rfl
  | false =>
    simp only [Bool.false_eq_true, if_false, lastOf]
    rcases d.rv k hk with ⟨_, h⟩ | ⟨v, h, _⟩
    · rw [if_pos h]
    · have := Maps.has_true_of_atKey (D := D) (k := .int .i64 k) (y := .held v) (fun z => by rw [hat k hk z, h]; rfl)
      rw [this] at hh; cases hh
theorem flushed_step (A : Abs) (left : Lit → Bool) (x : Int) (l : List Int) (hl : lastOf A x = some l) :
    { flushed A left with P := upd (flushed A left).P x (some l) } = flushed A (fun z => left z && !z.sameKey (.int .i64 x)) := by
  simp only [flushed, Abs.mk.injEq, true_and, and_true]
  funext k
  by_cases e : k = x
  · subst e; simp [upd, Lit.sameKey, hl]
  · simp [upd, Lit.sameKey, e]

theorem DiskAt.other {w : World} {pd bp bv : Nat} {MP MV : Int → Option Value} {A A' : Abs} {n : Nat} {al : Nat → Prop} (d : DiskAt w pd bp bv MP MV A n al) (hN : A'.N = A.N) (hP : ∀ k, IsI k → A'.P k = A.P k) (hV : A'.V = A.V) : DiskAt w pd bp bv MP MV A' n al := by
  have e : A' = { N := A.N, P := A'.P, V := A.V } := by cases A'; simp_all
  rw [e]
  exact { lt := d.lt, box := d.box, apd := d.apd, abp := d.abp, abv := d.abv, ne := d.ne, mp := d.mp, mv := d.mv, rp := fun k hk => by simp only [hP k hk]; exact d.rp k hk, rv := d.rv, ap := d.ap, hN := d.hN, vN := d.vN, vL := d.vL }

theorem size_keys {w : World} {pd bp bv : Nat} {MP MV : Int → Option Value} {A : Abs} {n : Nat} {al : Nat → Prop} (d : DiskAt w pd bp bv MP MV A n al) {D : DataW Value} (h1 : w.ownsMap Try.prog 3 raw bv n D)
    (h2 : ∀ k, IsI k → ∀ z, D.atKey (.int .i64 k) z = ((MV k).map DataW.held).getD z) : Maps.size D ≤ 65536 := by
  have hd := dirty_of d h1 h2 (List.Perm.refl _)
  have := dirty_len hd d.hN.2 d.vN
  rw [List.length_mergeSort] at this
  obtain ⟨es, rfl⟩ := h1.isMap
  simpa [Maps.size, intKeys] using this

set_option maxRecDepth 100000 in
set_option maxHeartbeats 1000000 in
theorem Flush_any (w : World) (pd : Nat) (A : Abs) (n : Nat) (al : Nat → Prop) (hd : Disk w pd A n al) (hn : n ≤ 549755813888) :
    Calls Try.prog 16 #[.pointer (some ⟨pd, 0, none⟩)] w fun e w' => e = .returned undef ∧ Step w w' pd { A with P := lastOf A, V := fun _ => [] } (n + 65536) al := by
  obtain ⟨bp, bv, MP, MV, d⟩ := hd
  obtain ⟨D, hown, hat⟩ := d.mv
  have hsz := size_keys d hown hat
  obtain ⟨_, _, hc2, _⟩ := d.cells
  have HD := hid d
  have HAT := hid hat
  have HOw := hid hown
  clear hat d
  go_enter Try.func16, Try.ntmps16
  go_wp2_with (first
    | (at_range; refine wpList_range_own _ rfl _ 58 rfl 3 71 intKey Try.underlying58 raw bv n D rfl hown ?_; intro w0 hrg0 hg0 hs0)
    | go_in)
  go_frame
  have hb0 : Below w.heap.size w w0 := (Below.refl _ w).grown hg0 (Nat.le_refl _) (fun j hj => by cases hj)
  have HB0 := hid hb0
  clear hg0 hown hb0
  go_loopw [2] (fun _ wr => ∃ (left : Lit → Bool) (cnt : Nat) (MP' : Int → Option Value), wr.ranges Try.prog 3 raw bv w.heap.size n D left cnt ∧ cnt ≤ Maps.size D ∧ DiskAt wr pd bp bv MP' MV (flushed A left) (n + (Maps.size D - cnt)) al ∧ Mods al w wr)
    (fun _ wr => wr.rangeLeft bv w.heap.size)
  case atStart =>
    exact ⟨Maps.has D, Maps.size D, MP, hrg0, Nat.le_refl _, ((HD.out.keep HB0.out.size (fun b hb => HB0.out.block b (HD.out.lt b hb))).other (A' := flushed A (Maps.has D)) rfl (fun k hk => flushed_start HD.out HAT.out k hk) rfl).mono (by omega), Mods.of_below HB0.out⟩
  case round =>
    obtain ⟨left, cnt, MP', hrg, hcs, d, hmo⟩ := hrel
    have HDi := hid d
    have HM := hid hmo
    clear d hmo hrg0 hs0 hc2
    go_wp2_with (first
      | (at_next; refine wpList_next_ranges _ rfl _ rfl 3 intKey raw (Value.int .i64) (fun v : Value => v) (fun key kl hk => by obtain ⟨x, hx, _⟩ := Maps.keyOf_int_inv Try.underlying3 hk; exact ⟨x, hx⟩) (fun v y _ => ⟨v, rfl⟩) bv w.heap.size n _ _ _ rfl hrg ?_ ?_)
      | go_in)
    · intro hc0 hl0
      have hcon := hid (forget_any wr pd _ _ al ⟨_, _, _, _, HDi.out⟩)
      go_wp2_with (go_at_call 36; refine hcon.out.mono ?_; rintro e w2 ⟨rfl, hst⟩)
      go_end0
      refine ⟨rfl, ?_⟩
      obtain ⟨al', h1, h2, h3⟩ := hst
      rw [flushed_end A left hl0] at h1
      exact Step.after (Below.refl _ _) HM.out ⟨al', h1.mono (by omega), h2, h3⟩
    · intro x c kl yd yp w1 cnt1 hkey hlk hv hat1 hrg1 hlt hg1 hs1 hen
      obtain ⟨x', ex, rfl, hIx⟩ := Maps.keyOf_int_inv Try.underlying3 hkey
      obtain rfl : x = x' := by simpa using ex
      have hxI : IsI x := hIx
      have d1 := HDi.out.keep hg1.size (fun b hb => hg1.block b (HDi.out.lt b hb) (fun e => by simp at e; have := HD.out.lt b hb; omega))
      obtain ⟨_, hc1, _, _⟩ := d1.cells
      have hmo1 : Mods al w w1 := HM.out.grown hg1 (fun b e => by cases e; exact .inr (Nat.le_refl _))
      have hlast := last_any w1.drew pd bp bv MP' MV (flushed A left) _ al (d1.keep (w' := w1.drew) (Nat.le_refl _) (fun _ _ => rfl)) x hxI
      have hVx : A.V x ≠ [] := by
        intro h0
        rcases d1.rv x hxI with ⟨h, _⟩ | ⟨v, _, h, _⟩
        · have h2 := hat1 .nil
          have h3 := hat1 (.held c)
          rw [HAT.out x hxI, h] at h2 h3
          simp at h2 h3
          rw [← h2] at h3
          cases h3
        · exact h h0
      obtain ⟨l, hl⟩ : ∃ l, lastOf A x = some l := by
        simp only [lastOf, hVx, if_false]
        exact ⟨_, List.getLast?_eq_some_getLast hVx⟩
      have hl2 : lastOf (flushed A left) x = some l := by
        have : lastOf (flushed A left) x = lastOf A x := by simp [lastOf, flushed, hVx]
        rw [this, hl]
      rw [hl2] at hlast
      have HL := hid hlast
      have HLx := hid hl
      have HD1 := hid d1
      have HM1 := hid hmo1
      have HRg1 := hid hrg1
      have HRg := hid hrg
      have hne2 : pd ≠ bp := by
        intro e
        obtain ⟨es, cc, hm⟩ := d1.mp.block
        rw [← e] at hm
        simp [World.cell?, hm] at hc1
      have hpdw := d1.lt pd d1.apd
      clear hs1 hg1 d1 hmo1 hlast hl2 hl hrg1 hrg hat1 hv hlk hkey hVx hIx ex
      go_wp2_with fail
      go_region_held3 (fun w' => w'.cell? ⟨pd, 1, none⟩ = some (.map (some bp))) ((first | exact hc1 | exact hc14))
        ((go_at_call 35; refine HL.out.mono ?_; rintro e w2 ⟨hw, v, rfl, hv⟩; rw [hw]; have hput := MapIs.put (w := w1.drew) HD1.out.mp Try.underlying57 (by unfold maxLen; omega) hxI v; obtain ⟨w4, hrun4, hm4, hg4⟩ := hput; have HV := hid hv; have HM4 := hid hm4; have HG4 := hid hg4; have hc14 := (World.cell?_of_block (w := w1) (hg4.block pd hpdw (by simpa using hne2))).trans hc1; clear hw hv hm4 hg4 w2))
      go_wp2
      go_roundw
      case rel =>
        have hg' : w1.grownBy w4 (some bp) := ⟨HG4.out.os, HG4.out.tape, HG4.out.output, HG4.out.size, HG4.out.block⟩
        refine ⟨_, cnt1, upd MP' x (some v), HRg1.out.kept hg' (fun e => HDi.out.ne (Option.some.inj e).symm) (fun e => ?_), by omega, ?_, HM1.out.grown hg' (fun b e => by cases e; exact .inl HDi.out.abp)⟩
        · have := HD.out.lt bp HD.out.abp; have := Option.some.inj e; omega
        · rw [← flushed_step A left x l HLx.out]
          exact (DiskAt.lay (w := w1) HD1.out x v l HV.out HM4.out hg').mono (by omega)
      case measure =>
        have hg' : w1.grownBy w4 (some bp) := ⟨HG4.out.os, HG4.out.tape, HG4.out.output, HG4.out.size, HG4.out.block⟩
        have h5 := HRg1.out.kept hg' (fun e => HDi.out.ne (Option.some.inj e).symm) (fun e => by have := HD.out.lt bp HD.out.abp; have := Option.some.inj e; omega)
        rw [h5.left_eq, HRg.out.left_eq]
        exact hlt
end Go.Proofs.Ytdbpjdaaggenpaa
