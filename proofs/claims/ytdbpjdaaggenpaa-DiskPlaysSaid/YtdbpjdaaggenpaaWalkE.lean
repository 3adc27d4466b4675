/- Crash: of each dirty block one of its versions, or its platter, is picked; then there are no versions. -/
import Derived.Test.YtdbpjdaaggenpaaWalkD
namespace Go.Proofs.Ytdbpjdaaggenpaa
open Go.RowKit

def Ints (w : World) (a : Option Addr) (l : List Int) : Prop :=
  ∀ i, i < l.length → ∃ b off, a = some ⟨b, off, none⟩ ∧ w.cell? ⟨b, off + i, none⟩ = some (.int .i64 (l.getD i 0)) ∧ IsI (l.getD i 0)
/-- .. in a block that is not among 'al'. -/
def Off (al : Nat → Prop) (w : World) (a : Option Addr) (l : List Int) : Prop := ∀ b off, a = some ⟨b, off, none⟩ → 0 < l.length → b < w.heap.size ∧ ¬ al b
theorem Ints.mods {w w' : World} {al : Nat → Prop} {a : Option Addr} {l : List Int} (h : Ints w a l) (ho : Off al w a l) (hm : Mods al w w') : Ints w' a l := by
  intro i hi
  obtain ⟨b, off, ha, hc, hI⟩ := h i hi
  obtain ⟨h1, h2⟩ := ho b off ha (by omega)
  exact ⟨b, off, ha, (World.cell?_of_block (w := w) (hm.block b h1 h2)).trans hc, hI⟩
theorem Ints.below {w w' : World} {a : Option Addr} {l : List Int} (h : Ints w a l) (hb : Below w.heap.size w w') : Ints w' a l := by
  intro i hi
  obtain ⟨b, off, ha, hc, hI⟩ := h i hi
  exact ⟨b, off, ha, cell_later hb hc, hI⟩

theorem Ints.off {w w' : World} {al : Nat → Prop} {a : Option Addr} {l : List Int} (h : Ints w a l) (hs : w.heap.size ≤ w'.heap.size) (ha : ∀ b, al b → w.heap.size ≤ b) : Off al w' a l := fun b off e h0 => by
  obtain ⟨b', off', e', hc, _⟩ := h 0 h0
  rw [e] at e'
  simp only [Option.some.injEq, Addr.mk.injEq] at e'
  obtain ⟨rfl, _, _⟩ := e'
  have hb : b < w.heap.size := by
    unfold World.cell? at hc
    split at hc
    · rename_i hh; exact (Array.getElem?_eq_some_iff.1 hh).1
    · cases hc
  exact ⟨by omega, fun h2 => by have := ha b h2; omega⟩

/-- The platters when i blocks have been through. -/
def crashTo (A : Abs) (L picks : List Int) : Nat → Int → Option (List Int)
  | 0 => A.P
  | i + 1 =>
    let k := L.getD i 0
    let c := wi (picks.getD i 0) ((A.V k).length + 1)
    if 0 < c then upd (crashTo A L picks i) k (some ((A.V k).getD (c - 1).toNat [])) else crashTo A L picks i

theorem dirty_len {A : Abs} {L : List Int} (h : DirtyL A L) (hN : A.N ≤ 65536) (hv : ∀ k, A.V k ≠ [] → 0 ≤ k ∧ k < A.N) : L.length ≤ 65536 := by
  have gen : ∀ (l : List Int) (a : Int), l.Pairwise (· < ·) → (∀ k ∈ l, a ≤ k ∧ k < 65536) → (l.length : Int) ≤ max 0 (65536 - a) := by
    intro l
    induction l with
    | nil => intro a _ _; simp only [List.length_nil]; omega
    | cons x l ih =>
      intro a hp hm
      have h1 := hm x (by simp)
      have h2 := ih (x + 1) (List.pairwise_cons.1 hp).2 (fun k hk => by
        have := (List.pairwise_cons.1 hp).1 k hk
        have := hm k (by simp [hk])
        omega)
      simp only [List.length_cons]
      omega
  have := gen L 0 h.1 (fun k hk => by have := hv k ((h.2 k).1 hk); omega)
  omega

theorem ints_of_owns {w : World} {base : Nat} {v : Value} {L : List Int} (h : w.ownsRow base 3 1 v L.length (L.map encZ)) (hI : ∀ x ∈ L, IsI x) : ∃ a cap, v = .slice a L.length cap ∧ Ints w a L ∧ ∀ b off, a = some ⟨b, off, none⟩ → base ≤ b ∧ b < w.heap.size := by
  rcases h.2 with ⟨rfl, h0⟩ | ⟨g, cap, cur, rfl, hb, hh, hc1, _, hcs, ht⟩
  · rw [h0]
    exact ⟨none, 0, rfl, fun i hi => by omega, fun b off e => by cases e⟩
  · refine ⟨_, cap, rfl, fun i hi => ⟨g, 0, rfl, ?_, ?_⟩, fun b off e => ?_⟩
    · have : cur[i]? = some (.int .i64 (L.getD i 0)) := by
        have e : (cur.toList.take (L.length * 1))[i]? = (L.map encZ)[i]? := by rw [ht]
        rw [List.getElem?_take] at e
        simp [hi, encZ] at e
        simp [e, List.getD, hi]
      simp [World.cell?, hh, this]
    · have : L.getD i 0 = L[i] := by simp [List.getD, hi]
      rw [this]
      exact hI _ (List.getElem_mem hi)
    · simp at e
      obtain ⟨rfl, _⟩ := e
      exact ⟨hb, (Array.getElem?_eq_some_iff.1 hh).1⟩

theorem DiskAt.mono {w : World} {pd bp bv : Nat} {MP MV : Int → Option Value} {A : Abs} {n n' : Nat} {al : Nat → Prop} (d : DiskAt w pd bp bv MP MV A n al) (h : n ≤ n') : DiskAt w pd bp bv MP MV A n' al :=
  { lt := d.lt, box := d.box, apd := d.apd, abp := d.abp, abv := d.abv, ne := d.ne, mp := d.mp.mono h, mv := d.mv.mono h, rp := d.rp, rv := d.rv, ap := d.ap, hN := d.hN, vN := d.vN, vL := fun k => Nat.le_trans (d.vL k) h }
theorem Disk.mono {w : World} {pd : Nat} {A : Abs} {n n' : Nat} {al : Nat → Prop} (d : Disk w pd A n al) (h : n ≤ n') : Disk w pd A n' al := let ⟨bp, bv, MP, MV, d⟩ := d; ⟨bp, bv, MP, MV, d.mono h⟩
theorem Step.after {w w1 w2 w3 : World} {pd : Nat} {A : Abs} {n : Nat} {al : Nat → Prop} (hb : Below w.heap.size w w1) (hm : Mods al w1 w2) (h : Step w2 w3 pd A n al) : Step w w3 pd A n al := by
  obtain ⟨al', h1, h2, h3⟩ := h
  have hs := Nat.le_trans hb.size hm.size
  exact ⟨al', h1, fun b hb' => (h2 b hb').imp id (fun h => by omega), ((Mods.of_below hb).trans hm (fun b h => .inl h)).trans h3 (fun b h => .inl h)⟩

/-- A platter is laid. -/
theorem DiskAt.lay {w w1 : World} {pd bp bv : Nat} {MP MV : Int → Option Value} {A : Abs} {n : Nat} {al : Nat → Prop} (d : DiskAt w pd bp bv MP MV A n al) (k : Int) (u : Value) (l : List Int) (hr : Row w al u l)
    (hm : MapIs w1 bp (n + 1) (upd MP k (some u))) (hg : w.grownBy w1 (some bp)) : DiskAt w1 pd bp bv (upd MP k (some u)) MV { A with P := upd A.P k (some l) } (n + 1) al := by
  have hk : ∀ b, al b → b ≠ bp → w1.heap[b]? = w.heap[b]? := fun b hb hne => hg.block b (d.lt b hb) (by simpa using hne)
  have hmap := d.mp.block
  obtain ⟨es, c, hmap⟩ := hmap
  have hcell : ∀ g cur t, al g → w.heap[g]? = some (.cells cur t (0, 0)) → w1.heap[g]? = w.heap[g]? := fun g cur t ha hc => hk g ha (fun e => by rw [e, hmap] at hc; cases hc)
  have hrow : ∀ {v l}, Row w al v l → Row w1 al v l := fun h => h.keep (fun g cur ha hc => hcell g cur 5 ha hc) (fun _ h => h)
  refine { lt := fun b hb => Nat.lt_of_lt_of_le (d.lt b hb) hg.size, box := (hcell pd _ _ d.apd d.box).trans d.box, apd := d.apd, abp := d.abp, abv := d.abv, ne := d.ne, mp := hm, mv := (d.mv.keep (hk bv d.abv (fun e => d.ne e.symm))).mono (by omega), rp := ?_, rv := ?_, ap := d.ap, hN := d.hN, vN := d.vN, vL := fun k => by have := d.vL k; exact Nat.le_succ_of_le this }
  · intro j hj
    by_cases e : j = k
    · subst e
      exact .inr ⟨u, l, upd_same _ _ _, upd_same _ _ _, hrow hr⟩
    · simp only [upd_other _ _ e]
      exact (d.rp j hj).imp id (fun ⟨v, l, h1, h2, h3⟩ => ⟨v, l, h1, h2, hrow h3⟩)
  · intro j hj
    refine (d.rv j hj).imp id (fun ⟨v, h1, h2, h3⟩ => ⟨v, h1, h2, h3.keep (fun g cur ha hc => hcell g cur 5 ha hc) (fun g hg' => ?_) (fun _ h => h)⟩)
    obtain ⟨vs, _, ho, _, ha⟩ := h3
    obtain ⟨cur, hc⟩ := owns_kind ho hg'
    exact hcell g cur 42 (ha g hg') hc

set_option maxRecDepth 100000 in
set_option maxHeartbeats 1000000 in
theorem Crash_any (w : World) (pd : Nat) (A : Abs) (n : Nat) (al : Nat → Prop) (hd : Disk w pd A n al) (hn : n ≤ 549755813888) (ap : Option Addr) (cp : Nat) (picks : List Int) (hp : Ints w ap picks) (ho : Off al w ap picks) :
    Calls Try.prog 18 #[.pointer (some ⟨pd, 0, none⟩), .slice ap picks.length cp] w fun e w' => ∃ L, DirtyL A L ∧ e = .returned (.int .i64 L.length) ∧
      Step w w' pd { A with P := crashTo A L picks (min L.length picks.length), V := fun _ => [] } (n + 65536) al := by
  have hDirty := Dirty_any w pd A n al hd (by omega)
  obtain ⟨bp, bv, MP, MV, d⟩ := hd
  have hN := d.hN
  have hvN := d.vN
  have HD := hid d
  have HP := hid hp
  have HO := hid ho
  clear d hp ho
  go_enter Try.func18, Try.ntmps18
  go_wp2_with (go_at_call 17; refine hDirty.mono ?_; rintro e w1 ⟨v, L, rfl, hL, hrow, hnil, hb1⟩; obtain ⟨aL, cL, rfl, hIL, hoffL⟩ := ints_of_owns hrow (fun x hx => by have := hvN x ((hL.2 x).1 hx); exact isI_of (by omega) (by omega)); have HL := hid hL; have HIL := hid hIL; have HOL := hid hoffL; have HB1 := hid hb1; clear hL hrow hnil hb1 hIL hoffL)
  have hLn := dirty_len HL.out hN.2 hvN
  have HD1 := hid (HD.out.keep HB1.out.size (fun b hb => HB1.out.block b (HD.out.lt b hb)))
  have HP1 := hid (HP.out.below HB1.out)
  have HOP1 : Hid (Off al w1 ap picks) := hid fun b off e h0 => ⟨Nat.lt_of_lt_of_le (HO.out b off e h0).1 HB1.out.size, (HO.out b off e h0).2⟩
  have HOL1 : Hid (Off al w1 aL L) := hid fun b off e _ => ⟨(HOL.out b off e).2, fun ha => by have := HD.out.lt b ha; have := (HOL.out b off e).1; omega⟩
  clear HOL HO HP hvN hDirty
  go_loopw [14] (fun x wr => ∃ i : Nat, i ≤ L.length ∧ i ≤ picks.length ∧ x = .int .i64 i ∧ ∃ MP', DiskAt wr pd bp bv MP' MV { A with P := crashTo A L picks i } (n + i) al ∧ Mods al w1 wr) (fun x _ => L.length - (RowKit.intOf x).toNat)
  case atStart => exact ⟨0, by omega, by omega, rfl, MP, HD1.out, Mods.refl _ _⟩
  case round =>
    obtain ⟨i, hi1, hi2, rfl, MP', d, hmd⟩ := hrel
    have HM := hid hmd
    have HDi := hid d
    obtain ⟨_, hc1, hc2, _⟩ := d.cells
    clear hmd
    by_cases hlt : i < L.length
    · have hki : (i : Int) < (L.length : Int) := by omega
      obtain ⟨bL, oL, haL, hcL, hIk⟩ := HIL.out.mods HOL1.out HM.out i hlt
      subst haL
      have hkm : A.V (L.getD i 0) ≠ [] := (HL.out.2 _).1 (by rw [show L.getD i 0 = L[i] by simp [List.getD, hlt]]; exact List.getElem_mem hlt)
      have hcr : crashTo A L picks (i + 1) = (let c := wi (picks.getD i 0) ((A.V (L.getD i 0)).length + 1); if 0 < c then upd (crashTo A L picks i) (L.getD i 0) (some ((A.V (L.getD i 0)).getD (c - 1).toNat [])) else crashTo A L picks i) := rfl
      generalize L.getD i 0 = k at hcL hIk hkm hcr
      by_cases hpe : i = picks.length
      · subst hpe
        have hmin : min L.length picks.length = picks.length := by omega
        have HMIN := hid hmin
        have hcon := hid (forget_any wr pd _ _ al ⟨_, _, _, _, HDi.out⟩)
        clear d hcr hkm hc1 hc2 hmin
        go_wp2_with (go_at_call 36; refine hcon.out.mono ?_; rintro e w2 ⟨rfl, hst⟩)
        go_ret
        refine ⟨L, HL.out, rfl, ?_⟩
        rw [HMIN.out]
        obtain ⟨al', h1, h2, h3⟩ := hst
        exact Step.after HB1.out HM.out ⟨al', h1.mono (by omega), h2, h3⟩
      · have hpi : ¬ ((i : Int) = (picks.length : Int)) := by omega
        have hpl2 : (i : Int) < (picks.length : Int) := by omega
        obtain ⟨bq, oq, haq, hcq, hIq⟩ := HP1.out.mods HOP1.out HM.out i (by omega)
        subst haq
        generalize picks.getD i 0 = q at hcq hIq hcr
        have hl1 := d.mv.look Try.underlying58 (zero71 wr) hIk
        rcases d.rv k hIk with ⟨_, hv⟩ | ⟨v, hmv, hv, hr⟩
        · exact absurd hv hkm
        rw [hmv] at hl1
        simp only [Option.getD_some] at hl1
        have hvl := d.vL k
        simp only at hr hv hvl
        obtain ⟨gv, cv, rfl, hcap, hcap2, hgv, hcell⟩ := hr.open_ hv
        have hwb := wi_bd q ((A.V k).length + 1) (by omega)
        have ew : IntKind.i64.wrap (((A.V k).length : Int) + 1) = ((A.V k).length : Int) + 1 := IntWalk.i64_in _ (by omega)
        have hone := hid (oneOf_any q ((A.V k).length + 1) (by omega) (by omega))
        by_cases hc : 0 < wi q ((A.V k).length + 1)
        · obtain ⟨c, hce⟩ : ∃ c : Nat, wi q ((A.V k).length + 1) = (c : Int) + 1 := ⟨(wi q ((A.V k).length + 1) - 1).toNat, by omega⟩
          rw [hce] at hone hcr hc hwb
          obtain ⟨u, hu, hrow⟩ := hcell c (by omega)
          have hcl : (c : Int) < ((A.V k).length : Int) := by omega
          have ew2 : IntKind.i64.wrap ((c : Int) + 1 - 1) = (c : Int) := by rw [IntWalk.i64_in _ (by omega)]; omega
          have ew3 : IntKind.i64.wrap (c : Int) = (c : Int) := IntWalk.i64_in _ (by omega)
          have hc00 : (0 : Int) ≤ (c : Int) := by omega
          have ec : (A.V k).getD ((c : Int) + 1 - 1).toNat [] = (A.V k)[c]'(by omega) := by
            have : ((c : Int) + 1 - 1).toNat = c := by omega
            rw [this]
            simp [List.getD, show c < (A.V k).length by omega]
          rw [← ec] at hrow
          simp only [if_pos hc] at hcr
          obtain ⟨w4, hrun, hmap4, hg4⟩ := MapIs.put (w := wr.drew) d.mp Try.underlying57 (by unfold maxLen; omega) hIk u
          have HU := hid hrow
          have HG := hid hg4
          have HM4 := hid hmap4
          have HCR := hid hcr
          have hne1 : gv ≠ bp := by
            intro e
            obtain ⟨es, cc, hm⟩ := d.mp.block
            rw [← e] at hm
            simp [World.cell?, hm] at hu
          have hne2 : pd ≠ bp := by
            intro e
            obtain ⟨es, cc, hm⟩ := d.mp.block
            rw [← e] at hm
            simp [World.cell?, hm] at hc1
          have hc1' : w4.cell? ⟨pd, 1, none⟩ = some (.map (some bp)) := (World.cell?_of_block (w := wr) (hg4.block pd (d.lt pd d.apd) (by simpa using hne2))).trans hc1
          have hu' : w4.cell? ⟨gv, c, none⟩ = some u := (World.cell?_of_block (w := wr) (hg4.block gv (d.lt gv hgv) (by simpa using hne1))).trans hu
          have HN1 := hid hne1
          clear hr hcell hrow hg4 hmap4 hcr d hwb hmv hv hkm ec hvl hne1 hne2
          go_wp2_with (go_at_call 39; refine (hone.out _).mono ?_; rintro e w2 ⟨rfl, hw⟩; rw [hw]; clear hw w2)
          go_region_held3 (fun w' => w'.cell? ⟨pd, 1, none⟩ = some (.map (some bp)) ∧ w'.cell? ⟨gv, c, none⟩ = some u) ((first | exact ⟨hc1, hu⟩ | exact ⟨hc1', hu'⟩)) (fail)
          go_wp2
          go_roundw
          case rel =>
            have hg' : wr.grownBy w4 (some bp) := ⟨HG.out.os, HG.out.tape, HG.out.output, HG.out.size, HG.out.block⟩
            refine ⟨i + 1, by omega, by omega, by go_num, upd MP' k (some u), ?_, HM.out.grown hg' (fun b e => by cases e; exact .inl HDi.out.abp)⟩
            rw [HCR.out]
            exact DiskAt.lay (w := wr) HDi.out k u _ HU.out HM4.out hg'
          case measure => simp [RowKit.intOf]; omega
        · have hc0 : ¬ (wi q ((A.V k).length + 1) > 0) := hc
          simp only [if_neg hc] at hcr
          have HCR := hid hcr
          clear hr hcell hcr d hwb hmv hv hkm hvl
          generalize wi q ((A.V k).length + 1) = c at hone hc hc0
          go_wp2_with (go_at_call 39; refine (hone.out _).mono ?_; rintro e w2 ⟨rfl, hw⟩; rw [hw]; clear hw w2)
          go_roundw
          case rel =>
            refine ⟨i + 1, by omega, by omega, by go_num, MP', ?_, HM.out⟩
            rw [HCR.out]
            exact HDi.out.mono (by omega)
          case measure => simp [RowKit.intOf]; omega
    · have hki : ¬ ((i : Int) < (L.length : Int)) := by omega
      have HMIN : Hid (min L.length picks.length = i) := hid (by omega)
      have hcon := hid (forget_any wr pd _ _ al ⟨_, _, _, _, HDi.out⟩)
      clear d hc1 hc2
      go_wp2_with (go_at_call 36; refine hcon.out.mono ?_; rintro e w2 ⟨rfl, hst⟩)
      go_ret
      refine ⟨L, HL.out, rfl, ?_⟩
      rw [HMIN.out]
      obtain ⟨al', h1, h2, h3⟩ := hst
      exact Step.after HB1.out HM.out ⟨al', h1.mono (by omega), h2, h3⟩
end Go.Proofs.Ytdbpjdaaggenpaa
