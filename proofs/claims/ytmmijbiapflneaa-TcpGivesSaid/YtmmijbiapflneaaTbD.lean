/- What came early comes in order. -/
import Derived.Test.YtmmijbiapflneaaTbC
namespace Go.Proofs.Ytmmijbiapflneaa
open Go.RowKit Go.Maps
set_option linter.unusedVariables false
/-- One early byte comes in order. -/
def comeS (c : Cn) (b : Int) : Cn := { c with E := upd c.E c.R none, ec := c.ec - 1, came := c.came ++ [b], R := a32 c.R 1 }
def goS (c : Cn) : Nat → Cn × Bool
  | 0 => if c.en && (c.R == c.en0) then ({ c with R := a32 c.R 1, lv := false }, true) else (c, false)
  | k + 1 => if c.en && (c.R == c.en0) then ({ c with R := a32 c.R 1, lv := false }, true) else match c.E c.R with
    | none => (c, false)
    | some b => goS (comeS c b) k
def goOnS (c : Cn) : Cn × Bool := goS c c.ec
theorem come_cells (c : Cn) (vc vm vw v2 : Value) (b : Int) : (((cnC c vc vm vw).setIfInBounds 1 v2).setIfInBounds 0 (.int .u32 (a32 c.R 1))) = cnC (comeS c b) v2 vm vw := by simp [cnC, comeS]
theorem over_cells (c : Cn) (vc vm vw : Value) : (((cnC c vc vm vw).setIfInBounds 0 (.int .u32 (a32 c.R 1))).setIfInBounds 2 (.map none)) = cnC { c with R := a32 c.R 1, lv := false } vc (.map none) vw := by simp [cnC]
def mapSz (w : World) (b : Nat) : Nat := match w.heap[b]? with
  | some (.map es _) => es.size
  | _ => 0
theorem MpC.sz {w : World} {b k : Nat} {E : Int → Option Int} (h : MpC w b k E) : mapSz w b = k := by
  obtain ⟨D, ⟨es, c, hh, F, hs, hD⟩, h2, h3⟩ := h
  have : Go.Maps.size D = es.size := by rw [hD]; simp [Go.Maps.size, length_sorted]
  unfold mapSz
  rw [hh]
  simp only
  omega
theorem goS_over {c : Cn} {k : Nat} (he : c.en = true) (hr : c.R = c.en0) : goS c k = ({ c with R := a32 c.R 1, lv := false }, true) := by
  cases k <;> simp [goS, he, hr]
theorem goS_none {c : Cn} {k : Nat} (h : ¬ (c.en = true ∧ c.R = c.en0)) (hE : c.E c.R = none) : goS c k = (c, false) := by
  have h2 : (c.en && (c.R == c.en0)) = false := by
    cases he : c.en with
    | false => rfl
    | true => simp; intro e; exact h ⟨he, e⟩
  cases k <;> simp [goS, h2, hE]
theorem goS_some {c : Cn} {k : Nat} (h : ¬ (c.en = true ∧ c.R = c.en0)) {b : Int} (hE : c.E c.R = some b) : goS c (k + 1) = goS (comeS c b) k := by
  have h2 : (c.en && (c.R == c.en0)) = false := by
    cases he : c.en with
    | false => rfl
    | true => simp; intro e; exact h ⟨he, e⟩
  simp [goS, h2, hE]
theorem one_byte {w : World} {g : Nat} {b : Int} (h : w.heap[g]? = some (.cells #[.int .u8 b] 5 (0, 0))) (hb : IsB b) : Bytes w (some ⟨g, 0, none⟩) [b] :=
  Bytes.mk_ (fun x hx => by simp at hx; subst hx; exact hb) (fun i hi => by
    obtain rfl : i = 0 := by simpa using hi
    exact cell_of h rfl)
/-- A byte out of the map, behind what came. -/
theorem CnX.come {w w1 w2 w3 : World} {p gm : Nat} {S : Nat → Prop} {c : Cn} {vc vw : Value} (h : CnX w p S c vc (.map (some gm)) vw) (hlv : c.lv = true) (b : Int) (k : Nat) (hk : c.ec = k + 1) (hM : MpC w1 gm k (upd c.E c.R none)) (m1 : Mods (fun x => x = gm) w w1) (a : Option Addr) (n cp : Nat)
    (hmods : Mods (fun x => blkV vc = some x) w1 w2) (hrow : RW w2 5 1 (.slice a n cp) (c.came ++ [b]).length (u8s (c.came ++ [b]))) (hblk : blkV (.slice a n cp) = blkV vc ∨ ∃ x, w1.heap.size ≤ x ∧ blkV (.slice a n cp) = some x)
    (h3 : w3 = (w2.setCell ⟨p, 1, none⟩ (.slice a n cp)).setCell ⟨p, 0, none⟩ (.int .u32 (a32 c.R 1))) : ∃ S' vc', CnX w3 p S' (comeS c b) vc' (.map (some gm)) vw ∧ Kp S w S' w3 := by
  have hX1 := h.mapE hlv m1 _ _ hM
  have hpne : blkV vc ≠ some p := fun e => by
    obtain ⟨cur, hk⟩ := hX1.rc.kind e
    rw [hX1.box] at hk
    simp only [Option.some.injEq, Obj.cells.injEq] at hk
    exact absurd hk.2.1 (by decide)
  have hbp := (hmods.block p (hX1.slt p hX1.sp) hpne).trans hX1.box
  have k1 := setc hbp 1 (.slice a n cp)
  have k2 := setc k1 0 (.int .u32 (a32 c.R 1))
  rw [← h3] at k2
  have e : (((cnC { c with E := upd c.E c.R none, ec := k } vc (.map (some gm)) vw).setIfInBounds 1 (.slice a n cp)).setIfInBounds 0 (.int .u32 (a32 c.R 1))) = cnC (comeS c b) (.slice a n cp) (.map (some gm)) vw := by simp [cnC, comeS]
  rw [e] at k2
  have M1 := ((hmods.weak (al' := fun b => blkV vc = some b ∨ b = p) (fun b hb => .inl (.inl hb))).setCell p 1 (.slice a n cp) (.inr rfl)).setCell p 0 (.int .u32 (a32 c.R 1)) (.inr rfl)
  rw [← h3] at M1
  have hr2 : RW w3 5 1 (.slice a n cp) (c.came ++ [b]).length (u8s (c.came ++ [b])) := hrow.keep (fun x hb => by
    have hne : x ≠ p := fun e => by
      subst e
      obtain ⟨cur, hk⟩ := hrow.kind hb
      rw [hbp] at hk
      simp only [Option.some.injEq, Obj.cells.injEq] at hk
      exact absurd hk.2.1 (by decide)
    rw [h3]
    exact (((Mods.refl (fun b => b = p) w2).setCell p 1 _ rfl).setCell p 0 _ rfl).block x (hrow.lt hb) hne)
  obtain ⟨S', g1, g2⟩ := hX1.comes (.slice a n cp) (comeS c b) M1 k2 hr2 (fun x hb => by
    rcases hblk with e | ⟨y, hy, e⟩
    · exact .inl (by rw [← e]; exact hb)
    · rw [e] at hb; simp at hb; exact .inr (by omega)) rfl rfl (by show c.ec - 1 = k; omega) rfl
  refine ⟨S', _, g1, ?_⟩
  obtain ⟨gm', e1, e2, _⟩ := h.map_at hlv
  obtain rfl : gm' = gm := by simpa using e1.symm
  exact Kp.trans ⟨fun _ h => .inl h, m1.weak (fun x hx => .inl (by rw [hx]; exact e2))⟩ g2
set_option maxRecDepth 100000 in
set_option maxHeartbeats 16000000 in
theorem goOn_any {w : World} {p : Nat} {S : Nat → Prop} {c : Cn} {vc vm vw : Value} (h : CnX w p S c vc vm vw) (hlv : c.lv = true) (hR : IsU c.R) (hl : c.came.length + c.ec ≤ 800000) (hE : ∀ x y, c.E x = some y → IsB y) :
    Calls Try.prog 53 #[.pointer (some ⟨p, 0, none⟩)] w fun e w' => e = .returned (.bool (goOnS c).2) ∧ ∃ S' vc' vm', CnX w' p S' (goOnS c).1 vc' vm' vw ∧ Kp S w S' w' := by
  obtain ⟨gm, rfl, hgS, hgM⟩ := h.map_at hlv
  unfold goOnS
  obtain ⟨RES, hRES⟩ : ∃ x, goS c c.ec = x := ⟨_, rfl⟩
  rw [hRES]
  have HRES := hid hRES
  have HX := hid h
  have HLV := hid hlv
  have HR := hid hR
  have HL := hid hl
  have HE := hid hE
  clear h hlv hR hl hgM hgS hRES hE
  go_enter Try.func53, Try.ntmps53
  go_wp2_with fail
  go_loopw [3, 4] (fun _ _ wr => ∃ (cj : Cn) (vcj : Value) (Sj : Nat → Prop), goS cj cj.ec = RES ∧ CnX wr p Sj cj vcj (.map (some gm)) vw ∧ Kp S w Sj wr ∧ cj.lv = true ∧ IsU cj.R ∧ cj.came.length + cj.ec ≤ 800000 ∧ ∀ x y, cj.E x = some y → IsB y) (fun _ _ wr => mapSz wr gm)
  case atStart => exact ⟨c, vc, S, HRES.out, HX.out, Kp.refl _ _, HLV.out, HR.out, HL.out, HE.out⟩
  case round =>
    obtain ⟨cj, vcj, Sj, hres, hx, hkp, hlv, hr, hl, hE⟩ := hrel
    obtain ⟨gm', e1, e2, hM⟩ := hx.map_at hlv
    obtain rfl : gm' = gm := by simpa using e1.symm
    clear e1 e2 HRES HX HLV HR HL HE
    have HXj := hid hx
    have HKj := hid hkp
    have HRS := hid hres
    have HSZ := hid hM.sz
    have p0 := cell_of hx.box (i := 0) (v := .int .u32 cj.R) rfl
    have p1 := cell_of hx.box (i := 1) (v := vcj) rfl
    have p2 := cell_of hx.box (i := 2) (v := .map (some gm')) rfl
    have p3 := cell_of hx.box (i := 3) (v := .bool cj.en) rfl
    have p4 := cell_of hx.box (i := 4) (v := .int .u32 cj.en0) rfl
    have f0 := froz_of hx.box 0
    have f1 := froz_of hx.box 1
    have f2 := froz_of hx.box 2
    have qa := wrapU_add cj.R 1
    by_cases hov : cj.en = true ∧ cj.R = cj.en0
    · have hg := goS_over (k := cj.ec) hov.1 hov.2
      have hne : (cj.R != cj.en0) = false := by simp [hov.2]
      have hen := hov.1
      rw [hen] at p3
      have k1 := setc hx.box 0 (.int .u32 (a32 cj.R 1))
      have k2 := setc k1 2 (.map none)
      rw [over_cells] at k2
      have HM2 := hid (((Mods.refl (fun b => b = p) wr).setCell p 0 (.int .u32 (a32 cj.R 1)) rfl).setCell p 2 (.map none) rfl)
      have FIN : Hid (∀ W, W = (wr.setCell ⟨p, 0, none⟩ (.int .u32 (a32 cj.R 1))).setCell ⟨p, 2, none⟩ (.map none) → RES.2 = true ∧ ∃ S' vc' vm', CnX W.drew p S' RES.1 vc' vm' vw ∧ Kp S w S' W.drew) := hid (fun W hW => by
        subst hW
        rw [← HRS.out, hg]
        refine ⟨rfl, Sj, _, .map none, (HXj.out.gen HM2.out k2 HXj.out.rc HXj.out.rw_ (fun b hb => hb) (fun b hb => hb) (.inl ⟨rfl, rfl⟩)).drew, hkp.trans ⟨fun _ h => .inl h, HM2.out.drew.weak (fun b hb => .inl (by rw [hb]; exact HXj.out.sp))⟩⟩)
      clear hx hkp hres hM hg hov k1 k2 hen
      go_wp2_with fail
      go_region
      go_wp2_with fail
      go_ret
      obtain ⟨e, r⟩ := FIN.out _ rfl
      exact ⟨by rw [e]; rfl, r⟩
    · have hcond : (cj.en = false) ∨ (cj.en = true ∧ (cj.R != cj.en0) = true) := by
        cases he : cj.en with
        | false => exact .inl rfl
        | true => exact .inr ⟨rfl, by simpa using fun e => hov ⟨he, e⟩⟩
      have HOV := hid hov
      have HRU := hid hr
      have hlk := hM.look_ok hr
      cases hEb : cj.E cj.R with
      | none =>
        rw [hEb] at hlk
        simp only [Option.getD_none, Option.isSome_none] at hlk
        have hlk1 : (Instr.lookup 54 (.map (some gm')) (.int .u32 cj.R) true).run Try.prog wr.drew.drew = .ok (.tuple #[.int .u8 0, .bool false]) wr.drew.drew := by
          have := (hM.keep (w' := wr.drew.drew) rfl).look_ok hr
          rwa [hEb] at this
        have FIN : Hid (∀ W, Below wr.heap.size wr W → RES.2 = false ∧ ∃ S' vc' vm', CnX W p S' RES.1 vc' vm' vw ∧ Kp S w S' W) := hid (fun W hW => by
          rw [← HRS.out, goS_none HOV.out hEb]
          exact ⟨rfl, Sj, _, _, HXj.out.later hW, HKj.out.trans (Kp.below hW)⟩)
        clear hx hkp hres hM hov hr hl hE hEb
        rcases hcond with hen | ⟨hen, hne⟩
        all_goals
          rw [hen] at p3
          clear hen
          go_wp2_with fail
          go_region
          go_wp2_with fail
          go_region
          go_wp2_with fail
          go_ret
          obtain ⟨e, r⟩ := FIN.out _ (below_drewN (Below.refl _ _) 2)
          exact ⟨by rw [e]; rfl, r⟩
      | some b =>
        obtain ⟨va, vk, hvs⟩ := hx.rc.shape
        subst hvs
        obtain ⟨k, hk⟩ : ∃ k, cj.ec = k + 1 := by
          cases hec : cj.ec with
          | zero => rw [hec] at hM; rw [hM.vac hr] at hEb; simp at hEb
          | succ k => exact ⟨k, rfl⟩
        rw [hEb] at hlk
        simp only [Option.getD_some, Option.isSome_some] at hlk
        have hlk1 : (Instr.lookup 54 (.map (some gm')) (.int .u32 cj.R) true).run Try.prog wr.drew.drew = .ok (.tuple #[.int .u8 b, .bool true]) wr.drew.drew := by
          have := (hM.keep (w' := wr.drew.drew) rfl).look_ok hr
          rwa [hEb] at this
        have hM3 : MpC wr.drew.drew.drew gm' (k + 1) cj.E := by rw [← hk]; exact hM.keep rfl
        obtain ⟨w5, hdel, hM5, hg5⟩ := hM3.del hr hEb 0
        have m5 : Mods (fun x => x = gm') wr w5 := (Mods.of_below (w' := wr.drew.drew.drew) (below_drewN (Below.refl _ _) 3)).tr ((Mods.of_grown hg5).weak (fun x hx => .inl (by simpa using hx.symm)))
        obtain ⟨W6, hW6⟩ : ∃ W, W = w5.alloc (.cells #[.int .u8 b] 5) := ⟨_, rfl⟩
        have b56 : Below w5.heap.size w5 W6 := by rw [hW6]; exact below_alloc (Below.refl _ _) (Nat.le_refl _) _
        have h6 : W6.heap[w5.heap.size]? = some (.cells #[.int .u8 b] 5 (0, 0)) := by rw [hW6]; exact alloc_new w5 _
        have m6 : Mods (fun x => x = gm') wr W6 := by rw [hW6]; exact m5.alloc _
        have hM6 : MpC W6 gm' k (upd cj.E cj.R none) := hM5.keep (b56.block _ hM5.lt)
        have hX6 := hx.mapE hlv m6 _ _ hM6
        have hbyb : Bytes W6 (some ⟨w5.heap.size, 0, none⟩) [b] := one_byte h6 (hE _ _ hEb)
        obtain ⟨a4, c4, w7, hrun, hrow, hmods, hblk⟩ := RB.push W6 (.slice va cj.came.length vk) cj.came hX6.rc [b] (some ⟨w5.heap.size, 0, none⟩) 1 1 rfl hbyb (by omega) 28
        have hpne : blkV (.slice va cj.came.length vk) ≠ some p := fun e => by
          obtain ⟨cur, hk⟩ := hX6.rc.kind e
          rw [hX6.box] at hk
          simp only [Option.some.injEq, Obj.cells.injEq] at hk
          exact absurd hk.2.1 (by decide)
        have hX5 := hx.mapE hlv m5 _ _ hM5
        have hbp := (hmods.block p (hX6.slt p hX6.sp) hpne).trans hX6.box
        have c50 := cell_of hX5.box (i := 1) (v := (.slice va cj.came.length vk)) rfl
        have c70 := cell_of hbp (i := 0) (v := .int .u32 cj.R) rfl
        have c71 := cell_of hbp (i := 1) (v := (.slice va cj.came.length vk)) rfl
        have f70 := froz_of hbp 0
        have f71 := froz_of hbp 1
        obtain ⟨w8, hw8⟩ : ∃ W, W = (w7.setCell ⟨p, 1, none⟩ (.slice a4 (cj.came.length + 1) c4)).setCell ⟨p, 0, none⟩ (.int .u32 (a32 cj.R 1)) := ⟨_, rfl⟩
        obtain ⟨S8, vc8, hx8, hk8⟩ := hx.come hlv b k hk hM6 m6 a4 (cj.came.length + 1) c4 hmods hrow hblk hw8
        have hsz8 : mapSz w8 gm' = k := by
          obtain ⟨g8, e1, _, e3⟩ := hx8.map_at (show cj.lv = true from hlv)
          obtain rfl : g8 = gm' := by simpa using e1.symm
          rw [e3.sz]
          show cj.ec - 1 = k
          omega
        have FIN : Hid (∃ (cj' : Cn) (vcj' : Value) (Sj' : Nat → Prop), goS cj' cj'.ec = RES ∧ CnX w8 p Sj' cj' vcj' (.map (some gm')) vw ∧ Kp S w Sj' w8 ∧ cj'.lv = true ∧ IsU cj'.R ∧ cj'.came.length + cj'.ec ≤ 800000 ∧ ∀ x y, cj'.E x = some y → IsB y) := hid (by
          refine ⟨comeS cj b, vc8, S8, ?_, hx8, hkp.trans hk8, hlv, a32_u _ _, ?_, ?_⟩
          · rw [← hres, hk, goS_some hov hEb]
            show goS (comeS cj b) (cj.ec - 1) = _
            rw [hk]
            rfl
          · show (cj.came ++ [b]).length + (cj.ec - 1) ≤ 800000
            rw [List.length_append]
            simp only [List.length_cons, List.length_nil]
            omega
          · intro x y hxy
            have hxy2 : upd cj.E cj.R none x = some y := hxy
            by_cases e : x = cj.R
            · subst e; rw [upd_same] at hxy2; simp at hxy2
            · rw [upd_other _ _ e] at hxy2; exact hE x y hxy2)
        have HM8 : Hid (mapSz w8 gm' < mapSz wr gm') := hid (by rw [hsz8, HSZ.out]; omega)
        have HAP := hid hrun
        have HW6 := hid hW6
        have HW8 := hid hw8
        clear hx hkp hres hM hov hr hl hE hEb hM3 hM5 hg5 m5 b56 h6 m6 hM6 hX6 hbyb hrun hrow hmods hblk hpne hX5 hbp hx8 hk8 hsz8 hk hw8
        have HW6' := hW6.symm
        clear hW6
        rcases hcond with hen | ⟨hen, hne⟩
        all_goals
          rw [hen] at p3
          clear hen
          go_wp2_with fail
          go_region
          go_wp2_with fail
          go_region
          go_wp2_with fail
          go_region
          go_wp2_with (refine wpList_append_run2 rfl (.tmp 47) (.tmp 49) 28 28 rfl rfl rfl HAP.out ?_; clear HAP)
          go_roundw
          case rel => rw [← HW8.out]; exact FIN.out
          case measure => rw [← HW8.out]; exact HM8.out
end Go.Proofs.Ytmmijbiapflneaa
