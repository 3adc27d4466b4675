/- What is noted of a segment. -/
import Derived.Test.YtmmijbiapflneaaTeB
namespace Go.Proofs.Ytmmijbiapflneaa
open Go.RowKit Go.Maps
set_option linter.unusedVariables false
theorem putsN_is (c : Cn) (s : Int) (d : List Int) (k : Nat) : ∃ E ec, putsN c s d k = { c with E := E, ec := ec } ∧ ec ≤ c.ec + k := by
  induction k with
  | zero => exact ⟨c.E, c.ec, rfl, Nat.le_refl _⟩
  | succ k ih =>
    obtain ⟨E, ec, h1, h2⟩ := ih
    simp only [putsN, h1, put1]
    split
    · exact ⟨E, ec, rfl, by omega⟩
    · exact ⟨_, _, rfl, by omega⟩
theorem CnX.mapE {w w' : World} {p : Nat} {S : Nat → Prop} {c : Cn} {vc vw : Value} {gm : Nat} (h : CnX w p S c vc (.map (some gm)) vw) (hlv : c.lv = true) (hm : Mods (fun b => b = gm) w w') (E : Int → Option Int) (ec : Nat) (hM : MpC w' gm ec E) : CnX w' p S { c with E := E, ec := ec } vc (.map (some gm)) vw := by
  have hg : S gm ∧ MpC w gm c.ec c.E := by
    rcases h.mp with ⟨e, _⟩ | ⟨_, g, e, h1, h2⟩
    · rw [hlv] at e; simp at e
    · simp only [Value.map.injEq, Option.some.injEq] at e
      subst e
      exact ⟨h1, h2⟩
  obtain ⟨D, ⟨es, cl, hh, _⟩, _⟩ := hg.2
  have hbx := h.box
  have kr : ∀ v n X, RW w 5 1 v n X → RW w' 5 1 v n X := fun v n X hr => hr.keep (fun b hb2 => hm.block b (hr.lt hb2) (fun e => by
    subst e
    obtain ⟨cur, hk⟩ := hr.kind hb2
    rw [hh] at hk
    simp at hk))
  refine ⟨(hm.block p (h.slt p h.sp) (fun e => ?_)).trans hbx, kr _ _ _ h.rc, kr _ _ _ h.rw_, .inr ⟨hlv, gm, rfl, hg.1, hM⟩, h.ne, h.sp, h.sc, h.sw, fun b hb => Nat.lt_of_lt_of_le (h.slt b hb) hm.size⟩
  subst e
  rw [hbx] at hh
  simp at hh
theorem CnX.map_at {w : World} {p : Nat} {S : Nat → Prop} {c : Cn} {vc vm vw : Value} (h : CnX w p S c vc vm vw) (hlv : c.lv = true) : ∃ gm, vm = .map (some gm) ∧ S gm ∧ MpC w gm c.ec c.E := by
  rcases h.mp with ⟨e, _⟩ | ⟨_, g, e, h1, h2⟩
  · rw [hlv] at e; simp at e
  · exact ⟨g, e, h1, h2⟩
theorem MpC.kind {w : World} {b k : Nat} {E : Int → Option Int} (h : MpC w b k E) : ∃ es n, w.heap[b]? = some (.map es n) := by
  obtain ⟨D, ⟨es, cl, hh, _⟩, _⟩ := h
  exact ⟨_, _, hh⟩
theorem room_bd {c : Cn} (ho : CnOk c) (hlv : c.lv = true) : 0 ≤ roomC c ∧ roomC c ≤ 16384 := by
  have h1 := ho.cl
  have h2 := s32_bd c.en0 c.R
  unfold roomC ownW
  cases he : c.en with
  | true => have := ho.en hlv he; simp only [if_true]; omega
  | false => simp only [Bool.false_eq_true, if_false]; omega
theorem app_cells (c : Cn) (vc vm vw v2 : Value) (l : List Int) (r : Int) : ((cnC c vc vm vw).setIfInBounds 1 v2).setIfInBounds 0 (.int .u32 r) = cnC { c with came := l, R := r } v2 vm vw := by simp [cnC]
set_option maxRecDepth 100000 in
set_option maxHeartbeats 16000000 in
theorem note_any {w : World} {p : Nat} {S : Nat → Prop} {c : Cn} {vc vm vw : Value} (h : CnX w p S c vc vm vw) (hcl : c.came.length ≤ 16384) (hrb : 0 ≤ roomC c ∧ roomC c ≤ 16384) (hlv : c.lv = true) (seq : Int) (hseq : IsU seq) (a : Option Addr) (n cp : Nat) (l : List Int) (hn : l.length = n) (hl : n ≤ 800000) (hc : n ≤ cp) (hb : Bytes w a l) (hec : c.ec + n ≤ 100000000) :
    Calls Try.prog 50 #[.pointer (some ⟨p, 0, none⟩), .int .u32 seq, .slice a n cp] w fun e w' => e = .returned undef ∧ ∃ S' vc', CnX w' p S' (noteS c seq l) vc' vm vw ∧ Kp S w S' w' := by
  obtain ⟨gm, rfl, hgS, hgM⟩ := h.map_at hlv
  have hRM : Hid (Calls Try.prog 54 #[.pointer (some ⟨p, 0, none⟩)] w.drew fun e w' => e = .returned (.int .i64 (roomC c)) ∧ Below w.drew.heap.size w.drew w') := hid (room_any (h.later ((Below.refl _ _).drew)) hcl)
  obtain ⟨rm, hrm⟩ : ∃ x, roomC c = x := ⟨_, rfl⟩
  obtain ⟨A0, hA0⟩ : ∃ x, s32 seq c.R = x := ⟨_, rfl⟩
  obtain ⟨B0, hB0⟩ : ∃ x, s32 c.R seq = x := ⟨_, rfl⟩
  have hAb := s32_bd seq c.R
  have hBb := s32_bd c.R seq
  have q1 := wrapU_sub seq c.R
  have q2 := wrapI_u (s32_u seq c.R)
  have q3 := wrapU_sub c.R seq
  have q4 := wrapI_u (s32_u c.R seq)
  rw [hA0] at hAb q1 q2
  rw [hB0] at hBb q3 q4
  rw [hrm] at hRM hrb
  have p0 := cell_of h.box (i := 0) (v := .int .u32 c.R) rfl
  have HX := hid h
  have HBy := hid hb
  have HMP := hid hgM
  have HgS := hid hgS
  have HEC := hid hec
  have HLV := hid hlv
  -- what is noted, by cases
  have HQ : Hid (∀ seq' at_ l2, (rm ≤ A0 → seq' = c.R ∧ at_ = 0 ∧ l2 = l.drop (min B0.toNat l.length)) → (¬ rm ≤ A0 → seq' = seq ∧ at_ = A0 ∧ l2 = l) → noteS c seq l = noteQ c seq' at_ (l2.take (rm - at_).toNat)) := hid (fun seq' at_ l2 h1 h2 => by
    unfold noteS ntSeq ntDat ntAt
    rw [hrm, hA0, hB0]
    by_cases hA : rm ≤ A0
    · obtain ⟨rfl, rfl, rfl⟩ := h1 hA
      simp only [if_pos hA]
    · obtain ⟨rfl, rfl, rfl⟩ := h2 hA
      simp only [if_neg hA])
  clear h hb hgM hgS hec hlv hseq hrm hA0 hB0
  go_enter Try.func50, Try.ntmps50
  go_wp2_with fail
  go_region_held3 (fun w' => w'.cell? ⟨p, 0, none⟩ = some (.int .u32 c.R)) ((first | exact p0 | exact HS5.out))
    ((go_at_call 54; refine hRM.out.mono ?_; rintro e w1 ⟨rfl, hb5⟩; have HB1 := hid (below_undrew hb5); have HS5 := hid (cell_later (w := w.drew) hb5 p0); clear hb5))
  clear hRM HS5 p0
  have HX1 := hid (HX.out.later HB1.out)
  have HBy1 := hid (HBy.out.later HB1.out)
  have HMP1 := hid (HMP.out.keep (HB1.out.block gm HMP.out.lt))
  have p0 := cell_of HX1.out.box (i := 0) (v := .int .u32 c.R) rfl
  have p2 := cell_of HX1.out.box (i := 2) (v := .map (some gm)) rfl
  clear HX HBy HMP
  by_cases hA : rm ≤ A0
  · obtain ⟨m1, hm1⟩ : ∃ m, m = min B0.toNat n := ⟨_, rfl⟩
    obtain ⟨a2, hcut2, hby2⟩ := cut_l a n cp m1 (by omega) hc
    obtain ⟨n2, hn2⟩ : ∃ m, m = n - m1 := ⟨_, rfl⟩
    obtain ⟨cp2, hcpe⟩ : ∃ m, m = cp - m1 := ⟨_, rfl⟩
    obtain ⟨l2, hl2⟩ : ∃ x, x = l.drop m1 := ⟨_, rfl⟩
    have hl2n : l2.length = n2 := by rw [hl2, List.length_drop]; omega
    have hn2n : n2 ≤ n := by omega
    rw [← hn2, ← hcpe] at hcut2
    have HBy2 := hid (hby2 w1 l hn HBy1.out)
    rw [← hl2] at HBy2
    have hmin2 : ∀ ats ty W, (Builtin.min_ ats ty #[.int .i64 B0, .int .i64 (n : Int)]).run Try.prog W = .ok (.int .i64 (m1 : Int)) W := fun ats ty W => by
      rw [min_run]
      have : min B0 (n : Int) = (m1 : Int) := by omega
      rw [this]
    have hwr : IntKind.i64.wrap rm = rm := IntWalk.i64_in _ (by omega)
    have hwr0 : IntKind.i64.wrap (rm - 0) = rm := by rw [Int.sub_zero]; exact hwr
    have HQ1 := hid (HQ.out c.R 0 l2 (fun e => ⟨rfl, rfl, by rw [hl2, hm1, hn]⟩) (fun e => absurd hA (by omega)))
    obtain ⟨m2, hm2⟩ : ∃ m, m = min n2 (rm - 0).toNat := ⟨_, rfl⟩
    have hm2n : m2 ≤ n2 := by omega
    have hcp2 : n2 ≤ cp2 := by omega
    obtain ⟨a3, hcut3, hby3⟩ := cut_h a2 n2 cp2 m2 hm2n hcp2
    obtain ⟨l3, hl3⟩ : ∃ x, x = l2.take m2 := ⟨_, rfl⟩
    have hl3n : l3.length = m2 := by rw [hl3, List.length_take]; omega
    have HL3 : Hid (noteS c seq l = noteQ c c.R 0 l3) := hid (by
      rw [HQ1.out, hl3, hm2]
      congr 1
      rw [← hl2n]
      by_cases hx : (rm - 0).toNat ≤ l2.length
      · rw [Nat.min_eq_right hx]
      · rw [Nat.min_eq_left (by omega), List.take_of_length_le (by omega), List.take_of_length_le (Nat.le_refl _)])
    have HBy3 : Hid (Bytes w1 a3 l3) := hid (by rw [hl3]; exact hby3 w1 l2 hl2n HBy2.out)
    have hmin3 : ∀ ats ty W, (Builtin.min_ ats ty #[.int .i64 (n2 : Int), .int .i64 rm]).run Try.prog W = .ok (.int .i64 (m2 : Int)) W := fun ats ty W => by
      rw [min_run]
      have : min (n2 : Int) (rm) = (m2 : Int) := by omega
      rw [this]
    have HL3N := hid hl3n
    clear hby3 hl3 hl3n HQ1 HQ HBy2 HBy1 hl2n hm2
    clear hby2 hl2 hn2 hcpe hn
    have hlen : ∀ ty, (Builtin.len_ #[54] ty #[.map (some gm)]).run Try.prog w1 = .ok (.int .i64 c.ec) w1 := fun ty => HMP1.out.len ty
    obtain ⟨ec0, hecq⟩ : ∃ x, c.ec = x := ⟨_, rfl⟩
    rw [hecq] at hlen
    by_cases hec0 : c.ec = 0
    · have he0 : ec0 = 0 := hecq.symm.trans hec0
      subst he0
      clear hecq hm1
      obtain ⟨va, vk, hvc⟩ := HX1.out.rc.shape
      obtain ⟨a4, c4, w2, hrun, hrow, hmods, hblk⟩ := RB.push w1 vc c.came HX1.out.rc l3 a3 m2 cp2 HL3N.out HBy3.out (by omega) 28
      have hpne : blkV vc ≠ some p := fun e => by
        obtain ⟨cur, hk⟩ := HX1.out.rc.kind e
        rw [HX1.out.box] at hk
        simp only [Option.some.injEq, Obj.cells.injEq] at hk
        exact absurd hk.2.1 (by decide)
      have hbp : w2.heap[p]? = some (.cells (cnC c vc (.map (some gm)) vw) 60 (0, 0)) := (hmods.block p (HX1.out.slt p HX1.out.sp) hpne).trans HX1.out.box
      have k1 := setc hbp 1 (.slice a4 (c.came.length + m2) c4)
      have k2 := setc k1 0 (.int .u32 (a32 c.R m2))
      rw [app_cells c vc (.map (some gm)) vw _ (c.came ++ l3) _] at k2
      have c20 := cell_of hbp (i := 0) (v := .int .u32 c.R) rfl
      have c21 := cell_of hbp (i := 1) (v := vc) rfl
      have c11 := cell_of HX1.out.box (i := 1) (v := vc) rfl
      have f20 := froz_of hbp 0
      have f21 := froz_of hbp 1
      have qw := wrapU_nat m2 (by omega)
      have qa := wrapU_add c.R m2
      have M1 := ((hmods.weak (al' := fun b => blkV vc = some b ∨ b = p) (fun b hb => .inl (.inl hb))).setCell p 1 (.slice a4 (c.came.length + m2) c4) (.inr rfl)).setCell p 0 (.int .u32 (a32 c.R m2)) (.inr rfl)
      have FIN : Hid (∃ S' vc', CnX ((w2.setCell ⟨p, 1, none⟩ (.slice a4 (c.came.length + m2) c4)).setCell ⟨p, 0, none⟩ (.int .u32 (a32 c.R m2))) p S' (noteS c seq l) vc' (.map (some gm)) vw ∧ Kp S w S' ((w2.setCell ⟨p, 1, none⟩ (.slice a4 (c.came.length + m2) c4)).setCell ⟨p, 0, none⟩ (.int .u32 (a32 c.R m2)))) := hid (by
        rw [HL3.out]
        unfold noteQ
        rw [if_pos ⟨rfl, hec0⟩, HL3N.out]
        have hr2 : RW ((w2.setCell ⟨p, 1, none⟩ (.slice a4 (c.came.length + m2) c4)).setCell ⟨p, 0, none⟩ (.int .u32 (a32 c.R m2))) 5 1 (.slice a4 (c.came.length + m2) c4) (c.came ++ l3).length (u8s (c.came ++ l3)) := hrow.keep (fun b hb => by
          have hne : b ≠ p := fun e => by
            subst e
            obtain ⟨cur, hk⟩ := hrow.kind hb
            rw [hbp] at hk
            simp only [Option.some.injEq, Obj.cells.injEq] at hk
            exact absurd hk.2.1 (by decide)
          exact (((Mods.refl (fun b => b = p) w2).setCell p 1 _ rfl).setCell p 0 _ rfl).block b (hrow.lt hb) hne)
        obtain ⟨S', g1, g2⟩ := HX1.out.comes (.slice a4 (c.came.length + m2) c4) { c with came := c.came ++ l3, R := a32 c.R m2 } M1 k2 hr2 (fun b hb => by
          rcases hblk with e | ⟨x, hx, e⟩
          · exact .inl (by rw [← e]; exact hb)
          · rw [e] at hb; simp at hb; exact .inr (by omega)) rfl rfl rfl rfl
        exact ⟨S', _, g1, (Kp.below HB1.out).trans g2⟩)
      have HAP := hid hrun
      have HVC := hid hvc
      clear hrun hrow hmods hblk hpne hbp k1 k2 M1 hvc hec0
      obtain rfl := HVC.out
      go_wp2_with (refine wpList_append_run2 rfl (.tmp 63) (.tmp 64) 28 28 rfl rfl rfl HAP.out ?_; clear HAP)
      refine bodyPost_ret (results_none rfl _ _ _) rfl ?_
      obtain ⟨S2, vc2, g1, g2⟩ := FIN.out
      exact ⟨rfl, S2, ⟨vc2, g1⟩, g2⟩
    · have he0 : ((ec0 : Int) == 0) = false := by rw [← hecq]; simpa using hec0
      have he1 : ¬ (ec0 = 0) := by rw [← hecq]; exact hec0
      clear hecq hm1
      have FIN : Hid (∀ W, CnX W p S (putsN c c.R l3 m2) vc (.map (some gm)) vw → Mods (fun b => b = gm) w1 W → ∃ S' vc', CnX W p S' (noteS c seq l) vc' (.map (some gm)) vw ∧ Kp S w S' W) := hid (fun W g1 g2 => by
        rw [HL3.out]
        unfold noteQ
        rw [if_neg (by exact fun e => hec0 e.2), HL3N.out]
        exact ⟨S, vc, g1, (Kp.below HB1.out).trans ⟨fun b hb => .inl hb, g2.weak (fun b hb => .inl (by rw [hb]; exact HgS.out))⟩⟩)
      go_wp2_with fail
      clear hcut3 hmin3 hcut2 hmin2
      go_loopw [80, 8, 9, 10, 11, 12] (fun z _ _ _ _ _ wr => ∃ k : Nat, k ≤ m2 ∧ z = .int .i64 k ∧ CnX wr p S (putsN c c.R l3 k) vc (.map (some gm)) vw ∧ Mods (fun b => b = gm) w1 wr) (fun z _ _ _ _ _ _ => m2 - (RowKit.intOf z).toNat)
      case atStart => exact ⟨0, Nat.zero_le _, rfl, HX1.out, Mods.refl _ _⟩
      case round =>
        obtain ⟨k, hk, rfl, hx, hmd⟩ := hrel
        have HXk := hid hx
        have HMk := hid hmd
        obtain ⟨E, ec, hpe, hece⟩ := putsN_is c c.R l3 k
        have HPE := hid hpe
        have HSU : Hid (putsN c c.R l3 (k + 1) = put1 (putsN c c.R l3 k) (a32 c.R k) (l3.getD k 0)) := hid rfl
        rw [hpe] at hx
        obtain ⟨g', hg', hgS', hgM⟩ := hx.map_at (by exact HLV.out)
        obtain rfl : g' = gm := by simpa using hg'.symm
        clear hg' hgS'
        simp only at hgM
        by_cases hlt : k < m2
        · have hki : (k : Int) < m2 := by omega
          obtain ⟨bb, off, ha3, hcell⟩ := HBy3.out.open_ (by rw [HL3N.out]; omega)
          have hck := hcell k (by rw [HL3N.out]; exact hlt)
          have hbb : wr.heap[bb]? = w1.heap[bb]? := hmd.block bb (World.block_lt_of_cell? w1 _ hck) (fun e => by
            subst e
            obtain ⟨es, nn, hh⟩ := HMP1.out.kind
            simp [World.cell?, hh] at hck)
          have hck2 := (World.cell?_of_block hbb).trans hck
          subst ha3
          obtain ⟨x, hxv⟩ : ∃ x, l3.getD k 0 = x := ⟨_, rfl⟩
          rw [hxv] at hck2 HSU
          have p2k := cell_of hx.box (i := 2) (v := .map (some g')) rfl
          have qk := wrapU_nat k (by omega)
          have qa := wrapU_add c.R k
          obtain ⟨K, hK⟩ : ∃ x, a32 c.R k = x := ⟨_, rfl⟩
          have hKu : IsU K := by rw [← hK]; exact a32_u _ _
          rw [hK] at qa HSU
          have hlk := hgM.look_ok hKu
          have qi : IntKind.i64.wrap ((k : Int) + 1) = ((k + 1 : Nat) : Int) := IntWalk.i64_in _ (by omega)
          cases hE : E K with
          | some y =>
            rw [hE] at hlk
            simp only [Option.getD_some, Option.isSome_some] at hlk
            have HN : Hid (CnX wr p S (putsN c c.R l3 (k + 1)) vc (.map (some g')) vw) := hid (by rw [HSU.out, HPE.out, put1, if_pos (by simp [hE]), ← HPE.out]; exact HXk.out)
            clear hx hmd hcell hck hbb hE hxv hK hpe hgM hece
            go_wp2
            go_roundw
            · exact ⟨k + 1, by omega, by simp, HN.out, HMk.out⟩
            · simp only [RowKit.intOf]; omega
          | none =>
            rw [hE] at hlk
            simp only [Option.getD_none, Option.isSome_none] at hlk
            obtain ⟨w4, hput, hM4, hg4⟩ := hgM.put (by have := HEC.out; unfold maxLen; omega) hKu hE x
            have HM4 := hid (Mods.of_grown hg4)
            have HN : Hid (CnX w4 p S (putsN c c.R l3 (k + 1)) vc (.map (some g')) vw) := hid (by
              rw [HSU.out, HPE.out, put1, if_neg (by simp [hE])]
              exact hx.mapE HLV.out (HM4.out.weak (fun b hb => .inl (by simpa using hb.symm))) _ _ hM4)
            have HMN : Hid (Mods (fun b => b = g') w1 w4) := hid (hmd.tr (HM4.out.weak (fun b hb => .inl (by simpa using hb.symm))))
            clear hx hmd hcell hck hbb hE hxv hK hpe hgM hece hM4 hg4 HM4
            go_wp2
            go_roundw
            · exact ⟨k + 1, by omega, by simp, HN.out, HMN.out⟩
            · simp only [RowKit.intOf]; omega
        · obtain rfl : k = m2 := by omega
          have hki : ¬ ((k : Int) < k) := by omega
          clear hx hmd hpe hgM hece
          go_wp2
          go_end0
          obtain ⟨S2, vc2, g1, g2⟩ := FIN.out _ HXk.out HMk.out
          exact ⟨rfl, S2, ⟨vc2, g1⟩, g2⟩
  · obtain ⟨n2, hn2⟩ : ∃ m, n = m := ⟨_, rfl⟩
    subst hn2
    obtain ⟨cp2, hcpe⟩ : ∃ m, cp = m := ⟨_, rfl⟩
    subst hcpe
    obtain ⟨l2, hl2⟩ : ∃ x, l = x := ⟨_, rfl⟩
    have hl2n : l2.length = n := by rw [← hl2]; exact hn
    have HBy2 := hid (show Bytes w1 a l2 by rw [← hl2]; exact HBy1.out)
    have hwr : IntKind.i64.wrap (rm - A0) = rm - A0 := IntWalk.i64_in _ (by omega)
    have HQ1 := hid (HQ.out seq A0 l2 (fun e => absurd hA (by omega)) (fun e => ⟨rfl, rfl, hl2.symm⟩))
    obtain ⟨m2, hm2⟩ : ∃ m, m = min n (rm - A0).toNat := ⟨_, rfl⟩
    have hm2n : m2 ≤ n := by omega
    have hcp : n ≤ cp := by omega
    obtain ⟨a3, hcut3, hby3⟩ := cut_h a n cp m2 hm2n hcp
    obtain ⟨l3, hl3⟩ : ∃ x, x = l2.take m2 := ⟨_, rfl⟩
    have hl3n : l3.length = m2 := by rw [hl3, List.length_take]; omega
    have HL3 : Hid (noteS c seq l = noteQ c seq A0 l3) := hid (by
      rw [HQ1.out, hl3, hm2]
      congr 1
      rw [← hl2n]
      by_cases hx : (rm - A0).toNat ≤ l2.length
      · rw [Nat.min_eq_right hx]
      · rw [Nat.min_eq_left (by omega), List.take_of_length_le (by omega), List.take_of_length_le (Nat.le_refl _)])
    have HBy3 : Hid (Bytes w1 a3 l3) := hid (by rw [hl3]; exact hby3 w1 l2 hl2n HBy2.out)
    have hmin3 : ∀ ats ty W, (Builtin.min_ ats ty #[.int .i64 (n : Int), .int .i64 (rm - A0)]).run Try.prog W = .ok (.int .i64 (m2 : Int)) W := fun ats ty W => by
      rw [min_run]
      have : min (n : Int) ((rm - A0)) = (m2 : Int) := by omega
      rw [this]
    have HL3N := hid hl3n
    clear hby3 hl3 hl3n HQ1 HQ HBy2 HBy1 hl2n hm2
    clear hn hl2
    have hlen : ∀ ty, (Builtin.len_ #[54] ty #[.map (some gm)]).run Try.prog w1 = .ok (.int .i64 c.ec) w1 := fun ty => HMP1.out.len ty
    obtain ⟨ec0, hecq⟩ : ∃ x, c.ec = x := ⟨_, rfl⟩
    rw [hecq] at hlen
    by_cases hA00 : A0 = 0
    · by_cases hec0 : c.ec = 0
      · have he0 : ec0 = 0 := hecq.symm.trans hec0
        subst he0
        have hAR := hid hA00
        clear hecq
        obtain ⟨va, vk, hvc⟩ := HX1.out.rc.shape
        obtain ⟨a4, c4, w2, hrun, hrow, hmods, hblk⟩ := RB.push w1 vc c.came HX1.out.rc l3 a3 m2 cp HL3N.out HBy3.out (by omega) 28
        have hpne : blkV vc ≠ some p := fun e => by
          obtain ⟨cur, hk⟩ := HX1.out.rc.kind e
          rw [HX1.out.box] at hk
          simp only [Option.some.injEq, Obj.cells.injEq] at hk
          exact absurd hk.2.1 (by decide)
        have hbp : w2.heap[p]? = some (.cells (cnC c vc (.map (some gm)) vw) 60 (0, 0)) := (hmods.block p (HX1.out.slt p HX1.out.sp) hpne).trans HX1.out.box
        have k1 := setc hbp 1 (.slice a4 (c.came.length + m2) c4)
        have k2 := setc k1 0 (.int .u32 (a32 c.R m2))
        rw [app_cells c vc (.map (some gm)) vw _ (c.came ++ l3) _] at k2
        have c20 := cell_of hbp (i := 0) (v := .int .u32 c.R) rfl
        have c21 := cell_of hbp (i := 1) (v := vc) rfl
        have c11 := cell_of HX1.out.box (i := 1) (v := vc) rfl
        have f20 := froz_of hbp 0
        have f21 := froz_of hbp 1
        have qw := wrapU_nat m2 (by omega)
        have qa := wrapU_add c.R m2
        have M1 := ((hmods.weak (al' := fun b => blkV vc = some b ∨ b = p) (fun b hb => .inl (.inl hb))).setCell p 1 (.slice a4 (c.came.length + m2) c4) (.inr rfl)).setCell p 0 (.int .u32 (a32 c.R m2)) (.inr rfl)
        have FIN : Hid (∃ S' vc', CnX ((w2.setCell ⟨p, 1, none⟩ (.slice a4 (c.came.length + m2) c4)).setCell ⟨p, 0, none⟩ (.int .u32 (a32 c.R m2))) p S' (noteS c seq l) vc' (.map (some gm)) vw ∧ Kp S w S' ((w2.setCell ⟨p, 1, none⟩ (.slice a4 (c.came.length + m2) c4)).setCell ⟨p, 0, none⟩ (.int .u32 (a32 c.R m2)))) := hid (by
          rw [HL3.out]
          unfold noteQ
          rw [if_pos ⟨hAR.out, hec0⟩, HL3N.out]
          have hr2 : RW ((w2.setCell ⟨p, 1, none⟩ (.slice a4 (c.came.length + m2) c4)).setCell ⟨p, 0, none⟩ (.int .u32 (a32 c.R m2))) 5 1 (.slice a4 (c.came.length + m2) c4) (c.came ++ l3).length (u8s (c.came ++ l3)) := hrow.keep (fun b hb => by
            have hne : b ≠ p := fun e => by
              subst e
              obtain ⟨cur, hk⟩ := hrow.kind hb
              rw [hbp] at hk
              simp only [Option.some.injEq, Obj.cells.injEq] at hk
              exact absurd hk.2.1 (by decide)
            exact (((Mods.refl (fun b => b = p) w2).setCell p 1 _ rfl).setCell p 0 _ rfl).block b (hrow.lt hb) hne)
          obtain ⟨S', g1, g2⟩ := HX1.out.comes (.slice a4 (c.came.length + m2) c4) { c with came := c.came ++ l3, R := a32 c.R m2 } M1 k2 hr2 (fun b hb => by
            rcases hblk with e | ⟨x, hx, e⟩
            · exact .inl (by rw [← e]; exact hb)
            · rw [e] at hb; simp at hb; exact .inr (by omega)) rfl rfl rfl rfl
          exact ⟨S', _, g1, (Kp.below HB1.out).trans g2⟩)
        have HAP := hid hrun
        have HVC := hid hvc
        clear hrun hrow hmods hblk hpne hbp k1 k2 M1 hvc hec0
        obtain rfl := HVC.out
        subst hA00
        rw [Int.sub_zero] at hwr
        simp only [Int.sub_zero] at hmin3
        go_wp2_with (refine wpList_append_run2 rfl (.tmp 63) (.tmp 64) 28 28 rfl rfl rfl HAP.out ?_; clear HAP)
        refine bodyPost_ret (results_none rfl _ _ _) rfl ?_
        obtain ⟨S2, vc2, g1, g2⟩ := FIN.out
        exact ⟨rfl, S2, ⟨vc2, g1⟩, g2⟩
      · have he0 : ((ec0 : Int) == 0) = false := by rw [← hecq]; simpa using hec0
        have he1 : ¬ (ec0 = 0) := by rw [← hecq]; exact hec0
        clear hecq
        subst hA00
        rw [Int.sub_zero] at hwr
        simp only [Int.sub_zero] at hmin3
        have FIN : Hid (∀ W, CnX W p S (putsN c seq l3 m2) vc (.map (some gm)) vw → Mods (fun b => b = gm) w1 W → ∃ S' vc', CnX W p S' (noteS c seq l) vc' (.map (some gm)) vw ∧ Kp S w S' W) := hid (fun W g1 g2 => by
          rw [HL3.out]
          unfold noteQ
          rw [if_neg (by exact fun e => hec0 e.2), HL3N.out]
          exact ⟨S, vc, g1, (Kp.below HB1.out).trans ⟨fun b hb => .inl hb, g2.weak (fun b hb => .inl (by rw [hb]; exact HgS.out))⟩⟩)
        go_wp2_with fail
        clear hcut3 hmin3 
        go_loopw [80, 8, 9, 10, 11, 12] (fun z _ _ _ _ _ wr => ∃ k : Nat, k ≤ m2 ∧ z = .int .i64 k ∧ CnX wr p S (putsN c seq l3 k) vc (.map (some gm)) vw ∧ Mods (fun b => b = gm) w1 wr) (fun z _ _ _ _ _ _ => m2 - (RowKit.intOf z).toNat)
        case atStart => exact ⟨0, Nat.zero_le _, rfl, HX1.out, Mods.refl _ _⟩
        case round =>
          obtain ⟨k, hk, rfl, hx, hmd⟩ := hrel
          have HXk := hid hx
          have HMk := hid hmd
          obtain ⟨E, ec, hpe, hece⟩ := putsN_is c seq l3 k
          have HPE := hid hpe
          have HSU : Hid (putsN c seq l3 (k + 1) = put1 (putsN c seq l3 k) (a32 seq k) (l3.getD k 0)) := hid rfl
          rw [hpe] at hx
          obtain ⟨g', hg', hgS', hgM⟩ := hx.map_at (by exact HLV.out)
          obtain rfl : g' = gm := by simpa using hg'.symm
          clear hg' hgS'
          simp only at hgM
          by_cases hlt : k < m2
          · have hki : (k : Int) < m2 := by omega
            obtain ⟨bb, off, ha3, hcell⟩ := HBy3.out.open_ (by rw [HL3N.out]; omega)
            have hck := hcell k (by rw [HL3N.out]; exact hlt)
            have hbb : wr.heap[bb]? = w1.heap[bb]? := hmd.block bb (World.block_lt_of_cell? w1 _ hck) (fun e => by
              subst e
              obtain ⟨es, nn, hh⟩ := HMP1.out.kind
              simp [World.cell?, hh] at hck)
            have hck2 := (World.cell?_of_block hbb).trans hck
            subst ha3
            obtain ⟨x, hxv⟩ : ∃ x, l3.getD k 0 = x := ⟨_, rfl⟩
            rw [hxv] at hck2 HSU
            have p2k := cell_of hx.box (i := 2) (v := .map (some g')) rfl
            have qk := wrapU_nat k (by omega)
            have qa := wrapU_add seq k
            obtain ⟨K, hK⟩ : ∃ x, a32 seq k = x := ⟨_, rfl⟩
            have hKu : IsU K := by rw [← hK]; exact a32_u _ _
            rw [hK] at qa HSU
            have hlk := hgM.look_ok hKu
            have qi : IntKind.i64.wrap ((k : Int) + 1) = ((k + 1 : Nat) : Int) := IntWalk.i64_in _ (by omega)
            cases hE : E K with
            | some y =>
              rw [hE] at hlk
              simp only [Option.getD_some, Option.isSome_some] at hlk
              have HN : Hid (CnX wr p S (putsN c seq l3 (k + 1)) vc (.map (some g')) vw) := hid (by rw [HSU.out, HPE.out, put1, if_pos (by simp [hE]), ← HPE.out]; exact HXk.out)
              clear hx hmd hcell hck hbb hE hxv hK hpe hgM hece
              go_wp2
              go_roundw
              · exact ⟨k + 1, by omega, by simp, HN.out, HMk.out⟩
              · simp only [RowKit.intOf]; omega
            | none =>
              rw [hE] at hlk
              simp only [Option.getD_none, Option.isSome_none] at hlk
              obtain ⟨w4, hput, hM4, hg4⟩ := hgM.put (by have := HEC.out; unfold maxLen; omega) hKu hE x
              have HM4 := hid (Mods.of_grown hg4)
              have HN : Hid (CnX w4 p S (putsN c seq l3 (k + 1)) vc (.map (some g')) vw) := hid (by
                rw [HSU.out, HPE.out, put1, if_neg (by simp [hE])]
                exact hx.mapE HLV.out (HM4.out.weak (fun b hb => .inl (by simpa using hb.symm))) _ _ hM4)
              have HMN : Hid (Mods (fun b => b = g') w1 w4) := hid (hmd.tr (HM4.out.weak (fun b hb => .inl (by simpa using hb.symm))))
              clear hx hmd hcell hck hbb hE hxv hK hpe hgM hece hM4 hg4 HM4
              go_wp2
              go_roundw
              · exact ⟨k + 1, by omega, by simp, HN.out, HMN.out⟩
              · simp only [RowKit.intOf]; omega
          · obtain rfl : k = m2 := by omega
            have hki : ¬ ((k : Int) < k) := by omega
            clear hx hmd hpe hgM hece
            go_wp2
            go_end0
            obtain ⟨S2, vc2, g1, g2⟩ := FIN.out _ HXk.out HMk.out
            exact ⟨rfl, S2, ⟨vc2, g1⟩, g2⟩
    · have he0 : (A0 == 0) = false := by simpa using hA00
      clear hecq hlen
      have FIN : Hid (∀ W, CnX W p S (putsN c seq l3 m2) vc (.map (some gm)) vw → Mods (fun b => b = gm) w1 W → ∃ S' vc', CnX W p S' (noteS c seq l) vc' (.map (some gm)) vw ∧ Kp S w S' W) := hid (fun W g1 g2 => by
        rw [HL3.out]
        unfold noteQ
        rw [if_neg (by exact fun e => hA00 e.1), HL3N.out]
        exact ⟨S, vc, g1, (Kp.below HB1.out).trans ⟨fun b hb => .inl hb, g2.weak (fun b hb => .inl (by rw [hb]; exact HgS.out))⟩⟩)
      go_wp2_with fail
      clear hcut3 hmin3 
      go_loopw [80, 8, 9, 10, 11, 12] (fun z _ _ _ _ _ wr => ∃ k : Nat, k ≤ m2 ∧ z = .int .i64 k ∧ CnX wr p S (putsN c seq l3 k) vc (.map (some gm)) vw ∧ Mods (fun b => b = gm) w1 wr) (fun z _ _ _ _ _ _ => m2 - (RowKit.intOf z).toNat)
      case atStart => exact ⟨0, Nat.zero_le _, rfl, HX1.out, Mods.refl _ _⟩
      case round =>
        obtain ⟨k, hk, rfl, hx, hmd⟩ := hrel
        have HXk := hid hx
        have HMk := hid hmd
        obtain ⟨E, ec, hpe, hece⟩ := putsN_is c seq l3 k
        have HPE := hid hpe
        have HSU : Hid (putsN c seq l3 (k + 1) = put1 (putsN c seq l3 k) (a32 seq k) (l3.getD k 0)) := hid rfl
        rw [hpe] at hx
        obtain ⟨g', hg', hgS', hgM⟩ := hx.map_at (by exact HLV.out)
        obtain rfl : g' = gm := by simpa using hg'.symm
        clear hg' hgS'
        simp only at hgM
        by_cases hlt : k < m2
        · have hki : (k : Int) < m2 := by omega
          obtain ⟨bb, off, ha3, hcell⟩ := HBy3.out.open_ (by rw [HL3N.out]; omega)
          have hck := hcell k (by rw [HL3N.out]; exact hlt)
          have hbb : wr.heap[bb]? = w1.heap[bb]? := hmd.block bb (World.block_lt_of_cell? w1 _ hck) (fun e => by
            subst e
            obtain ⟨es, nn, hh⟩ := HMP1.out.kind
            simp [World.cell?, hh] at hck)
          have hck2 := (World.cell?_of_block hbb).trans hck
          subst ha3
          obtain ⟨x, hxv⟩ : ∃ x, l3.getD k 0 = x := ⟨_, rfl⟩
          rw [hxv] at hck2 HSU
          have p2k := cell_of hx.box (i := 2) (v := .map (some g')) rfl
          have qk := wrapU_nat k (by omega)
          have qa := wrapU_add seq k
          obtain ⟨K, hK⟩ : ∃ x, a32 seq k = x := ⟨_, rfl⟩
          have hKu : IsU K := by rw [← hK]; exact a32_u _ _
          rw [hK] at qa HSU
          have hlk := hgM.look_ok hKu
          have qi : IntKind.i64.wrap ((k : Int) + 1) = ((k + 1 : Nat) : Int) := IntWalk.i64_in _ (by omega)
          cases hE : E K with
          | some y =>
            rw [hE] at hlk
            simp only [Option.getD_some, Option.isSome_some] at hlk
            have HN : Hid (CnX wr p S (putsN c seq l3 (k + 1)) vc (.map (some g')) vw) := hid (by rw [HSU.out, HPE.out, put1, if_pos (by simp [hE]), ← HPE.out]; exact HXk.out)
            clear hx hmd hcell hck hbb hE hxv hK hpe hgM hece
            go_wp2
            go_roundw
            · exact ⟨k + 1, by omega, by simp, HN.out, HMk.out⟩
            · simp only [RowKit.intOf]; omega
          | none =>
            rw [hE] at hlk
            simp only [Option.getD_none, Option.isSome_none] at hlk
            obtain ⟨w4, hput, hM4, hg4⟩ := hgM.put (by have := HEC.out; unfold maxLen; omega) hKu hE x
            have HM4 := hid (Mods.of_grown hg4)
            have HN : Hid (CnX w4 p S (putsN c seq l3 (k + 1)) vc (.map (some g')) vw) := hid (by
              rw [HSU.out, HPE.out, put1, if_neg (by simp [hE])]
              exact hx.mapE HLV.out (HM4.out.weak (fun b hb => .inl (by simpa using hb.symm))) _ _ hM4)
            have HMN : Hid (Mods (fun b => b = g') w1 w4) := hid (hmd.tr (HM4.out.weak (fun b hb => .inl (by simpa using hb.symm))))
            clear hx hmd hcell hck hbb hE hxv hK hpe hgM hece hM4 hg4 HM4
            go_wp2
            go_roundw
            · exact ⟨k + 1, by omega, by simp, HN.out, HMN.out⟩
            · simp only [RowKit.intOf]; omega
        · obtain rfl : k = m2 := by omega
          have hki : ¬ ((k : Int) < k) := by omega
          clear hx hmd hpe hgM hece
          go_wp2
          go_end0
          obtain ⟨S2, vc2, g1, g2⟩ := FIN.out _ HXk.out HMk.out
          exact ⟨rfl, S2, ⟨vc2, g1⟩, g2⟩
end Go.Proofs.Ytmmijbiapflneaa
