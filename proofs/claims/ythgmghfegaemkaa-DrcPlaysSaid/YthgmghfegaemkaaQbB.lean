/- Tables of calls: makeRoom. -/
import Derived.Test.YthgmghfegaemkaaQbA
import Derived.Test.YthgmghfegaemkaaEbS
namespace Go.Proofs.Ythgmghfegaemkaa
open Go.RowKit Go.Maps
set_option linter.unusedVariables false

theorem nop_voidQ {P : Program} {ops : Array Oper} {Q : Exit → Act → World → Prop} {i : Nat} {o : Oper} {a : Act} {w : World} {K : Act → World → Prop} (ho : ops[i]? = some o) (hg : Region.wanted o (yielded ops a.tmps) = true) (hd : o.dst = none) {v : Value} {w' : World} (hrun : (execOp a.eval o).run P w = .ok (.value v) w') (h : K a w') : wpOp P ops Q i K a w :=
  nop_value ho hg hrun (by rw [nput_none hd]; exact h)
theorem rmT_room {n : Nat} {L : Tl} (h : L.length < n) : rmT n L = some L := by unfold rmT; rw [if_pos h]
theorem rmT_full {n : Nat} {L : Tl} (h : ¬ L.length < n) : rmT n L = (dIx L).map (fun i => L.eraseIdx i) := by unfold rmT; rw [if_neg h]
/-- What makeRoom leaves. -/
def RoomPost (w : World) (p : Nat) (S : Nat → Prop) (n : Nat) (L : Tl) (c gm : Nat) (e : Ending) (w' : World) : Prop :=
  e = .returned (.bool (rmT n L).isSome) ∧ ∃ vo, TbX w' p S n ((rmT n L).getD L) c gm vo ∧ Kp S w S w'
/-- Without an entry. -/
theorem TbX.cut {w : World} {p : Nat} {S : Nat → Prop} {n : Nat} {L : Tl} {c gm : Nat} {b off m cap : Nat} (h : TbX w p S n L c gm (.slice (some ⟨b, off, none⟩) m cap)) (hm : L.length = m) {i : Nat} (hi : i < L.length) :
    ∃ W2, (Builtin.delete_ #[54, 33] 0 #[.map (some gm), kV L[i].1]).run Try.prog w.drew = .ok (.tuple #[]) W2 ∧ Mods (fun x => x = gm) w W2 ∧ W2.heap[p]? = some (.cells #[.int .i64 n, .map (some gm), .slice (some ⟨b, off, none⟩) m cap] 56 (0, 0)) ∧ RW W2 33 5 (.slice (some ⟨b, off, none⟩) m cap) m (rowT L) ∧
    ∀ W3, RW W3 33 5 (.slice (some ⟨b, off, none⟩) (m - 1) cap) (m - 1) ((rowT L).take (i * 5) ++ (rowT L).drop ((i + 1) * 5)) → Mods (fun x => x = b) W2 W3 →
    W3.heap[p]? = some (.cells #[.int .i64 n, .map (some gm), .slice (some ⟨b, off, none⟩) m cap] 56 (0, 0)) ∧ TbX (W3.setCell ⟨p, 2, none⟩ (.slice (some ⟨b, off, none⟩) (m - 1) cap)) p S n (L.eraseIdx i) c gm (.slice (some ⟨b, off, none⟩) (m - 1) cap) ∧ Kp S w S (W3.setCell ⟨p, 2, none⟩ (.slice (some ⟨b, off, none⟩) (m - 1) cap)) := by
  obtain ⟨M, hM, hT⟩ := h.mp
  obtain ⟨W2, hdel, hM2, hgr⟩ := (hM.keep (w' := w.drew) rfl).del Try.underlying54 (h.ok _ (List.getElem_mem hi)) 0
  have hg2 : Mods (fun x => x = gm) w W2 := ((Mods.refl _ w).drew).tr (Mods.of_grown' hgr)
  have hpl := (Array.getElem?_eq_some_iff.1 h.box).1
  have hbl : b < w.heap.size := h.row.lt rfl
  have hp2 : W2.heap[p]? = some (.cells #[.int .i64 n, .map (some gm), .slice (some ⟨b, off, none⟩) m cap] 56 (0, 0)) := (hg2.block p hpl h.npm).trans h.box
  have hr2 : RW W2 33 5 (.slice (some ⟨b, off, none⟩) m cap) m (rowT L) := by
    have := h.row
    rw [hm] at this
    exact this.keep (fun x hx => hg2.block x (this.lt hx) (h.nog hx))
  refine ⟨W2, hdel, hg2, hp2, hr2, fun W3 hr3 hm3 => ?_⟩
  have hp3 : W3.heap[p]? = _ := (hm3.block p (Nat.lt_of_lt_of_le hpl hg2.size) (fun e => h.nop rfl e.symm)).trans hp2
  have m4 : Mods (fun b => b = p) W3 (W3.setCell ⟨p, 2, none⟩ (.slice (some ⟨b, off, none⟩) (m - 1) cap)) := (Mods.refl _ W3).setCell p 2 _ rfl
  have kp : Kp S w S (W3.setCell ⟨p, 2, none⟩ (.slice (some ⟨b, off, none⟩) (m - 1) cap)) := ⟨fun _ h => .inl h, ((hg2.weak (fun b hb => .inl (by rw [hb]; exact h.sg))).tr (hm3.weak (fun x hx => .inl (by rw [hx]; exact h.so b rfl)))).tr (m4.weak (fun x hx => .inl (by rw [hx]; exact h.sp)))⟩
  have hkind : ∃ cur t fr, W2.heap[b]? = some (.cells cur t fr) ∧ t ≠ 5 := by
    obtain ⟨cur, hh⟩ := h.row.kind (b := b) rfl
    exact ⟨cur, _, _, (hg2.block b hbl (h.nog rfl)).trans hh, by decide⟩
  have hgk : ∃ es cl, w.heap[gm]? = some (.map es cl) := hM.kind
  have hlen : (L.eraseIdx i).length = m - 1 := by rw [List.length_eraseIdx_of_lt hi]; omega
  have t2 : MT W2 S L M := hT.off (.inl hgk) hg2 (fun _ h => h)
  have t3 : MT W3 S L M := t2.off (.inr hkind) hm3 (fun _ h => h)
  have t4 : MT (W3.setCell ⟨p, 2, none⟩ (.slice (some ⟨b, off, none⟩) (m - 1) cap)) S L M := t3.off (.inr ⟨_, _, _, hp3, by decide⟩) m4 (fun _ h => h)
  refine ⟨hp3, ⟨setc hp3 2 _, ⟨_, hM2.keep ?_, fun k hk => ⟨fun o ho => ?_, fun ho => ?_⟩⟩, ?_, fun e he => h.ok e (List.mem_of_mem_eraseIdx he), ?_, h.sp, h.sg, fun x hx => h.so x hx, fun x hx => Nat.lt_of_lt_of_le (h.slt x hx) kp.2.size⟩, kp⟩
  · have hgl := hM2.lt
    rw [m4.block gm (Nat.lt_of_lt_of_le hgl hm3.size) (fun e => h.npm e.symm)]
    exact hm3.block gm hgl (fun e => h.nog rfl e.symm)
  · rw [fndT_erase h.nd hi] at ho
    split at ho
    · cases ho
    · rename_i hne
      obtain ⟨v, e1, e2⟩ := (t4 k hk).1 o ho
      exact ⟨v, by rw [updK_other _ _ hne]; exact e1, e2⟩
  · rw [fndT_erase h.nd hi] at ho
    by_cases hne : k = L[i].1
    · rw [hne]; exact updK_same _ _ _
    · rw [if_neg hne] at ho
      rw [updK_other _ _ hne]
      exact (t4 k hk).2 ho
  · rw [hlen, ← rowT_erase]
    exact hr3.keep (fun x hx => m4.block x (hr3.lt hx) (fun e => h.nop (b := x) (by simpa [blkV] using hx) e))
  · exact h.nd.sublist ((List.eraseIdx_sublist _ _).map _)
set_option maxRecDepth 100000 in
set_option maxHeartbeats 2000000 in
theorem makeRoom_any (w : World) (p : Nat) (S : Nat → Prop) (n : Nat) (L : Tl) (c gm : Nat) (vo : Value) (h : TbX w p S n L c gm vo) (hn : 0 < n) (hn2 : n ≤ 1000) (hl : L.length ≤ n) :
    Calls Try.prog 15 #[.pointer (some ⟨p, 0, none⟩)] w (RoomPost w p S n L c gm) := by
  obtain ⟨m, hm⟩ : ∃ m, L.length = m := ⟨_, rfl⟩
  obtain ⟨a, cap, rfl⟩ := h.row.shape
  rw [hm] at h hl
  have c0 : w.cell? ⟨p, 0, none⟩ = some (.int .i64 n) := cell_of h.box rfl
  have c2 : w.cell? ⟨p, 2, none⟩ = some (.slice a m cap) := cell_of h.box rfl
  by_cases hlt : m < n
  · have hltz : (m : Int) < (n : Int) := by omega
    have HR := hid (rmT_room (n := n) (L := L) (by omega))
    have HH := hid h
    clear h hm hl hn
    go_enter Try.func15, Try.ntmps15
    go_wp2_with fail
    go_quiet (fail)
    go_wp2
    go_ret
    refine ⟨by rw [HR.out]; rfl, .slice a m cap, ?_, Kp.below ((below_drewN (Below.refl _ _) nq))⟩
    rw [HR.out]
    exact HH.out.later (below_drewN (Below.refl _ _) nq)
  · have hltz : ¬ (m : Int) < (n : Int) := by omega
    have hm0 : 0 < m := by omega
    have HR := hid (rmT_full (n := n) (L := L) (by omega))
    have hro := h.row
    rw [hm] at hro
    obtain ⟨b, off, cap', e, hcap, hbv, hcells, hfz⟩ := hro.at_ hm0
    simp only [Value.slice.injEq, true_and] at e
    obtain ⟨rfl, rfl⟩ := e
    have HIX := hid (fun W (hW : Below w.heap.size w W) => FirstDone_any W p S n L c gm b off m cap (h.later hW) hm (by omega) hcap (fun j u hu => cell_later hW (hcells j u hu)))
    have HH := hid h
    have HMM := hid hm
    cases hd : dIx L with
    | none =>
      have HX := hid (show dixI L = -1 by unfold dixI; rw [hd])
      have HE := hid hd
      rw [hd] at HR
      rw [HX.out] at HIX
      clear h hm hl hn hro hcells hfz hbv hd
      go_enter Try.func15, Try.ntmps15
      go_wp2_with fail
      go_quiet (fail)
      go_wp2_with (go_at_call 17; refine (HIX.out _ (below_drewN (Below.refl _ _) nq)).mono ?_; rintro e w' ⟨rfl, hb'⟩)
      go_ret
      have hB := (below_drewN (Below.refl w.heap.size w) nq).trans (hb'.mono (Nat.le_refl _))
      refine ⟨by rw [HR.out]; rfl, .slice (some ⟨b, off, none⟩) m cap, ?_, Kp.below hB⟩
      rw [HR.out]
      exact HH.out.later hB
    | some i =>
      obtain ⟨hi, hdi, _⟩ := dIx_some hd
      have HX := hid (show dixI L = (i : Int) by unfold dixI; rw [hd])
      rw [hd] at HR
      rw [HX.out] at HIX
      have him : i < m := by omega
      have hi1 : i < 1000 := by omega
      have hm1 : m ≤ 1000 := by omega
      obtain ⟨k, hk⟩ : ∃ k, L[i].1 = k := ⟨_, rfl⟩
      have hkok : k.Ok := by rw [← hk]; exact h.ok _ (List.getElem_mem hi)
      obtain ⟨cur, hcur⟩ := hro.kind (b := b) rfl
      have hcc : ∀ t u, (kL k)[t]? = some u → cur[off + i * 5 + t]? = some u := fun t u hu => by
        have := hcells (i * 5 + t) u (rowT_at hi t u (by rw [hk]; exact hu))
        rw [← Nat.add_assoc] at this
        simpa [World.cell?, hcur] using this
      have HK0 : Hid (cur[off + i * 5]? = some (.int .u32 k.ip)) := hid (hcc 0 _ rfl)
      have HK1 := hid (hcc 1 _ rfl)
      have HK2 := hid (hcc 2 _ rfl)
      have HK3 := hid (hcc 3 _ rfl)
      have HK4 := hid (hcc 4 _ rfl)
      have HCUR := hid hcur
      have HSEC := hid (fun W (hW : Below w.heap.size w W) => (h.later hW).cut hm hi)
      rw [hk] at HSEC
      have HPX := hid h.box
      clear h hm hl hn hro hcells hfz hbv hd hcur hcc
      go_enter Try.func15, Try.ntmps15
      go_wp2_with fail
      go_quiet (fail)
      go_upto_region 6 with (go_at_call 17; refine (HIX.out _ (below_drewN (Below.refl _ _) nq)).mono ?_; rintro e w1 ⟨rfl, hb1⟩)
      have hB1 := (below_drewN (Below.refl w.heap.size w) nq).trans (hb1.mono (Nat.le_refl _))
      have hl1 := HH.out.later hB1
      obtain ⟨W2, hdl, hm2, hp2, hr2, hfin⟩ := HSEC.out w1 hB1
      have hbl : b < w.heap.size := (Array.getElem?_eq_some_iff.1 HCUR.out).1
      have HB1 := hid ((hB1.block b hbl).trans HCUR.out)
      have HP1 := hid hl1.box
      have HP2 := hid hp2
      have HDL := hid hdl
      have hb2 : W2.heap[b]? = some (.cells cur 33 (0, 0)) := (hm2.block b (Nat.lt_of_lt_of_le hbl hB1.size) (HH.out.nog rfl)).trans HB1.out
      have HB2 := hid hb2
      have HDEL := hid (DeleteK_any W2 b off m cap i (rowT L) hr2 him (rowT_one L))
      have HFIN := hid hfin
      have HBB1 := hid hB1
      have d2 : W2.cell? ⟨p, 2, none⟩ = some (.slice (some ⟨b, off, none⟩) m cap) := cell_of hp2 rfl
      clear hB1 hl1 hdl hm2 hp2 hr2 hfin hb2 hb1
      refine wp_region_held_drew (S := fun W => W.heap[p]? = some (.cells #[.int .i64 n, .map (some gm), .slice (some ⟨b, off, none⟩) m cap] 56 (0, 0)) ∧ W.heap[b]? = some (.cells cur 33 (0, 0))) (by kernel_rfl) ⟨HP1.out, HB1.out⟩ (fun hS => ?_)
      refine nany_take 0 23 (.pointer (some ⟨p, 0, none⟩)) rfl rfl (by kernel_rfl) (by kernel_rfl) (by kernel_rfl) (fun _ _ _ h => h) (Or.inl ⟨by rfl, ?_⟩) hS ?_
      · rintro w' hS'
        go_simp
      simp only [List.setIfInBounds_toArray, List.set_cons_zero, List.set_cons_succ]
      refine nany_take 1 24 (.pointer (some ⟨p, 0, none⟩)) rfl rfl (by kernel_rfl) (by kernel_rfl) (by kernel_rfl) (fun _ _ _ h => h) (Or.inl ⟨by rfl, ?_⟩) hS ?_
      · rintro w' hS'
        go_simp
      simp only [List.setIfInBounds_toArray, List.set_cons_zero, List.set_cons_succ]
      refine nany_take 2 25 (.pointer (some ⟨p, 1, none⟩)) rfl rfl (by kernel_rfl) (by kernel_rfl) (by kernel_rfl) (fun _ _ _ h => h) (Or.inl ⟨by rfl, ?_⟩) hS ?_
      · rintro w' hS'
        go_simp
      simp only [List.setIfInBounds_toArray, List.set_cons_zero, List.set_cons_succ]
      refine nany_take 3 26 (.map (some gm)) rfl rfl (by kernel_rfl) (by kernel_rfl) (by kernel_rfl) (fun _ _ _ h => h) (Or.inl ⟨by rfl, ?_⟩) hS ?_
      · rintro w' hS'
        have hc := cell_of hS'.1 (i := 1) (v := .map (some gm)) rfl; go_simp
      simp only [List.setIfInBounds_toArray, List.set_cons_zero, List.set_cons_succ]
      refine nany_take 4 27 (.pointer (some ⟨p, 0, none⟩)) rfl rfl (by kernel_rfl) (by kernel_rfl) (by kernel_rfl) (fun _ _ _ h => h) (Or.inl ⟨by rfl, ?_⟩) hS ?_
      · rintro w' hS'
        go_simp
      simp only [List.setIfInBounds_toArray, List.set_cons_zero, List.set_cons_succ]
      refine nany_take 5 28 (.pointer (some ⟨p, 0, none⟩)) rfl rfl (by kernel_rfl) (by kernel_rfl) (by kernel_rfl) (fun _ _ _ h => h) (Or.inl ⟨by rfl, ?_⟩) hS ?_
      · rintro w' hS'
        go_simp
      simp only [List.setIfInBounds_toArray, List.set_cons_zero, List.set_cons_succ]
      refine nany_take 6 29 (.pointer (some ⟨p, 2, none⟩)) rfl rfl (by kernel_rfl) (by kernel_rfl) (by kernel_rfl) (fun _ _ _ h => h) (Or.inl ⟨by rfl, ?_⟩) hS ?_
      · rintro w' hS'
        go_simp
      simp only [List.setIfInBounds_toArray, List.set_cons_zero, List.set_cons_succ]
      refine nany_take 7 30 (.slice (some ⟨b, off, none⟩) m cap) rfl rfl (by kernel_rfl) (by kernel_rfl) (by kernel_rfl) (fun _ _ _ h => h) (Or.inl ⟨by rfl, ?_⟩) hS ?_
      · rintro w' hS'
        have hc := cell_of hS'.1 (i := 2) (v := .slice (some ⟨b, off, none⟩) m cap) rfl; go_simp
      simp only [List.setIfInBounds_toArray, List.set_cons_zero, List.set_cons_succ]
      refine nany_take 8 31 (.int .i64 i) rfl rfl (by kernel_rfl) (by kernel_rfl) (by kernel_rfl) (fun _ _ _ h => h) (Or.inl ⟨by rfl, ?_⟩) hS ?_
      · rintro w' hS'
        go_simp
      simp only [List.setIfInBounds_toArray, List.set_cons_zero, List.set_cons_succ]
      refine nany_take 9 32 (.pointer (some ⟨b, off + i * 5, none⟩)) rfl rfl (by kernel_rfl) (by kernel_rfl) (by kernel_rfl) (fun _ _ _ h => h) (Or.inl ⟨by rfl, ?_⟩) hS ?_
      · rintro w' hS'
        go_simp
      simp only [List.setIfInBounds_toArray, List.set_cons_zero, List.set_cons_succ]
      refine nany_take 10 33 (kV k) rfl rfl (by kernel_rfl) (by kernel_rfl) (by kernel_rfl) (fun _ _ _ h => h) (Or.inl ⟨by rfl, ?_⟩) hS ?_
      · rintro w' hS'
        have k0 := cell_of hS'.2 HK0.out; have k1 := cell_of hS'.2 HK1.out; have k2 := cell_of hS'.2 HK2.out; have k3 := cell_of hS'.2 HK3.out; have k4 := cell_of hS'.2 HK4.out; go_simp
      simp only [List.setIfInBounds_toArray, List.set_cons_zero, List.set_cons_succ]
      refine nany_one 11 (by kernel_rfl) ?_
      refine nop_voidQ (v := .tuple #[]) (w' := W2) rfl (by rfl) rfl (by simp [execOp, resolve, invoke, builtin, Act.eval, HDL.out, Result.andThen]) ?_
      refine ⟨⟨HP2.out, HB2.out⟩, ?_⟩
      refine wpAnyH_done (by kernel_rfl) ?_ _
      clear hS

      go_wp2_with (go_at_call 19; refine HDEL.out.mono ?_; rintro e w3 ⟨rfl, hr3, hm3⟩; obtain ⟨hp3, hfT, hfK⟩ := HFIN.out w3 hr3 hm3; have HT := hid hfT; have HKK := hid hfK; have d3 := froz_of hp3 2; have e3 := cell_of hp3 (i := 2) (v := .slice (some ⟨b, off, none⟩) m cap) rfl; clear hr3 hm3 hp3 hfT hfK)
      go_ret
      refine ⟨by rw [HR.out]; rfl, .slice (some ⟨b, off, none⟩) (m - 1) cap, ?_, (Kp.below HBB1.out).trans HKK.out⟩
      rw [HR.out]
      exact HT.out
end Go.Proofs.Ythgmghfegaemkaa
