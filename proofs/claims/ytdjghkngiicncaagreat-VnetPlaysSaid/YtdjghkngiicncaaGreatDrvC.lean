/- Add: what is refused; a chain that is offered. -/
import Derived.Test.YtdjghkngiicncaaGreatPureA
namespace Go.Proofs.YtdjghkngiicncaaGreat
open Go.RowKit

theorem okB_any {l : List Bf} (h : ∀ b ∈ l, okB b) : anyB l = false := by
  unfold anyB
  rw [List.any_eq_false]
  intro b hb
  obtain ⟨h1, h2, h3, h4⟩ := h b hb
  simp [badB, lenB]
  omega
theorem okB_64 {l : List Bf} (h : ∀ b ∈ l, okB b) : ∀ b ∈ l, Is64 b.len := fun b hb => by
  obtain ⟨h1, h2, h3, h4⟩ := h b hb
  unfold Is64
  omega
theorem Bufs.below {w w' : World} {a : Option Addr} {l : List Bf} {g : Nat} (h : Bufs w a l g) (hb : Below w.heap.size w w') : Bufs w' a l g := h.mods (Mods.of_below hb)

set_option maxRecDepth 100000 in
set_option maxHeartbeats 1000000 in
theorem Add_none (w : World) (pd : Nat) (a : Option Addr) (cap : Nat) :
    Calls Tryz.prog 56 #[.pointer (some ⟨pd, 0, none⟩), .slice a 0 cap] w fun e w' => e = .returned (.tuple #[.int .i64 0, .int .i64 1]) ∧ Below w.heap.size w w' := by
  go_enter Tryz.func56, Tryz.ntmps56
  go_wp2
  go_ret2
  exact ⟨rfl, Below.refl _ _⟩
set_option maxRecDepth 100000 in
set_option maxHeartbeats 1000000 in
theorem Add_arg (w : World) (pd g : Nat) (ab : Option Addr) (m cap : Nat) (bufs : List Bf) (hb : bufs.length = m) (hB : Bufs w ab bufs g) (h64 : ∀ b ∈ bufs, Is64 b.len) (hm : m ≤ 65536) (h0 : 0 < m) (hbad : anyB bufs = true) :
    Calls Tryz.prog 56 #[.pointer (some ⟨pd, 0, none⟩), .slice ab m cap] w fun e w' => e = .returned (.tuple #[.int .i64 0, .int .i64 1]) ∧ Below w.heap.size w w' := by
  have HC := hid (ContainsFunc_any w ab m cap g bufs hb hB h64 hm)
  have HBD := hid hbad
  have g0 : ((m : Int) == 0) = false := by rw [beq_eq_false_iff_ne]; omega
  clear hb hB h64 hbad
  go_enter Tryz.func56, Tryz.ntmps56
  go_wp2_with (go_at_call 74; refine HC.out.mono ?_; rintro e w1 ⟨rfl, hb1⟩; rw [HBD.out]; have HB1 := hid hb1; clear hb1)
  go_ret2
  exact ⟨rfl, HB1.out⟩
set_option maxRecDepth 100000 in
set_option maxHeartbeats 1000000 in
theorem Add_full (w : World) (pd : Nat) (q : Qu) (A : Abs) (c : Nat) (al : Nat → Prop) (hd : Drv w pd q A c al) (ab : Option Addr) (m cap : Nat) (bufs : List Bf) (hb : bufs.length = m) (hB : Bufs w ab bufs q.g) (hok : ∀ b ∈ bufs, okB b) (hm : m ≤ 65536) (h0 : 0 < m) (hf : A.free.length < m) :
    Calls Tryz.prog 56 #[.pointer (some ⟨pd, 0, none⟩), .slice ab m cap] w fun e w' => e = .returned (.tuple #[.int .i64 0, .int .i64 7]) ∧ Below w.heap.size w w' := by
  obtain ⟨vf, bm, M, d⟩ := hd
  obtain ⟨g, base, n, N, po, pu, Ld, Lo, Lu, geo⟩ := q
  have HC := hid (ContainsFunc_any w ab m cap g bufs hb hB (okB_64 hok) hm)
  have HBD := hid (okB_any hok)
  have g0 : ((m : Int) == 0) = false := by rw [beq_eq_false_iff_ne]; omega
  obtain ⟨_, _, _, _, _, _, _, _, _, _, d10, _, _⟩ := d.cells
  obtain ⟨va, vc, rfl⟩ := d.fr.shape
  generalize hlen : A.free.length = len at *
  clear hlen hb hB hok d
  go_enter Tryz.func56, Tryz.ntmps56
  go_wp2_with (go_at_call 74; refine HC.out.mono ?_; rintro e w1 ⟨rfl, hb1⟩; rw [HBD.out]; have HB1 := hid hb1; replace d10 := cell_later hb1 d10; clear hb1)
  go_ret2
  exact ⟨rfl, HB1.out⟩

set_option maxRecDepth 100000 in
theorem cutH_run (gf len cap hi : Nat) (hh : hi ≤ cap) (W : World) : (Instr.slice 94 (.slice (some ⟨gf, 0, none⟩) len cap) none (some (.int .i64 hi)) none).run Tryz.prog W = .ok (.slice (some ⟨gf, 0, none⟩) hi cap) W := by
  have hz : (sizeOf 3).run Tryz.prog W = .ok 1 W := by kernel_rfl
  rw [run_slice_h (P := Tryz.prog) W 94 (some ⟨gf, 0, none⟩) len cap Tryz.underlying94 .i64 hi (by omega) (by omega)]
  have e : Tryz.prog.elem 94 = 3 := by kernel_rfl
  rw [e, hz]
  simp [sliced, Addr.add]

/-- Memory behind Add. -/
def addF (f : Nat → Int) (q : Qu) (A : Abs) (bufs : List Bf) : Nat → Int :=
  wr (wr (layTo f q.base (A.free.take bufs.length) bufs bufs.length) (q.po + (4 + A.offers % q.n * 2)) 2 (A.free.getD 0 0 : Nat)) (q.po + 2) 2 ((A.offers + 1) % 65536 : Nat)
theorem box80 {w : World} {pd g base n po pu Ld Lo Lu bm : Nat} {o u : Int} {v : Value} (h1 : w.heap[pd]? = some (.cells (memC g base n po pu Ld Lo Lu ++ [Value.int .u16 o, Value.int .u16 u, v, Value.map (some bm)]).toArray 123 (0, 0))) :
    w.cell? ⟨pd, 0, none⟩ = some (.int .i64 n) ∧ w.cell? ⟨pd, 1, none⟩ = some (.slice (some ⟨g, base, none⟩) Ld Ld) ∧ w.cell? ⟨pd, 2, none⟩ = some (.slice (some ⟨g, po, none⟩) Lo Lo) ∧ w.cell? ⟨pd, 3, none⟩ = some (.int .i64 n) ∧ w.cell? ⟨pd, 4, none⟩ = some (.int .i64 2) ∧
    w.cell? ⟨pd, 5, none⟩ = some (.slice (some ⟨g, pu, none⟩) Lu Lu) ∧ w.cell? ⟨pd, 6, none⟩ = some (.int .i64 n) ∧ w.cell? ⟨pd, 7, none⟩ = some (.int .i64 8) ∧ w.cell? ⟨pd, 8, none⟩ = some (.int .u16 o) ∧ w.cell? ⟨pd, 9, none⟩ = some (.int .u16 u) ∧
    w.cell? ⟨pd, 10, none⟩ = some v ∧ w.cell? ⟨pd, 11, none⟩ = some (.map (some bm)) ∧ ∀ k, w.frozen? ⟨pd, k, none⟩ = false := by
  unfold World.cell? World.frozen?
  simp [h1, memC]
theorem owns_open {w : World} {base m : Nat} {v : Value} {l : List Nat} (h : w.ownsRow base 3 1 v m (l.map fun (k : Nat) => Value.int .i64 (k : Int))) (hm : 0 < m) (hl : l.length = m) : ∃ cb cc, v = .slice (some ⟨cb, 0, none⟩) m cc ∧ base ≤ cb ∧ cb < w.heap.size ∧ ∀ i, i < m → w.cell? ⟨cb, i, none⟩ = some (.int .i64 (l.getD i 0 : Nat)) := by
  rcases h.2 with ⟨_, h0⟩ | ⟨g, cap, cur, rfl, hb, hh, hc1, hc2, hcs, ht⟩
  · omega
  · refine ⟨g, cap, rfl, hb, (Array.getElem?_eq_some_iff.1 hh).1, fun i hi => ?_⟩
    have e : (cur.toList.take (m * 1))[i]? = (l.map fun (k : Nat) => Value.int .i64 (k : Int))[i]? := by rw [ht]
    rw [List.getElem?_take] at e
    simp [hi] at e
    rw [show l[i]? = some (l.getD i 0) by simp [List.getD, show i < l.length by omega]] at e
    simp [World.cell?, hh, e]
theorem owns_irow {w : World} {base m : Nat} {v : Value} {l : List Nat} (h : w.ownsRow base 3 1 v m (l.map fun (k : Nat) => Value.int .i64 (k : Int))) (hl : l.length = m) : IRow w v l := by
  unfold IRow
  rw [hl]
  exact owns_mono h (Nat.zero_le _)
theorem Bufs.modsX {w w' : World} {a : Option Addr} {l : List Bf} {g : Nat} {al : Nat → Prop} (h : Bufs w a l g) (hm : Mods al w w') (hn : ∀ b off, a = some ⟨b, off, none⟩ → ¬ al b) : Bufs w' a l g := fun i hi => by
  obtain ⟨b, off, h1, h2, h3, h4, h5⟩ := h i hi
  exact ⟨b, off, h1, h2, hm.cell h3 (hn b off h1), hm.cell h4 (hn b off h1), hm.cell h5 (hn b off h1)⟩
theorem DrvAt.apart {w : World} {pd bm : Nat} {vf : Value} {M : Int → Option Value} {q : Qu} {A : Abs} {c : Nat} {al : Nat → Prop} (d : DrvAt w pd vf bm M q A c al) : bm ≠ pd ∧ pd ≠ q.g ∧ bm ≠ q.g ∧ ∀ (v : Value) (l : List Nat) (b : Nat), IRow w v l → v.ownBlock = some b → al b → b ≠ pd ∧ b ≠ bm ∧ b ≠ q.g := by
  obtain ⟨es, cc, hmb⟩ := d.mp.block
  refine ⟨fun e => ?_, fun e => d.ng (e ▸ d.apd), fun e => d.ng (e ▸ d.abm), fun v l b hv hb hal => ⟨fun e => ?_, fun e => ?_, fun e => d.ng (e ▸ hal)⟩⟩
  · rw [e, d.box] at hmb; cases hmb
  · obtain ⟨cur, hc⟩ := hv.kind hb
    rw [e, d.box] at hc; cases hc
  · obtain ⟨cur, hc⟩ := hv.kind hb
    rw [e, hmb] at hc; cases hc

set_option maxRecDepth 100000 in
set_option maxHeartbeats 4000000 in
theorem Add_ok (w : World) (pd : Nat) (q : Qu) (A : Abs) (c : Nat) (al : Nat → Prop) (f : Nat → Int) (hd : Drv w pd q A c al) (hmem : Mem w q.g q.N f) (ab : Option Addr) (m capb : Nat) (bufs : List Bf) (hb : bufs.length = m) (hB : Bufs w ab bufs q.g) (haB : ∀ b off, ab = some ⟨b, off, none⟩ → ¬ al b)
    (hok : ∀ b ∈ bufs, okB b) (h0 : 0 < m) (hfm : m ≤ A.free.length) (hc : c < 1099511627776) :
    Calls Tryz.prog 56 #[.pointer (some ⟨pd, 0, none⟩), .slice ab m capb] w fun e w' => e = .returned (.tuple #[.int .i64 (A.free.getD 0 0 : Nat), .int .i64 0]) ∧ Step w w' pd q (AddA A m) (c + 1) al ∧ Mem w' q.g q.N (addF f q A bufs) := by
  obtain ⟨vf, bm, M, d⟩ := hd
  obtain ⟨g, base, n, N, po, pu, Ld, Lo, Lu, geo⟩ := q
  have hn2 := geo.n2
  have hlen : A.free.length ≤ n := by have := d.wf.len; simp only at this; omega
  have HC := hid (ContainsFunc_any w ab m capb g bufs hb hB (okB_64 hok) (by omega))
  have HBD := hid (okB_any hok)
  have g0 : ((m : Int) == 0) = false := by rw [beq_eq_false_iff_ne]; omega
  obtain ⟨_, _, _, _, _, _, _, _, _, _, d10, _, _⟩ := d.cells
  obtain ⟨gf, capf, hvf, hvb, hcap1, hcap2, _⟩ := d.fr.open_ (by omega)
  obtain ⟨p1, p2, p3, p4⟩ := d.apart
  obtain ⟨p5, p6, p7⟩ := p4 vf A.free gf d.fr hvb (d.afr gf hvb)
  have hplt := d.lt pd d.apd
  have hglt := hmem.lt
  have hgflt := d.lt gf (d.afr gf hvb)
  have hbmlt := d.lt bm d.abm
  simp only at p2 p3 p7
  subst hvf
  have HD := hid d
  have HME := hid hmem
  have Hb := hid hb
  have HBu := hid hB
  have HaB := hid haB
  have HOK := hid hok
  have ghd : A.free.getD 0 0 < n := d.wf.free_lt (by rw [show A.free.getD 0 0 = A.free[0] by simp [List.getD, show 0 < A.free.length by omega]]; exact List.getElem_mem _)
  have HLT : Hid (∀ x ∈ A.free.take m, x < n) := hid (fun x hx => d.wf.free_lt (List.mem_of_mem_take hx))
  have hofs : A.offers < 65536 := d.wf.o
  have HT : Hid ((A.free.take m).length = m) := hid (by rw [List.length_take]; omega)
  have HT0 : Hid ((A.free.take m).getD 0 0 = A.free.getD 0 0) := hid (by simp [List.getD, h0])
  have hcut := cutH_run gf A.free.length capf m (by omega)
  have hw16 : IntKind.u16.wrap ((A.offers : Int) + 1) = (((A.offers + 1) % 65536 : Nat) : Int) := by rw [IntKind.wrap_u16]; omega
  have hfb : A.free.length ≤ 65536 := by omega
  have gg1 : ¬ ((A.free.length : Int) < (m : Int)) := by omega
  simp only [addF]
  rw [hb]
  generalize hL : A.free.length = len at *
  have HLE := hid hL
  generalize hhd : A.free.getD 0 0 = hd0 at *
  have HHD := hid hhd
  clear hhd
  clear hb hB haB hok d hmem hL hvb
  go_enter Tryz.func56, Tryz.ntmps56
  go_wp2_with (go_at_call 74; refine HC.out.mono ?_; rintro e w1 ⟨rfl, hb1⟩; rw [HBD.out]; have HB1 := hid hb1; replace d10 := cell_later hb1 d10; clear hb1)
  have hfr1 := HD.out.fr.keep (w' := w1) (fun b hbb => HB1.out.block b (HD.out.lt b (HD.out.afr b hbb)))
  have HFR1 := hid hfr1
  clear hfr1 HC
  refine (Clone_row w1 gf capf m A.free len HFR1.out (by rw [HLE.out]; exact hfm) (by rw [HLE.out]; exact hfb)).mono ?_
  rintro e w2 ⟨vc, rfl, hown2, hb2⟩
  obtain ⟨cb, cc, rfl, hcb1, hcb2, hcell2⟩ := owns_open hown2 h0 HT.out
  have hs1 := HB1.out.size
  have HB2 := hid (HB1.out.trans (hb2.mono hs1))
  have HOW2 := hid (owns_irow hown2 HT.out)
  have HCE2 := hid hcell2
  have hfr2 := HFR1.out.keep (w' := w2) (fun b hbb => hb2.block b (by have := HFR1.out.lt hbb; exact this))
  have HFR2 := hid hfr2
  replace d10 := cell_later hb2 d10
  clear hown2 hb2 hcell2 hfr2 HFR1 HB1
  go_wp2_with fail
  refine (Delete_row w2 gf capf m A.free len HLE.out.symm HFR2.out (by rw [HLE.out]; exact hfm)).mono ?_
  rintro e w3 ⟨rfl, hfr3, hmo3⟩
  have hbox3 := (hmo3.block pd (Nat.lt_of_lt_of_le hplt HB2.out.size) p5.symm).trans ((HB2.out.block pd hplt).trans HD.out.box)
  obtain ⟨_, _, _, _, _, _, _, _, _, _, e10, _, fz3⟩ := box80 hbox3
  have f10 := fz3 10
  have hbox4 : (w3.setCell ⟨pd, 10, none⟩ (.slice (some ⟨gf, 0, none⟩) (len - m) capf)).heap[pd]? = some (.cells (memC g base n po pu Ld Lo Lu ++ [Value.int .u16 A.offers, Value.int .u16 A.uses, .slice (some ⟨gf, 0, none⟩) (len - m) capf, Value.map (some bm)]).toArray 123 (0, 0)) := setc hbox3 10 _
  have hM4 : Mods (fun b => b = gf ∨ b = pd) w2 (w3.setCell ⟨pd, 10, none⟩ (.slice (some ⟨gf, 0, none⟩) (len - m) capf)) := (hmo3.weak (fun b e => .inl (.inl e))).setCell pd 10 _ (.inr rfl)
  have hMA4 : Mods (fun b => b = pd ∨ b = bm ∨ b = g) w3 (w3.setCell ⟨pd, 10, none⟩ (.slice (some ⟨gf, 0, none⟩) (len - m) capf)) := (Mods.refl _ w3).setCell pd 10 _ (.inl rfl)
  obtain ⟨b0, b1, b2, b3, b4, b5, b6, b7, _, _, _, _, _⟩ := box80 hbox4
  have hsw2 := HB2.out.size
  have hme4 : Mem (w3.setCell ⟨pd, 10, none⟩ (.slice (some ⟨gf, 0, none⟩) (len - m) capf)) g N f := (HME.out.below HB2.out).mods hM4 (by omega)
  have hnums4 : Nums (w3.setCell ⟨pd, 10, none⟩ (.slice (some ⟨gf, 0, none⟩) (len - m) capf)) (some ⟨cb, 0, none⟩) (A.free.take m) g := fun i hi => ⟨cb, 0, rfl, by omega, by rw [Nat.zero_add]; exact hM4.cell (HCE2.out i (by rw [HT.out] at hi; exact hi)) (by omega)⟩
  have hbufs4 : Bufs (w3.setCell ⟨pd, 10, none⟩ (.slice (some ⟨gf, 0, none⟩) (len - m) capf)) ab bufs g := (HBu.out.below HB2.out).modsX hM4 (fun b off e => by
    have h1 := HaB.out b off e
    rintro (rfl | rfl)
    · exact h1 (HD.out.afr _ rfl)
    · exact h1 HD.out.apd)
  have HFR3 := hid hfr3
  have HBX4 := hid hbox4
  have HM4 := hid hM4
  have HMA4 := hid hMA4
  have hcon := layChain_any (w3.setCell ⟨pd, 10, none⟩ (.slice (some ⟨gf, 0, none⟩) (len - m) capf)) g base n N po pu Ld Lo Lu m cc capb (some ⟨cb, 0, none⟩) ab (A.free.take m) bufs f hme4 geo HT.out Hb.out hnums4 hbufs4 HLT.out HOK.out (by omega)
  rw [memV_eq] at hcon
  have HC := hid hcon
  clear hfr3 hmo3 hbox3 fz3 d10 HFR2 hM4 hMA4 hbox4 hme4 hnums4 hbufs4 hcon
  go_wp2_with fail
  refine HC.out.mono ?_
  rintro e w5 ⟨rfl, hm5, hmo5⟩
  have hs3 := HMA4.out.size
  have hs5 := hmo5.size
  have hs2 := HM4.out.size
  have hce5 := hmo5.cell (HM4.out.cell (HCE2.out 0 h0) (by omega)) (show ¬ cb = g by omega)
  rw [HT0.out] at hce5
  have hbox5 := (hmo5.block pd (by omega) p2).trans HBX4.out
  obtain ⟨_, _, _, _, _, _, _, _, _, _, _, e11, _⟩ := box80 hbox5
  have hmap5 := ((HD.out.mp.keep (HB2.out.block bm hbmlt)).keep (HM4.out.block bm (by omega) (by omega))).keep (hmo5.block bm (by omega) p3)
  obtain ⟨w6, hrun6, hmap6, hg6⟩ := MapIs.put (w := w5) hmap5 Tryz.underlying121 (by unfold maxLen; omega) (show IsI ((hd0 : Nat) : Int) from isI_of (by omega) (by omega)) (.slice (some ⟨cb, 0, none⟩) m cc)
  have hbox6 := (hg6.block pd (by omega) (fun e => p1 (by simpa using e.symm))).trans hbox5
  have hme6 : Mem w6 g N _ := hm5.keep (hg6.block g (by omega) (fun e => p3 (by simpa using e.symm)))
  obtain ⟨a0, a1, a2, a3, a4, a5, a6, a7, a8, _, _, _, _⟩ := box80 hbox6
  have HMO5 := hid hmo5
  have HG6 := hid hg6
  have HMP6 := hid hmap6
  have HBX6 := hid hbox6
  have hcon := putOffer_any w6.drew g base n N po pu Ld Lo Lu A.offers (A.offers % n) (hd0 : Nat) _ hme6 geo rfl hofs (by omega) (by omega)
  rw [memV_eq] at hcon
  have HC6 := hid hcon
  clear hm5 hmo5 hbox5 hmap5 hmap6 hg6 hbox6 hme6 hcon b0 b1 b2 b3 b4 b5 b6 b7 HC
  go_wp2_with fail
  go_region_held3 (fun w' => w'.cell? ⟨pd, 0, none⟩ = some (.int .i64 n) ∧ w'.cell? ⟨pd, 1, none⟩ = some (.slice (some ⟨g, base, none⟩) Ld Ld) ∧ w'.cell? ⟨pd, 2, none⟩ = some (.slice (some ⟨g, po, none⟩) Lo Lo) ∧ w'.cell? ⟨pd, 3, none⟩ = some (.int .i64 n) ∧ w'.cell? ⟨pd, 4, none⟩ = some (.int .i64 2) ∧ w'.cell? ⟨pd, 5, none⟩ = some (.slice (some ⟨g, pu, none⟩) Lu Lu) ∧ w'.cell? ⟨pd, 6, none⟩ = some (.int .i64 n) ∧ w'.cell? ⟨pd, 7, none⟩ = some (.int .i64 8) ∧ w'.cell? ⟨pd, 8, none⟩ = some (.int .u16 A.offers)) ((first | exact ⟨a0, a1, a2, a3, a4, a5, a6, a7, a8⟩ | exact HS7.out))
    ((go_at_call 79; refine HC6.out.mono ?_; rintro e w7 ⟨rfl, hm7, hmo7⟩; have HM7 := hid hm7; have HMO7 := hid hmo7; have HS7 := hid (And.intro (hmo7.cell (w := w6.drew) a0 p2) (And.intro (hmo7.cell (w := w6.drew) a1 p2) (And.intro (hmo7.cell (w := w6.drew) a2 p2) (And.intro (hmo7.cell (w := w6.drew) a3 p2) (And.intro (hmo7.cell (w := w6.drew) a4 p2) (And.intro (hmo7.cell (w := w6.drew) a5 p2) (And.intro (hmo7.cell (w := w6.drew) a6 p2) (And.intro (hmo7.cell (w := w6.drew) a7 p2) (hmo7.cell (w := w6.drew) a8 p2))))))))); clear hm7 hmo7))
  have hs6 := HG6.out.size
  have hs7 := HMO7.out.size
  have hbox7 := (HMO7.out.block pd (show pd < w6.heap.size by omega) p2).trans HBX6.out
  obtain ⟨_, _, _, _, _, _, _, _, z8, _, _, _, fz7⟩ := box80 hbox7
  have z8f := fz7 8
  have HBX7 := hid hbox7
  clear hbox7 fz7 a0 a1 a2 a3 a4 a5 a6 a7 a8 HS7 HC6
  go_wp2
  go_ret2
  have hgg6 : Mods (fun b => b = bm) w5 w6 := Mods.of_grown HG6.out
  have mR : Mods (fun b => b = pd ∨ b = bm ∨ b = g) (w3.setCell ⟨pd, 10, none⟩ (.slice (some ⟨gf, 0, none⟩) (len - m) capf)) (w7.setCell ⟨pd, 8, none⟩ (.int .u16 (((A.offers + 1) % 65536 : Nat) : Int))) :=
    ((((HMO5.out.weak (al' := fun b => b = pd ∨ b = bm ∨ b = g) (fun b e => .inl (.inr (.inr e)))).trans hgg6 (fun b e => .inl (.inr (.inl e)))).drew).trans HMO7.out (fun b e => .inl (.inr (.inr e)))).setCell pd 8 _ (.inl rfl)
  have mA : Mods (fun b => b = pd ∨ b = bm ∨ b = g) w3 (w7.setCell ⟨pd, 8, none⟩ (.int .u16 (((A.offers + 1) % 65536 : Nat) : Int))) := HMA4.out.tr mR
  have mT : Mods (fun b => b = gf ∨ b = pd ∨ b = bm ∨ b = g) w2 (w7.setCell ⟨pd, 8, none⟩ (.int .u16 (((A.offers + 1) % 65536 : Nat) : Int))) := (HM4.out.weak (al' := fun b => b = gf ∨ b = pd ∨ b = bm ∨ b = g) (fun b e => .inl (e.elim .inl (fun e => .inr (.inl e))))).trans mR (fun b e => .inl (.inr e))
  have hw := HD.out.wf
  have hszT := mT.size
  have hkT : ∀ b, b < w.heap.size → ¬ (b = gf ∨ b = pd ∨ b = bm ∨ b = g) → ((w7.setCell ⟨pd, 8, none⟩ (.int .u16 (((A.offers + 1) % 65536 : Nat) : Int)))).heap[b]? = w.heap[b]? := fun b hb hn => (mT.block b (by omega) hn).trans (HB2.out.block b hb)
  have hout : ∀ b, w.heap.size ≤ b → ¬ (b = gf ∨ b = pd ∨ b = bm ∨ b = g) := fun b hb => by omega
  have hcbw : w.heap.size ≤ cb := by omega
  refine ⟨rfl, ⟨fun b => al b ∨ b = cb, ⟨.slice (some ⟨gf, 0, none⟩) (len - m) capf, bm, upd M (hd0 : Nat) (some (.slice (some ⟨cb, 0, none⟩) m cc)), ?_⟩, ?_, ?_⟩, ?_⟩
  · refine { lt := ?_, box := setc HBX7.out 8 _, apd := .inl HD.out.apd, abm := .inl HD.out.abm, fr := ?_, afr := ?_, mp := ?_, ch := ?_, ng := ?_, wf := AddA_wf hw m h0 (by rw [HLE.out]; exact hfm) }
    · rintro b (hb | rfl)
      · exact Nat.lt_of_lt_of_le (HD.out.lt b hb) (Nat.le_trans hsw2 hszT)
      · exact Nat.lt_of_lt_of_le hcb2 hszT
    · exact HFR3.out.keep (fun b hb => by
        have e : gf = b := by simpa [Value.ownBlock] using hb
        subst e
        exact mA.block gf (by have := HFR3.out.lt hb; omega) (by omega))
    · intro b hb
      exact .inl (HD.out.afr b hb)
    · refine HMP6.out.keep ?_
      exact (Below.heap_setCell _ _ _ _ p1).trans (HMO7.out.block bm (show bm < w6.heap.size by omega) p3)
    · intro k hI
      by_cases e : k = (hd0 : Nat)
      · subst e
        refine .inr ⟨_, A.free.take m, upd_same _ _ _, ?_, HOW2.out.keep (fun b hb => ?_), fun b hb => ?_⟩
        · rw [AddA_look hw m h0 (by rw [HLE.out]; exact hfm), if_pos (by rw [HHD.out])]
        · have e : cb = b := by simpa [Value.ownBlock] using hb
          subst e
          exact mT.block cb hcb2 (hout cb hcbw)
        · have e : cb = b := by simpa [Value.ownBlock] using hb
          subst e
          refine ⟨.inr rfl, fun e2 => ?_⟩
          have e3 : gf = cb := by simpa [Value.ownBlock] using e2
          omega
      · rw [upd_other _ _ e, AddA_look hw m h0 (by rw [HLE.out]; exact hfm), if_neg (by rw [HHD.out]; exact e)]
        refine (HD.out.ch k hI).imp id (fun ⟨v, l, h1, h2, h3, h4⟩ => ⟨v, l, h1, h2, h3.keep (fun b hb => ?_), fun b hb => ⟨.inl (h4 b hb).1, (h4 b hb).2⟩⟩)
        obtain ⟨q1, q2, q3⟩ := p4 v l b h3 hb (h4 b hb).1
        refine hkT b (HD.out.lt b (h4 b hb).1) ?_
        rintro (e | e | e | e)
        · exact (h4 b hb).2 (by rw [e]; rfl)
        · exact q1 e
        · exact q2 e
        · exact q3 e
    · rintro (h | h)
      · exact HD.out.ng h
      · have : g = cb := h
        omega
  · rintro b (hb | rfl)
    · exact .inl hb
    · exact .inr hcbw
  · refine (Mods.of_below HB2.out).trans mT (fun b e => .inl ?_)
    rcases e with e | e | e | e
    · left; rw [e]; exact HD.out.afr gf rfl
    · left; rw [e]; exact HD.out.apd
    · left; rw [e]; exact HD.out.abm
    · right; exact e
  · exact HM7.out.mods ((Mods.refl (fun b => b = pd) w7).setCell pd 8 _ rfl) (fun e => p2 e.symm)
end Go.Proofs.YtdjghkngiicncaaGreat
