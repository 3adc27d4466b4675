/- Used: a chain that was used is free again. -/
import Derived.Test.YtdjghkngiicncaaGreatDrvC
namespace Go.Proofs.YtdjghkngiicncaaGreat
open Go.RowKit

def UsedPost (w : World) (e : Ending) (w' : World) (pd : Nat) (q : Qu) (A : Abs) (c : Nat) (al : Nat → Prop) (f : Nat → Int) : Prop :=
  (rd f (q.pu + 2) 2 = A.uses ∧ e = .returned (.tuple #[.int .i64 0, .int .i64 0, .int .i64 2]) ∧ Step w w' pd q A c al) ∨
  (rd f (q.pu + 2) 2 ≠ A.uses ∧ ((look A.fl (rd f (q.pu + (4 + A.uses % q.n * 8)) 4) = none ∧ e = .returned (.tuple #[.int .i64 0, .int .i64 0, .int .i64 15]) ∧ Step w w' pd q (BadA A) c al) ∨
   ∃ ch, look A.fl (rd f (q.pu + (4 + A.uses % q.n * 8)) 4) = some ch ∧ e = .returned (.tuple #[.int .i64 (rd f (q.pu + (4 + A.uses % q.n * 8)) 4), .int .i64 (rd f (q.pu + (4 + A.uses % q.n * 8) + 4) 4), .int .i64 0]) ∧
     Step w w' pd q (UseA A (rd f (q.pu + (4 + A.uses % q.n * 8)) 4) ch) c al))

theorem Step.of_below {w w' : World} {pd : Nat} {q : Qu} {A : Abs} {c : Nat} {al : Nat → Prop} (h : Drv w pd q A c al) (hb : Below w.heap.size w w') : Step w w' pd q A c al := ⟨al, h.below hb, fun _ hb => .inl hb, Mods.of_below hb⟩
theorem zero37 (w : World) : (zeroValue 94).run Tryz.prog w = .ok (.slice none 0 0) w := by kernel_rfl
theorem info3b : ∃ i, Tryz.prog.info? 3 = some i ∧ i.zero = some (.int .i64 0) ∧ i.size = 1 ∧ i.bytes = 8 := by
  have := info3
  cases h : Tryz.prog.info? 3 with
  | none => rw [h] at this; cases this
  | some i => rw [h] at this; simp at this; exact ⟨i, rfl, this.1, this.2.1, this.2.2⟩
theorem chain_len {n : Nat} {A : Abs} (h : Wf n A) {k : Int} {ch : List Nat} (hl : look A.fl k = some ch) : 0 < ch.length ∧ A.free.length + ch.length ≤ n := by
  obtain ⟨x, l1, l2, hfl, _, _, _⟩ := look_some hl
  have h1 := h.hd (x, ch) (by rw [hfl]; simp)
  have h2 := h.len
  rw [hfl] at h2
  simp at h2
  refine ⟨?_, by omega⟩
  cases ch with
  | nil => simp at h1
  | cons a r => simp

theorem wpList_append_ints {w : World} {ops : Array Oper} {rest : List Oper} {o : Oper} {a : Act} {Q : Exit → Act → World → Prop} (hgd : o.guard = none) (s x : Operand)
    (ho : o.op = .call { callee := .builtin .append, args := #[s, x], argTypes := #[94, 94] }) (v : Value) (l : List Nat) (hs : a.eval s = v) (hown : IRow w v l) (cb m cc : Nat) (ch : List Nat) (hx : a.eval x = .slice (some ⟨cb, 0, none⟩) m cc) (hm : ch.length = m)
    (hcells : ∀ i, i < m → w.cell? ⟨cb, i, none⟩ = some (.int .i64 (ch.getD i 0 : Nat))) (hl : l.length + m ≤ 65536)
    (h : ∀ (v' : Value) (w' : World), Hid (IRow w' v' (l ++ ch)) → Hid (w.grownBy w' v.ownBlock) → Hid (v'.ownBlock = v.ownBlock ∨ v'.ownBlock = some w.heap.size) → wpList Tryz.prog ops Q rest (a.put o.dst v') w') :
    wpList Tryz.prog ops Q (o :: rest) a w := by
  obtain ⟨i0, hi, hz0, hz1, hz2⟩ := info3b
  refine wpList_append_own_at _ hgd s x 94 ho 0 3 i0 _ 1 8 Tryz.underlying94 hi hz0 hz1 hz2 rfl (by decide) v l.length (l.map fun (k : Nat) => Value.int .i64 (k : Int)) hs hown ⟨cb, 0, none⟩ m cc (ch.map fun (k : Nat) => Value.int .i64 (k : Int)) hx (by simp [hm]) (fun j u hj => ?_) (by intro u hu; simp at hu; obtain ⟨_, _, rfl⟩ := hu; rfl) (by unfold maxLen; omega) (by omega) (Nat.zero_le _) ?_
  · have hj2 : j < ch.length := by have := (List.getElem?_eq_some_iff.1 hj).1; simpa using this
    rw [add_addr, Nat.zero_add, hcells j (by omega)]
    simp [hj2] at hj
    simp [List.getD, hj2, hj]
  · intro v' w' h1 h2 _ h4
    refine h v' w' (hid ?_) (hid h2) (hid h4)
    unfold IRow
    rw [List.length_append, List.map_append, hm]
    exact h1

set_option maxRecDepth 100000 in
set_option maxHeartbeats 4000000 in
theorem Used_any (w : World) (pd : Nat) (q : Qu) (A : Abs) (c : Nat) (al : Nat → Prop) (f : Nat → Int) (hd : Drv w pd q A c al) (hmem : Mem w q.g q.N f) :
    Calls Tryz.prog 40 #[.pointer (some ⟨pd, 0, none⟩)] w fun e w' => Mem w' q.g q.N f ∧ UsedPost w e w' pd q A c al f := by
  obtain ⟨vf, bm, M, d⟩ := hd
  obtain ⟨g, base, n, N, po, pu, Ld, Lo, Lu, geo⟩ := q
  simp only [UsedPost] at *
  have hn2 := geo.n2
  obtain ⟨d0, d1, d2, d3, d4, d5, d6, d7, _, d9, _, _, _⟩ := d.cells
  obtain ⟨p1, p2, p3, p4⟩ := d.apart
  have hplt := d.lt pd d.apd
  have hglt := hmem.lt
  have hbmlt := d.lt bm d.abm
  simp only at p2 p3
  have HD := hid d
  have HME := hid hmem
  have hus : A.uses < 65536 := d.wf.u
  have hs1 : pu + Lu ≤ N := by have := geo.fit; have := geo.epu; have := geo.eLu; omega
  have hs4 : 4 ≤ Lu := by have := geo.eLu; omega
  have hbig := geo.big
  have hcon := hid (index_any w.drew g N pu Lu (.int .i64 n) (.int .i64 8) f hmem hs1 hbig hs4)
  clear d hmem
  by_cases heq : rd f (pu + 2) 2 = A.uses
  · have HE := hid heq
    clear heq
    go_enter Tryz.func40, Tryz.ntmps40
    go_wp2_with fail
    go_region_held3 (fun w' => w'.cell? ⟨pd, 5, none⟩ = some (.slice (some ⟨g, pu, none⟩) Lu Lu) ∧ w'.cell? ⟨pd, 6, none⟩ = some (.int .i64 n) ∧ w'.cell? ⟨pd, 7, none⟩ = some (.int .i64 8) ∧ w'.cell? ⟨pd, 9, none⟩ = some (.int .u16 A.uses)) ((first | exact ⟨d5, d6, d7, d9⟩ | exact HS5.out))
      ((go_at_call 63; refine hcon.out.mono ?_; rintro e w5 ⟨rfl, hb5⟩; have HB5 := hid hb5; have HS5 := hid (And.intro (cell_later hb5 d5) (And.intro (cell_later hb5 d6) (And.intro (cell_later hb5 d7) (cell_later hb5 d9)))); clear hb5; rw [HE.out]))
    go_wp2
    go_ret3
    have hb5 : Below w.heap.size w w5 := (Below.refl _ w).drew.trans HB5.out
    exact ⟨HME.out.below hb5, .inl ⟨HE.out, rfl, Step.of_below ⟨_, _, _, HD.out⟩ hb5⟩⟩
  · have hkn := Nat.mod_lt A.uses (show 0 < n from geo.n1)
    have hLu := geo.eLu
    have hbd := rd_bd HME.out (pu + 2) 2 (by omega)
    have hbd1 := rd_bd HME.out (pu + (4 + A.uses % n * 8)) 4 (by omega)
    have hbd2 := rd_bd HME.out (pu + (4 + A.uses % n * 8) + 4) 4 (by omega)
    have HEQ := hid heq
    have hw16 : IntKind.u16.wrap ((A.uses : Int) + 1) = (((A.uses + 1) % 65536 : Nat) : Int) := by rw [IntKind.wrap_u16]; omega
    have hu1 : (A.uses + 1) % 65536 < 65536 := Nat.mod_lt _ (by omega)
    generalize hv : rd f (pu + 2) 2 = v at *
    have g1 : (v == (A.uses : Int)) = false := by rw [beq_eq_false_iff_ne]; exact heq
    generalize hhd : rd f (pu + (4 + A.uses % n * 8)) 4 = hd at *
    generalize hln : rd f (pu + (4 + A.uses % n * 8) + 4) 4 = ln at *
    have HV := hid hv
    have HHD := hid hhd
    have HLN := hid hln
    have hI : IsI hd := isI_of (by omega) (by omega)
    have HI := hid hI
    generalize hu1e : (A.uses + 1) % 65536 = u1 at *
    have HU1 := hid hu1e
    clear heq hv hhd hln hLu hkn hI hu1e
    go_enter Tryz.func40, Tryz.ntmps40
    go_wp2_with fail
    go_region_held3 (fun w' => w'.cell? ⟨pd, 5, none⟩ = some (.slice (some ⟨g, pu, none⟩) Lu Lu) ∧ w'.cell? ⟨pd, 6, none⟩ = some (.int .i64 n) ∧ w'.cell? ⟨pd, 7, none⟩ = some (.int .i64 8) ∧ w'.cell? ⟨pd, 9, none⟩ = some (.int .u16 A.uses)) ((first | exact ⟨d5, d6, d7, d9⟩ | exact HS5.out))
      ((go_at_call 63; refine hcon.out.mono ?_; rintro e w5 ⟨rfl, hb5⟩; have HB5 := hid hb5; have HS5 := hid (And.intro (cell_later hb5 d5) (And.intro (cell_later hb5 d6) (And.intro (cell_later hb5 d7) (cell_later hb5 d9)))); clear hb5))
    have hb5 : Below w.heap.size w w5 := (Below.refl _ w).drew.trans HB5.out
    have hc2 := hid (use_any w5.drew g base n N po pu Ld Lo Lu A.uses (A.uses % n) f (HME.out.below hb5.drew) geo rfl hus)
    clear HB5 HS5 hcon
    have HB5 := hid hb5
    replace d0 := cell_later hb5 d0
    replace d1 := cell_later hb5 d1
    replace d2 := cell_later hb5 d2
    replace d3 := cell_later hb5 d3
    replace d4 := cell_later hb5 d4
    replace d5 := cell_later hb5 d5
    replace d6 := cell_later hb5 d6
    replace d7 := cell_later hb5 d7
    replace d9 := cell_later hb5 d9
    clear hb5
    rw [memV_eq] at hc2
    go_wp2_with fail
    go_region_held3 (fun w' => w'.cell? ⟨pd, 0, none⟩ = some (.int .i64 n) ∧ w'.cell? ⟨pd, 1, none⟩ = some (.slice (some ⟨g, base, none⟩) Ld Ld) ∧ w'.cell? ⟨pd, 2, none⟩ = some (.slice (some ⟨g, po, none⟩) Lo Lo) ∧ w'.cell? ⟨pd, 3, none⟩ = some (.int .i64 n) ∧ w'.cell? ⟨pd, 4, none⟩ = some (.int .i64 2) ∧ w'.cell? ⟨pd, 5, none⟩ = some (.slice (some ⟨g, pu, none⟩) Lu Lu) ∧ w'.cell? ⟨pd, 6, none⟩ = some (.int .i64 n) ∧ w'.cell? ⟨pd, 7, none⟩ = some (.int .i64 8) ∧ w'.cell? ⟨pd, 9, none⟩ = some (.int .u16 A.uses)) ((first | exact ⟨d0, d1, d2, d3, d4, d5, d6, d7, d9⟩ | exact HS6.out))
      ((go_at_call 64; refine hc2.out.mono ?_; rintro e w6 ⟨rfl, hb6⟩; have HB6 := hid hb6; have HS6 := hid (And.intro (cell_later hb6 d0) (And.intro (cell_later hb6 d1) (And.intro (cell_later hb6 d2) (And.intro (cell_later hb6 d3) (And.intro (cell_later hb6 d4) (And.intro (cell_later hb6 d5) (And.intro (cell_later hb6 d6) (And.intro (cell_later hb6 d7) (cell_later hb6 d9))))))))); clear hb6; rw [HHD.out, HLN.out]))
    have hb6 : Below w.heap.size w w6 := HB5.out.trans (((Below.refl _ w5).drew.trans HB6.out).mono HB5.out.size)
    have hbox6 := (hb6.block pd hplt).trans HD.out.box
    obtain ⟨_, _, _, _, _, _, _, _, _, e9, _, _, fz6⟩ := box80 hbox6
    have f9 := fz6 9
    have hbox7 : (w6.setCell ⟨pd, 9, none⟩ (.int .u16 (u1 : Nat))).heap[pd]? = some (.cells (memC g base n po pu Ld Lo Lu ++ [Value.int .u16 A.offers, Value.int .u16 (u1 : Nat), vf, Value.map (some bm)]).toArray 123 (0, 0)) := setc hbox6 9 _
    have hm7 : Mods (fun b => b = pd) w (w6.setCell ⟨pd, 9, none⟩ (.int .u16 (u1 : Nat))) := (Mods.of_below hb6).setCell pd 9 _ rfl
    have hme7 := HME.out.mods hm7 (fun e => p2 e.symm)
    have hmap7 := HD.out.mp.keep (hm7.block bm hbmlt p1)
    have hlook := hmap7.look_ok Tryz.underlying121 (zero37 _) HI.out
    obtain ⟨_, _, _, _, _, _, _, _, _, _, e10, e11, fz7⟩ := box80 hbox7
    have HB6' := hid hb6
    have HBX7 := hid hbox7
    have HM7 := hid hm7
    have HME7 := hid hme7
    have HMP7 := hid hmap7
    clear hb6 hbox6 hbox7 hm7 hme7 hmap7 hc2 HS6 HB6 HB5 d0 d1 d2 d3 d4 d5 d6 d7 d9 fz6
    rcases HD.out.ch hd HI.out with ⟨hM, hL⟩ | ⟨vch, ch, hM, hL, hrow, hch⟩
    · rw [hM] at hlook
      simp only [Option.getD_none, Option.isSome_none] at hlook
      have HL := hid hL
      clear hM hL
      go_wp2
      go_ret3
      refine ⟨HME7.out, .inr ⟨HEQ.out, .inl ⟨HL.out, rfl, al, ⟨vf, bm, M, ?_⟩, fun _ hb => .inl hb, HM7.out.weak (fun b e => .inl (.inl (by rw [e]; exact HD.out.apd)))⟩⟩⟩
      have hs := HM7.out.size
      exact { lt := fun b hb => Nat.lt_of_lt_of_le (HD.out.lt b hb) hs, box := by rw [HBX7.out]; simp only [BadA]; rw [HU1.out]; rfl, apd := HD.out.apd, abm := HD.out.abm, fr := HD.out.fr.keep (fun b hb => HM7.out.block b (HD.out.lt b (HD.out.afr b hb)) (p4 vf _ b HD.out.fr hb (HD.out.afr b hb)).1), afr := HD.out.afr, mp := HMP7.out,
              ch := fun k hI => (HD.out.ch k hI).imp id (fun ⟨v, l, h1, h2, h3, h4⟩ => ⟨v, l, h1, h2, h3.keep (fun b hb => HM7.out.block b (HD.out.lt b (h4 b hb).1) (p4 v l b h3 hb (h4 b hb).1).1), h4⟩), ng := HD.out.ng, wf := BadA_wf HD.out.wf }
    · rw [hM] at hlook
      simp only [Option.getD_some, Option.isSome_some] at hlook
      obtain ⟨hcl0, hcl1⟩ := chain_len HD.out.wf hL
      simp only at hcl1
      obtain ⟨cb, cc, hvch, hvb, _, _, hcells⟩ := hrow.open_ hcl0
      subst hvch
      obtain ⟨hcal, hcne⟩ := hch cb hvb
      obtain ⟨q1, q2, q3⟩ := p4 _ ch cb hrow hvb hcal
      have hcblt := HD.out.lt cb hcal
      obtain ⟨va, vc, hvf⟩ := HD.out.fr.shape
      obtain ⟨w8, hrun8, hmap8, hg8⟩ := HMP7.out.del Tryz.underlying121 HI.out 0
      have hs7 := HM7.out.size
      have hbox8 := (hg8.block pd (by omega) (fun e => p1 (by simpa using e.symm))).trans HBX7.out
      obtain ⟨_, _, _, _, _, _, _, _, _, _, g10, _, gz⟩ := box80 hbox8
      have hM8 : Mods (fun b => b = pd ∨ b = bm) w w8 := (HM7.out.weak (al' := fun b => b = pd ∨ b = bm) (fun b e => .inl (.inl e))).trans (Mods.of_grown hg8) (fun b e => .inl (.inr e))
      have hfr8 : IRow w8 vf A.free := HD.out.fr.keep (fun b hb => hM8.block b (HD.out.lt b (HD.out.afr b hb)) (fun e => by
        obtain ⟨z1, z2, _⟩ := p4 vf _ b HD.out.fr hb (HD.out.afr b hb)
        rcases e with e | e
        · exact z1 e
        · exact z2 e))
      have hcell8 : ∀ i, i < ch.length → w8.cell? ⟨cb, i, none⟩ = some (.int .i64 (ch.getD i 0 : Nat)) := fun i hi => hM8.cell (hcells i hi).1 (by omega)
      have hme8 := HME.out.mods hM8 (by omega)
      have hfl : A.free.length + ch.length ≤ 65536 := by omega
      have HL := hid hL
      have HBX8 := hid hbox8
      have HM8 := hid hM8
      have HFR8 := hid hfr8
      have HCE8 := hid hcell8
      have HMP8 := hid hmap8
      have HME8 := hid hme8
      have HFL := hid hfl
      have HVF := hid hvf
      have HNE := hid hcne
      have HCL := hid hcl0
      have gz10 := gz 10
      subst hvf
      generalize hlen : A.free.length = len at *
      have HLE := hid hlen
      clear hM hL hrow hch hvb hcells hlen hmap8 hg8 hbox8 hM8 hfr8 hcell8 hme8 hfl hcne gz
      have hs8 := HM8.out.size
      go_wp2_with (at_builtin; refine wpList_append_ints rfl (.tmp 59) (.tmp 60) rfl _ A.free rfl HFR8.out cb ch.length cc ch rfl rfl HCE8.out (by rw [HLE.out]; exact HFL.out) ?_; intro v9 w9 hr9 hgr9 hob9; obtain ⟨g9, c9, rfl, hob, _, _, _⟩ := hr9.out.open_ (by rw [List.length_append]; have := HCL.out; omega); have hbox9 := (hgr9.out.block pd (by omega) (fun e => (p4 _ _ pd HD.out.fr e.symm HD.out.apd).1 rfl)).trans HBX8.out; have hk10 := (box80 hbox9).2.2.2.2.2.2.2.2.2.2.1; have hz10 := (box80 hbox9).2.2.2.2.2.2.2.2.2.2.2.2 10; have HBX9 := hid hbox9; have HOB := hid hob; generalize hl9 : (A.free ++ ch).length = l9 at *; have HL9 := hid hl9; clear hbox9 hob hl9)
      have hq9 : (Value.slice va len vc).ownBlock = some g9 ∨ g9 = w8.heap.size := by
        rcases hob9.out with e | e
        · exact .inl (e.symm.trans HOB.out)
        · right; have := HOB.out.symm.trans e; simpa using this
      have hd9 : g9 ≠ pd ∧ g9 ≠ bm ∧ g9 ≠ g := by
        rcases hq9 with e | e
        · exact p4 _ _ g9 HD.out.fr e (HD.out.afr g9 e)
        · omega
      obtain ⟨z1, z2, z3⟩ := hd9
      have hr10 : IRow (w9.setCell ⟨pd, 10, none⟩ (.slice (some ⟨g9, 0, none⟩) l9 c9)) (.slice (some ⟨g9, 0, none⟩) l9 c9) (A.free ++ ch) := hr9.out.keep (fun b hb => by
        have e : g9 = b := by simpa [Value.ownBlock] using hb
        subst e
        exact Below.heap_setCell _ _ _ _ z1)
      have hs9 := hgr9.out.size
      have hM10 : Mods (fun b => b = pd ∨ (Value.slice va len vc).ownBlock = some b) w8 (w9.setCell ⟨pd, 10, none⟩ (.slice (some ⟨g9, 0, none⟩) l9 c9)) := Mods.setCell ⟨hgr9.out.os, hgr9.out.tape, hgr9.out.output, hgr9.out.size, fun b hb hn => hgr9.out.block b hb (fun e => hn (.inr e.symm))⟩ pd 10 _ (.inl rfl)
      have hbox10 : (w9.setCell ⟨pd, 10, none⟩ (.slice (some ⟨g9, 0, none⟩) l9 c9)).heap[pd]? = some (.cells (memC g base n po pu Ld Lo Lu ++ [Value.int .u16 A.offers, Value.int .u16 (u1 : Nat), .slice (some ⟨g9, 0, none⟩) l9 c9, Value.map (some bm)]).toArray 123 (0, 0)) := setc HBX9.out 10 _
      have HBX10 := hid hbox10
      have HM10 := hid hM10
      have HQ9 := hid hq9
      have hcon := hid (Sort_row (w9.setCell ⟨pd, 10, none⟩ (.slice (some ⟨g9, 0, none⟩) l9 c9)) g9 c9 (A.free ++ ch) l9 HL9.out.symm hr10 (by rw [List.length_append, HLE.out]; exact HFL.out))
      clear hM10 hq9 hr10 hbox10
      refine hcon.out.mono ?_
      rintro e w11 ⟨rfl, hr11, hmo11⟩
      have HR11 := hid hr11
      have HMO11 := hid hmo11
      clear hr11 hmo11
      go_wp2
      go_ret3
      have hs10 := HM10.out.size
      have hs11 := HMO11.out.size
      have hM11 : Mods (fun b => b = pd ∨ (Value.slice va len vc).ownBlock = some b ∨ b = g9) w8 w11 := (HM10.out.weak (al' := fun b => b = pd ∨ (Value.slice va len vc).ownBlock = some b ∨ b = g9) (fun b e => .inl (e.elim .inl (fun e => .inr (.inl e))))).trans HMO11.out (fun b e => .inl (.inr (.inr e)))
      have hMw : Mods (fun b => (b = pd ∨ b = bm) ∨ (Value.slice va len vc).ownBlock = some b) w w11 := (HM8.out.weak (al' := fun b => (b = pd ∨ b = bm) ∨ (Value.slice va len vc).ownBlock = some b) (fun b e => .inl (.inl e))).trans hM11 (fun b e => by
        rcases e with e | e | e
        · exact .inl (.inl (.inl e))
        · exact .inl (.inr e)
        · rcases HQ9.out with e2 | e2
          · rw [← e] at e2; exact .inl (.inr e2)
          · right; omega)
      have hnew : ∀ b, al b → (Value.slice va len vc).ownBlock ≠ some b → g9 ≠ b := fun b hb hne e => by
        rcases HQ9.out with e2 | e2
        · rw [e] at e2; exact hne e2
        · have := HD.out.lt b hb; omega
      have hl11 : (srt (A.free ++ ch)).length = l9 := by rw [← HL9.out]; unfold srt; exact List.length_mergeSort _
      refine ⟨HME8.out.mods hM11 (fun e => ?_), .inr ⟨HEQ.out, .inr ⟨ch, HL.out, rfl, fun b => al b ∨ b = g9, ⟨.slice (some ⟨g9, 0, none⟩) l9 c9, bm, upd M hd none, ?_⟩, ?_, ?_⟩⟩⟩
      · rcases e with e | e | e
        · exact p2 e.symm
        · exact HD.out.ng (HD.out.afr g e)
        · exact z3 e.symm
      · refine { lt := ?_, box := ?_, apd := .inl HD.out.apd, abm := .inl HD.out.abm, fr := HR11.out, afr := ?_, mp := ?_, ch := ?_, ng := ?_, wf := UseA_wf HD.out.wf HL.out }
        · rintro b (hb | rfl)
          · have := HD.out.lt b hb; omega
          · exact HR11.out.lt rfl
        · rw [HMO11.out.block pd (by omega) (fun e => z1 e.symm), HBX10.out]
          simp only [UseA]
          rw [HU1.out]
          rfl
        · intro b hb
          have e : g9 = b := by simpa [Value.ownBlock] using hb
          exact .inr e.symm
        · refine HMP8.out.keep (hM11.block bm (by omega) (fun e => ?_))
          rcases e with e | e | e
          · exact p1 e
          · exact (p4 _ _ bm HD.out.fr e HD.out.abm).2.1 rfl
          · exact z2 e.symm
        · intro k hI
          by_cases e : k = hd
          · left
            rw [UseA_look HD.out.wf HL.out, if_pos e, e]
            exact ⟨upd_same _ _ _, rfl⟩
          · rw [upd_other _ _ e, UseA_look HD.out.wf HL.out, if_neg e]
            refine (HD.out.ch k hI).imp id (fun ⟨v, l, h1, h2, h3, h4⟩ => ⟨v, l, h1, h2, h3.keep (fun b hb => ?_), fun b hb => ⟨.inl (h4 b hb).1, fun e2 => ?_⟩⟩)
            · obtain ⟨y1, y2, y3⟩ := p4 v l b h3 hb (h4 b hb).1
              refine hMw.block b (HD.out.lt b (h4 b hb).1) (fun e => ?_)
              rcases e with (e | e) | e
              · exact y1 e
              · exact y2 e
              · exact (h4 b hb).2 e
            · have e3 : g9 = b := by simpa [Value.ownBlock] using e2
              exact hnew b (h4 b hb).1 (h4 b hb).2 e3
        · rintro (h | h)
          · exact HD.out.ng h
          · exact z3 h.symm
      · rintro b (hb | rfl)
        · exact .inl hb
        · rcases HQ9.out with e2 | e2
          · exact .inl (HD.out.afr _ e2)
          · right; omega
      · refine hMw.weak (fun b e => .inl (.inl ?_))
        rcases e with (e | e) | e
        · rw [e]; exact HD.out.apd
        · rw [e]; exact HD.out.abm
        · exact HD.out.afr b e
end Go.Proofs.YtdjghkngiicncaaGreat
