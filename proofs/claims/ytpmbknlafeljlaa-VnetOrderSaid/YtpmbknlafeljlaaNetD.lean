/- vnet: a frame is put into a place and offered. -/
import Derived.Test.YtpmbknlafeljlaaNetC
namespace Go.Proofs.Ytpmbknlafeljlaa
open Go.RowKit

/-- The bytes L laid at a. -/
def puts (f : Nat → Int) (a : Nat) (L : List Int) : Nat → Int := fun i => if a ≤ i ∧ i < a + L.length then L.getD (i - a) 0 else f i
theorem puts_isB {f : Nat → Int} {N a : Nat} {L : List Int} (h : ∀ i, i < N → IsB (f i)) (hL : ∀ x ∈ L, IsB x) : ∀ i, i < N → IsB (puts f a L i) := by
  intro i hi
  unfold puts
  split
  · exact mem_getD L IsB hL _ (by omega)
  · exact h i hi
/-- 'copy' of a row of bytes into memory that is longer. -/
theorem wpList_copy_row {w : World} {ops : Array Oper} {rest : List Oper} {o : Oper} {a : Act} {Q : Exit → Act → World → Prop} (hgd : o.guard = none) (d s : Operand)
    (ho : o.op = .call { callee := .builtin .copy, args := #[d, s], argTypes := #[25, 25] })
    (g N p n m dCap r sCap : Nat) (f : Nat → Int) (L : List Int) (hd : a.eval d = .slice (some ⟨g, p, none⟩) n dCap) (hs : a.eval s = .slice (some ⟨r, 0, none⟩) m sCap)
    (hm : Mem w g N f) (hr : Blk w r L) (hL : L.length = m) (hmn : m ≤ n) (hp : p + m ≤ N) (hB : ∀ x ∈ L, IsB x)
    (h : ∀ w', Hid (Mem w' g N (puts f p L)) → Hid (Mods (fun b => b = g) w w') → wpList Try.prog ops Q rest (a.put o.dst (goInt m)) w') :
    wpList Try.prog ops Q (o :: rest) a w := by
  obtain ⟨⟨cur, hg, hcn, hcur⟩, hBf⟩ := hm
  have hlen : (L.map fun x => Value.int .u8 x).length = m := by rw [List.length_map, hL]
  refine wpList_copy_own hgd d s 25 25 ho 5 Try.underlying25 size5 g p n dCap ⟨r, 0, none⟩ m sCap hd hs cur 5 hg (L.map fun x => Value.int .u8 x) (by rw [hlen]; first | exact (Nat.min_eq_right hmn).symm | exact (Nat.min_eq_left hmn).symm) (fun j u hj => ?_) (by rw [hlen]; omega) (fun u hu => by simp only [List.mem_map] at hu; obtain ⟨y, _, rfl⟩ := hu; rfl) ?_
  · have hj2 : j < m := by have := (List.getElem?_eq_some_iff.1 hj).1; rwa [hlen] at this
    have e : (⟨r, 0, none⟩ : Addr).add j = ⟨r, 0 + j, none⟩ := by unfold Addr.add; split <;> simp_all
    rw [e, Nat.zero_add, Mem.cell hr (by rw [hL]; exact hj2)]
    rw [List.getElem?_map] at hj
    simp only [Option.map_eq_some_iff] at hj
    obtain ⟨x, hx, rfl⟩ := hj
    simp [List.getD, hx]
  · rw [hlen]
    refine h _ (hid ⟨⟨_, setRow_heap w g _ _ 5 _ hg, by simp [hL]; omega, fun i hi => ?_⟩, puts_isB hBf hB⟩) (hid ⟨rfl, rfl, rfl, by simp [World.setRow], fun b _ hb => setRow_other w g b _ hb⟩)
    have h5 := hcur i hi
    simp only [List.getElem?_toArray]
    unfold puts
    rw [hL]
    by_cases h6 : p ≤ i
    · by_cases h7 : i < p + m
      · rw [if_pos ⟨h6, h7⟩, List.getElem?_append_right (by simp; omega), List.getElem?_append_left (by simp [hL]; omega)]
        have : min p cur.size = p := by omega
        simp only [List.length_take, Array.length_toList, this, List.getElem?_map]
        rw [show L[i - p]? = some (L.getD (i - p) 0) by simp [List.getD, hL, show i - p < m by omega]]
        rfl
      · rw [if_neg (by omega), List.getElem?_append_right (by simp; omega), List.getElem?_append_right (by simp [hL]; omega)]
        have e1 : min p cur.size = p := by omega
        have e2 : p + m + (i - p - m) = i := by omega
        simp [e1, hL, e2, h5]
    · rw [if_neg (by omega), List.getElem?_append_left (by simp; omega), List.getElem?_take]
      simp [show i < p by omega, h5]

theorem Blk.below {w w' : World} {b : Nat} {L : List Int} (h : Blk w b L) (hb : Below w.heap.size w w') : Blk w' b L := Mem.below h hb
theorem Blk.mods {w w' : World} {b : Nat} {L : List Int} {al : Nat → Prop} (h : Blk w b L) (hb : Mods al w w') (hn : ¬ al b) : Blk w' b L := Mem.mods h hb hn
theorem Blk.lt {w : World} {b : Nat} {L : List Int} (h : Blk w b L) : b < w.heap.size := Mem.lt h

theorem box_step {w w' : World} {pd : Nat} {q : Qu} {A : Abs} {c : Nat} {al : Nat → Prop} (h : Step w w' pd q A c al) {b : Nat} {x y z : Value} (h1 : ¬ al b) (h2 : b ≠ q.g) (hc : w.cell? ⟨b, 0, none⟩ = some x ∧ w.cell? ⟨b, 1, none⟩ = some y ∧ w.cell? ⟨b, 2, none⟩ = some z) :
    w'.cell? ⟨b, 0, none⟩ = some x ∧ w'.cell? ⟨b, 1, none⟩ = some y ∧ w'.cell? ⟨b, 2, none⟩ = some z := by
  obtain ⟨_, _, _, hm⟩ := h
  have hn : ¬ (al b ∨ b = q.g) := fun e => e.elim h1 h2
  exact ⟨hm.cell hc.1 hn, hm.cell hc.2.1 hn, hm.cell hc.2.2 hn⟩
set_option maxRecDepth 100000 in
set_option maxHeartbeats 4000000 in
theorem offerFrame_any (w : World) (pd : Nat) (q : Qu) (S : Sd) (c : Nat) (al : Nat → Prop) (first place z : Nat) (ad : Option Addr) (cap len : Nat) (L : List Int) (hd : Drv w pd q S.A c al) (hm : Mem w q.g q.N S.f) (hB : Bytes w ad L) (hln : L.length = len) (h1 : 14 ≤ len) (h2 : len ≤ 1514)
    (hp : place ≤ 256) (hz : first + place * 1528 = z) (hf : z + 1526 ≤ q.N) (hfr : 0 < S.A.free.length) (hc : c < 1099511627776) :
    Calls Try.prog 30 #[sideV pd q.g q.N first, .int .i64 place, .slice ad len cap] w fun e w' => e = .returned (.int .i64 0) ∧ Step w w' pd q (AddA S.A 1) (c + 1) al ∧ Mem w' q.g q.N (addF (puts S.f z (rowL L)) q S.A [⟨z, (12 + len : Nat), false⟩]) := by
  obtain ⟨rl, hrl⟩ : ∃ rl, rl = 12 + len := ⟨_, rfl⟩
  rw [← hrl]
  have hbig := q.geo.big
  have HPI : Hid (∀ W : World, Calls Try.prog 40 #[sideV pd q.g q.N first, .int .i64 place, .int .i64 rl] W fun e w' => e = .returned (.agg #[.int .i64 z, .int .i64 rl, .bool false]) ∧ Below W.heap.size W w') := hid (fun W => piece_any W pd q.g q.N first place rl z (by omega) (by omega) (by omega))
  have HBY : Hid (∀ W : World, Calls Try.prog 35 #[sideV pd q.g q.N first, .int .i64 place, .int .i64 rl] W fun e w' => e = .returned (.slice (some ⟨q.g, z, none⟩) rl rl) ∧ Below W.heap.size W w') := hid (fun W => bytes_any W pd q.g q.N first place rl z (by omega) (by omega) (by omega) (by omega) (by omega))
  have HD := hid hd
  have HM := hid hm
  have HZ := hid hz
  have HF : Hid (z + rl ≤ q.N ∧ rl ≤ 1526) := hid (by omega)
  have HLB : Hid (∀ x ∈ rowL L, IsB x) := hid (rowL_isB hB.isB)
  have HLN : Hid ((rowL L).length = rl) := hid (by rw [rowL_len, hln, hrl])
  have hgl : q.g < w.heap.size := hm.lt
  have hdl := hid hd.lt
  unfold sideV at *
  obtain ⟨c0, c1, c2⟩ := side_cells w pd q.g q.N first
  obtain ⟨W, hW⟩ : ∃ W, W = w.alloc (.cells #[.pointer (some ⟨pd, 0, none⟩), .slice (some ⟨q.g, 0, none⟩) q.N q.N, .int .i64 first] 46) := ⟨_, rfl⟩
  have HB0 : Hid (Below w.heap.size w W) := hid (by rw [hW]; exact (Below.refl _ _).alloc (Nat.le_refl _) _)
  have HWS : Hid (w.heap.size < W.heap.size) := hid (by rw [hW]; simp)
  rw [← hW] at c0 c1 c2
  have HFR := hid (framed_any W ad cap len L (hB.later HB0.out) hln h1 h2)
  rw [← hrl] at HFR
  have HFE := hid hfr
  clear hd hm hz hf hB hln hfr hrl h1 h2
  generalize rowL L = RL at *
  go_enter Try.func30, Try.ntmps30
  go_wp2_with fail
  rw [← hW]
  clear hW
  refine HFR.out.mono ?_
  rintro e w2 ⟨rb, rc, rfl, hrb, hrc, hblk, hb2⟩
  have HB2 := hid (HB0.out.trans (hb2.mono HB0.out.size))
  have HBK := hid hblk
  have HRB := hid hrb
  replace c0 := cell_later hb2 c0
  replace c1 := cell_later hb2 c1
  replace c2 := cell_later hb2 c2
  clear hrb hblk hb2
  go_wp2_with fail
  refine (HBY.out w2).mono ?_
  rintro e w3 ⟨rfl, hb3⟩
  have HB3 := hid (HB2.out.trans (hb3.mono HB2.out.size))
  replace c0 := cell_later hb3 c0
  replace c1 := cell_later hb3 c1
  replace c2 := cell_later hb3 c2
  have HBK3 := hid (HBK.out.below hb3)
  clear hb3
  have hgb : q.g ≠ rb := by have := HRB.out; have := HWS.out; omega
  go_wp2_with (show wpList _ _ _ ({ dst := _, op := .call { callee := .builtin .copy, args := _, argTypes := _ }, type := _, pos := _, after := _, guard := _ } :: _) _ _; refine wpList_copy_row rfl (.tmp 16) (.tmp 17) rfl q.g q.N z rl rl rl rb rc S.f RL rfl rfl (HM.out.below HB3.out) HBK3.out HLN.out (Nat.le_refl _) HF.out.1 HLB.out ?_; intro w4 HM4 HMO4; have d0 := HMO4.out.cell c0 (by omega); have d1 := HMO4.out.cell c1 (by omega); have d2 := HMO4.out.cell c2 (by omega); clear c0 c1 c2)
  have hng : ¬ al q.g := by obtain ⟨_, _, _, d⟩ := HD.out; exact d.ng
  have hd4 : Drv w4 pd q S.A c al := (HD.out.below HB3.out).mods HMO4.out (fun b hb e => hng (e ▸ hb))
  have hmw4 : Mods (fun b => b = q.g) w w4 := (Mods.of_below HB3.out).tr HMO4.out
  have hbx : ¬ al w.heap.size := fun h => Nat.lt_irrefl _ (hdl.out _ h)
  have HADD : Hid (∀ w5, Below w4.heap.size w4 w5 → Calls Try.prog 41 #[.pointer (some ⟨pd, 0, none⟩), .slice (some ⟨w5.heap.size, 0, none⟩) 1 1] (w5.alloc (.cells #[.int .i64 z, .int .i64 rl, .bool false] 65)) fun e w' => e = .returned (.tuple #[.int .i64 (S.A.free.getD 0 0 : Nat), .int .i64 0]) ∧ Step (w5.alloc (.cells #[.int .i64 z, .int .i64 rl, .bool false] 65)) w' pd q (AddA S.A 1) (c + 1) al ∧ Mem w' q.g q.N (addF (puts S.f z RL) q S.A [⟨z, rl, false⟩])) := hid (fun w5 h5 => by
    have hb : Below w4.heap.size w4 (w5.alloc (.cells #[.int .i64 z, .int .i64 rl, .bool false] 65)) := h5.alloc h5.size _
    refine Add_ok _ pd q S.A c al (puts S.f z RL) (hd4.below hb) (HM4.out.below hb) (some ⟨w5.heap.size, 0, none⟩) 1 1 [⟨z, rl, false⟩] rfl (one_buf w5 z rl false q.g (Nat.lt_of_lt_of_le HM4.out.lt h5.size)) (fun b off e hb2 => ?_) (fun b hb2 => ?_) (by omega) HFE.out hc
    · have h1 := hd4.lt b hb2
      have h2 := h5.size
      simp at e
      try omega
    · simp at hb2
      subst hb2
      have := HF.out
      exact ⟨by simp, by simp; omega, by simp, by simp; omega⟩)
  have HMW4 := hid hmw4
  have HBX := hid hbx
  clear hd4 hmw4 hbx hng HM4 HMO4
  generalize ((S.A.free.getD 0 0 : Nat) : Int) = hx at *
  go_region_held3 (fun w' => w'.cell? ⟨w.heap.size, 0, none⟩ = some (.pointer (some ⟨pd, 0, none⟩)) ∧ w'.cell? ⟨w.heap.size, 1, none⟩ = some (.slice (some ⟨q.g, 0, none⟩) q.N q.N) ∧ w'.cell? ⟨w.heap.size, 2, none⟩ = some (.int .i64 first)) ((first | exact ⟨d0, d1, d2⟩ | exact HS5.out | exact HS6.out | exact HS7.out))
    ((first
      | (go_at_call 40; refine (HPI.out _).mono ?_; rintro e w5 ⟨rfl, hb5⟩; have HB5 := hid (((Below.refl _ w4).drew).trans hb5); have HS5 := hid (And.intro (cell_later hb5 d0) (And.intro (cell_later hb5 d1) (cell_later hb5 d2))); have HS6 := hid (And.intro (cell_later ((Below.refl _ w5).alloc (Nat.le_refl _) (.cells #[.int .i64 z, .int .i64 rl, .bool false] 65)) HS5.out.1) (And.intro (cell_later ((Below.refl _ w5).alloc (Nat.le_refl _) (.cells #[.int .i64 z, .int .i64 rl, .bool false] 65)) HS5.out.2.1) (cell_later ((Below.refl _ w5).alloc (Nat.le_refl _) (.cells #[.int .i64 z, .int .i64 rl, .bool false] 65)) HS5.out.2.2))); clear hb5)
      | (go_at_call 41; refine (HADD.out w5 HB5.out).mono ?_; rintro e w7 ⟨rfl, hs7, hm7⟩; have HS7' := hid hs7; have HM7 := hid hm7; have HS7 : Hid (w7.cell? ⟨w.heap.size, 0, none⟩ = some (.pointer (some ⟨pd, 0, none⟩)) ∧ w7.cell? ⟨w.heap.size, 1, none⟩ = some (.slice (some ⟨q.g, 0, none⟩) q.N q.N) ∧ w7.cell? ⟨w.heap.size, 2, none⟩ = some (.int .i64 first)) := hid (box_step hs7 HBX.out (by omega) HS6.out); clear hs7 hm7)))
  go_wp2
  go_ret
  have hm5 := (HMW4.out.weak (al' := fun b => al b ∨ b = q.g) (fun b e => .inl (.inr e))).below (HB5.out.alloc HB5.out.size (.cells #[.int .i64 z, .int .i64 rl, .bool false] 65))
  exact ⟨rfl, Step.trans (fun _ h => .inl h) hm5 HS7'.out, HM7.out⟩

/- The port's side. -/
def devV (pv g N : Nat) : Value := .agg #[.pointer (some ⟨pv, 0, none⟩), .slice (some ⟨g, 0, none⟩) N N]
def inP (rl : Int) (b : Bf) : Bool := b.wt && decide (rl ≤ b.len)
def outP (b : Bf) : Bool := !b.wt && fdB b.len
set_option maxRecDepth 100000 in
set_option maxHeartbeats 400000 in
theorem Deliver1_any (w : World) (x y : Int) (t : Bool) (bx : Nat) (a : Option Addr) (rl rc : Nat) (hc : w.cell? ⟨bx, 0, none⟩ = some (.slice a rl rc)) :
    Calls Try.prog 26 #[.agg #[.int .i64 x, .int .i64 y, .bool t], .pointer (some ⟨bx, 0, none⟩)] w fun e w' => e = .returned (.bool (inP rl ⟨x, y, t⟩)) ∧ Below w.heap.size w w' := by
  replace hc := cell_later ((Below.refl _ w).alloc (Nat.le_refl _) (.cells #[.int .i64 x, .int .i64 y, .bool t] 65)) hc
  unfold inP
  cases t with
  | false =>
    go_enter Try.func26, Try.ntmps26
    go_wp2
    go_ret
    exact ⟨rfl, (Below.refl _ _).alloc (Nat.le_refl _) _⟩
  | true =>
    go_enter Try.func26, Try.ntmps26
    go_wp2
    go_ret
    exact ⟨by simp, (Below.refl _ _).alloc (Nat.le_refl _) _⟩
set_option maxRecDepth 100000 in
set_option maxHeartbeats 400000 in
theorem Sent1_any (w : World) (x y : Int) (t : Bool) :
    Calls Try.prog 36 #[.agg #[.int .i64 x, .int .i64 y, .bool t]] w fun e w' => e = .returned (.bool (outP ⟨x, y, t⟩)) ∧ Below w.heap.size w w' := by
  unfold outP
  cases t with
  | true =>
    go_enter Try.func36, Try.ntmps36
    go_wp2
    go_ret
    exact ⟨rfl, (Below.refl _ _).alloc (Nat.le_refl _) _⟩
  | false =>
    have hcon := hid (isFramed_any (w.alloc (.cells #[.int .i64 x, .int .i64 y, .bool false] 65)) y)
    simp only [Bool.not_false, Bool.true_and]
    generalize fdB y = fb at *
    go_enter Try.func36, Try.ntmps36
    go_wp2_with (go_at_call 33; refine hcon.out.mono ?_; rintro e w1 ⟨rfl, rfl⟩)
    go_ret
    exact ⟨rfl, (Below.refl _ _).alloc (Nat.le_refl _) _⟩
end Go.Proofs.Ytpmbknlafeljlaa
