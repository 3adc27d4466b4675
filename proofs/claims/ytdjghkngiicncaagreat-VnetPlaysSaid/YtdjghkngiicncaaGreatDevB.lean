/- DevA, DevB in one text. -/
import Derived.Test.YtdjghkngiicncaaGreatMemF
/- The device: NewDevice, Take, Give. -/
namespace Go.Proofs.YtdjghkngiicncaaGreat
open Go.RowKit

/-- A queue's place. -/
structure Qu where
  g : Nat
  base : Nat
  n : Nat
  N : Nat
  po : Nat
  pu : Nat
  Ld : Nat
  Lo : Nat
  Lu : Nat
  geo : Geo base n N po pu Ld Lo Lu
def Qu.cs (q : Qu) : List Value := memC q.g q.base q.n q.po q.pu q.Ld q.Lo q.Lu

def Dev (w : World) (pv : Nat) (q : Qu) (o u : Nat) : Prop := w.heap[pv]? = some (.cells (q.cs ++ [Value.int .u16 o, Value.int .u16 u]).toArray 138 (0, 0)) ∧ o < 65536 ∧ u < 65536 ∧ pv ≠ q.g
theorem Dev.keep {w w' : World} {pv : Nat} {q : Qu} {o u : Nat} (h : Dev w pv q o u) (hb : w'.heap[pv]? = w.heap[pv]?) : Dev w' pv q o u := ⟨hb.trans h.1, h.2⟩
theorem Dev.lt {w : World} {pv : Nat} {q : Qu} {o u : Nat} (h : Dev w pv q o u) : pv < w.heap.size := (Array.getElem?_eq_some_iff.1 h.1).1
theorem Dev.mods {w w' : World} {pv : Nat} {q : Qu} {o u : Nat} {al : Nat → Prop} (h : Dev w pv q o u) (hm : Mods al w w') (hn : ¬ al pv) : Dev w' pv q o u := h.keep (hm.block pv h.lt hn)
theorem Dev.cells {w : World} {pv g base n N po pu Ld Lo Lu : Nat} {geo : Geo base n N po pu Ld Lo Lu} {o u : Nat} (h : Dev w pv ⟨g, base, n, N, po, pu, Ld, Lo, Lu, geo⟩ o u) :
    w.cell? ⟨pv, 0, none⟩ = some (.int .i64 n) ∧ w.cell? ⟨pv, 1, none⟩ = some (.slice (some ⟨g, base, none⟩) Ld Ld) ∧ w.cell? ⟨pv, 2, none⟩ = some (.slice (some ⟨g, po, none⟩) Lo Lo) ∧ w.cell? ⟨pv, 3, none⟩ = some (.int .i64 n) ∧ w.cell? ⟨pv, 4, none⟩ = some (.int .i64 2) ∧
    w.cell? ⟨pv, 5, none⟩ = some (.slice (some ⟨g, pu, none⟩) Lu Lu) ∧ w.cell? ⟨pv, 6, none⟩ = some (.int .i64 n) ∧ w.cell? ⟨pv, 7, none⟩ = some (.int .i64 8) ∧ w.cell? ⟨pv, 8, none⟩ = some (.int .u16 o) ∧ w.cell? ⟨pv, 9, none⟩ = some (.int .u16 u) ∧
    w.frozen? ⟨pv, 8, none⟩ = false ∧ w.frozen? ⟨pv, 9, none⟩ = false := by
  have h1 := h.1
  unfold World.cell? World.frozen?
  simp [h1, Qu.cs, memC]
theorem memV_eq (g base n po pu Ld Lo Lu : Nat) : (Value.agg (memC g base n po pu Ld Lo Lu).toArray) = .agg #[.int .i64 n, .slice (some ⟨g, base, none⟩) Ld Ld, .slice (some ⟨g, po, none⟩) Lo Lo, .int .i64 n, .int .i64 2, .slice (some ⟨g, pu, none⟩) Lu Lu, .int .i64 n, .int .i64 8] := rfl

set_option maxRecDepth 100000 in
set_option maxHeartbeats 1000000 in
theorem NewDevice_ok (w : World) (q : Qu) (len cap : Nat) (hp : pow2 q.n = true) (hf : q.base + (8 + 26 * q.n) ≤ len) (hc : len ≤ cap) (hl : len ≤ 1099511627776) (hg : q.g < w.heap.size) :
    Calls Tryz.prog 58 #[.slice (some ⟨q.g, 0, none⟩) len cap, .int .i64 q.base, .int .i64 q.n] w fun e w' => ∃ pv, e = .returned (.tuple #[.pointer (some ⟨pv, 0, none⟩), .int .i64 0]) ∧ Below w.heap.size w w' ∧ w.heap.size ≤ pv ∧ Dev w' pv q 0 0 := by
  obtain ⟨g, base, n, N, po, pu, Ld, Lo, Lu, geo⟩ := q
  simp only at hp hf hc hg ⊢
  have hcon := share_ok w g len cap base n N po pu Ld Lo Lu hp hf hc hl geo
  rw [memV_eq] at hcon
  have HC := hid hcon
  have HG := hid hg
  clear hcon hp hf hc hg hl
  go_enter Tryz.func58, Tryz.ntmps58
  go_wp2_with fail
  refine HC.out.mono ?_
  rintro e w1 ⟨rfl, hb1⟩
  have HB1 := hid hb1
  clear hb1
  go_wp2
  go_ret2
  refine ⟨w1.heap.size + 1, rfl, (HB1.out.alloc HB1.out.size _).alloc (by simp; have := HB1.out.size; omega) _, by have := HB1.out.size; omega, ?_, by omega, by omega, by have := HB1.out.size; have := HG.out; show w1.heap.size + 1 ≠ g; omega⟩
  have := (MapKept.heap_alloc (w1.alloc (.cells #[.int .i64 n, .slice (some ⟨g, base, none⟩) Ld Ld, .slice (some ⟨g, po, none⟩) Lo Lo, .int .i64 n, .int .i64 2, .slice (some ⟨g, pu, none⟩) Lu Lu, .int .i64 n, .int .i64 8] 119)) (.cells #[.int .i64 n, .slice (some ⟨g, base, none⟩) Ld Ld, .slice (some ⟨g, po, none⟩) Lo Lo, .int .i64 n, .int .i64 2, .slice (some ⟨g, pu, none⟩) Lu Lu, .int .i64 n, .int .i64 8, .int .u16 0, .int .u16 0] 138)).1
  rw [show (w1.alloc (.cells #[.int .i64 n, .slice (some ⟨g, base, none⟩) Ld Ld, .slice (some ⟨g, po, none⟩) Lo Lo, .int .i64 n, .int .i64 2, .slice (some ⟨g, pu, none⟩) Lu Lu, .int .i64 n, .int .i64 8] 119)).heap.size = w1.heap.size + 1 by simp] at this
  exact this

def TakePost (w : World) (e : Ending) (w' : World) (pv : Nat) (q : Qu) (o u : Nat) (f : Nat → Int) : Prop :=
  (rd f (q.po + 2) 2 = o ∧ e = .returned (.tuple #[.int .i64 0, .slice none 0 0, .int .i64 2]) ∧ Dev w' pv q o u) ∨
  (rd f (q.po + 2) 2 ≠ o ∧ Dev w' pv q ((o + 1) % 65536) u ∧ ∃ hd : Nat, rd f (q.po + (4 + o % q.n * 2)) 2 = hd ∧ hd < 65536 ∧
    ((rch f q.base q.n (q.n + 1) hd [] = none ∧ e = .returned (.tuple #[.int .i64 0, .slice none 0 0, .int .i64 15])) ∨
     ∃ L v, rch f q.base q.n (q.n + 1) hd [] = some L ∧ e = .returned (.tuple #[.int .i64 hd, v, .int .i64 0]) ∧ w'.ownsRow w.heap.size 88 3 v L.length (cellsB L)))

set_option maxRecDepth 100000 in
set_option maxHeartbeats 2000000 in
theorem Take_any (w : World) (pv : Nat) (q : Qu) (o u : Nat) (f : Nat → Int) (hd : Dev w pv q o u) (hm : Mem w q.g q.N f) :
    Calls Tryz.prog 67 #[.pointer (some ⟨pv, 0, none⟩)] w fun e w' => Mods (fun b => b = pv) w w' ∧ TakePost w e w' pv q o u f := by
  obtain ⟨g, base, n, N, po, pu, Ld, Lo, Lu, geo⟩ := q
  simp only [TakePost] at *
  obtain ⟨d0, d1, d2, d3, d4, d5, d6, d7, d8, d9, fz8, _⟩ := hd.cells
  have ho : o < 65536 := hd.2.1
  have hne : pv ≠ g := hd.2.2.2
  have HD := hid hd
  have HM := hid hm
  have HG := hid geo
  have hs1 : po + Lo ≤ N := by have := geo.fit; have := geo.epo; have := geo.eLo; omega
  have hs4 : 4 ≤ Lo := by have := geo.eLo; omega
  have hbig := geo.big
  have hpl : pv < w.heap.size := hd.lt
  clear hd hm
  by_cases heq : rd f (po + 2) 2 = o
  · have hcon := hid (index_any w.drew g N po Lo (.int .i64 n) (.int .i64 2) f HM.out hs1 hbig hs4)
    have HE := hid heq
    clear heq
    go_enter Tryz.func67, Tryz.ntmps67
    go_wp2_with fail
    go_region_held3 (fun w' => w'.cell? ⟨pv, 2, none⟩ = some (.slice (some ⟨g, po, none⟩) Lo Lo) ∧ w'.cell? ⟨pv, 3, none⟩ = some (.int .i64 n) ∧ w'.cell? ⟨pv, 4, none⟩ = some (.int .i64 2) ∧ w'.cell? ⟨pv, 8, none⟩ = some (.int .u16 o)) ((first | exact ⟨d2, d3, d4, d8⟩ | exact HS5.out))
      ((go_at_call 63; refine hcon.out.mono ?_; rintro e w5 ⟨rfl, hb5⟩; have HB5 := hid hb5; have HS5 := hid (And.intro (cell_later hb5 d2) (And.intro (cell_later hb5 d3) (And.intro (cell_later hb5 d4) (cell_later hb5 d8)))); clear hb5; rw [HE.out]))
    go_wp2
    go_ret3
    -- TAKE
    have hb5 : Below w.heap.size w w5 := (Below.refl _ w).drew.trans HB5.out
    exact ⟨Mods.of_below hb5, .inl ⟨HE.out, rfl, HD.out.keep (hb5.block pv hpl)⟩⟩
  · have hcon := hid (index_any w.drew g N po Lo (.int .i64 n) (.int .i64 2) f HM.out hs1 hbig hs4)
    have hbd := rd_bd HM.out (po + 2) 2 (by omega)
    have hbd2 := rd_bd HM.out (po + (4 + o % n * 2)) 2 (by have := Nat.mod_lt o (show 0 < n from geo.n1); have := geo.eLo; omega)
    obtain ⟨hd, hhd⟩ : ∃ hd : Nat, rd f (po + (4 + o % n * 2)) 2 = hd := ⟨(rd f (po + (4 + o % n * 2)) 2).toNat, by omega⟩
    have hd1 : hd < 65536 := by omega
    have HHD := hid hhd
    have HEQ := hid heq
    have hw16 : IntKind.u16.wrap ((o : Int) + 1) = (((o + 1) % 65536 : Nat) : Int) := by rw [IntKind.wrap_u16]; omega
    have ho1 : (o + 1) % 65536 < 65536 := Nat.mod_lt _ (by omega)
    generalize hv : rd f (po + 2) 2 = v at *
    have HV := hid hv
    have g1 : (v == (o : Int)) = false := by rw [beq_eq_false_iff_ne]; exact heq
    clear heq hhd hbd2 hv
    generalize ho1e : (o + 1) % 65536 = o1 at *
    clear ho1e
    go_enter Tryz.func67, Tryz.ntmps67
    go_wp2_with fail
    go_region_held3 (fun w' => w'.cell? ⟨pv, 2, none⟩ = some (.slice (some ⟨g, po, none⟩) Lo Lo) ∧ w'.cell? ⟨pv, 3, none⟩ = some (.int .i64 n) ∧ w'.cell? ⟨pv, 4, none⟩ = some (.int .i64 2) ∧ w'.cell? ⟨pv, 8, none⟩ = some (.int .u16 o)) ((first | exact ⟨d2, d3, d4, d8⟩ | exact HS5.out))
      ((go_at_call 63; refine hcon.out.mono ?_; rintro e w5 ⟨rfl, hb5⟩; have HB5 := hid hb5; have HS5 := hid (And.intro (cell_later hb5 d2) (And.intro (cell_later hb5 d3) (And.intro (cell_later hb5 d4) (cell_later hb5 d8)))); clear hb5))
    have hb5 : Below w.heap.size w w5 := (Below.refl _ w).drew.trans HB5.out
    have hc2 := hid (offer_any w5.drew g base n N po pu Ld Lo Lu o (o % n) f (HM.out.below hb5.drew) HG.out rfl ho)
    clear HB5 HS5 hcon
    have HB5 := hid hb5
    replace d0 := cell_later hb5 d0
    replace d1 := cell_later hb5 d1
    replace d2 := cell_later hb5 d2
    replace d3 := cell_later hb5 d3
    replace d4 := cell_later hb5 d4
    replace d5 := cell_later hb5 d5
    replace d6 := cell_later hb5 d6
    replace d7 := cell_later hb5 d7
    replace d8 := cell_later hb5 d8
    clear hb5 d9 fz8
    go_wp2_with fail
    go_region_held3 (fun w' => w'.cell? ⟨pv, 0, none⟩ = some (.int .i64 n) ∧ w'.cell? ⟨pv, 1, none⟩ = some (.slice (some ⟨g, base, none⟩) Ld Ld) ∧ w'.cell? ⟨pv, 2, none⟩ = some (.slice (some ⟨g, po, none⟩) Lo Lo) ∧ w'.cell? ⟨pv, 3, none⟩ = some (.int .i64 n) ∧ w'.cell? ⟨pv, 4, none⟩ = some (.int .i64 2) ∧ w'.cell? ⟨pv, 5, none⟩ = some (.slice (some ⟨g, pu, none⟩) Lu Lu) ∧ w'.cell? ⟨pv, 6, none⟩ = some (.int .i64 n) ∧ w'.cell? ⟨pv, 7, none⟩ = some (.int .i64 8) ∧ w'.cell? ⟨pv, 8, none⟩ = some (.int .u16 o)) ((first | exact ⟨d0, d1, d2, d3, d4, d5, d6, d7, d8⟩ | exact HS6.out))
      ((go_at_call 86; refine hc2.out.mono ?_; rintro e w6 ⟨rfl, hb6⟩; have HB6 := hid hb6; have HS6 := hid (And.intro (cell_later hb6 d0) (And.intro (cell_later hb6 d1) (And.intro (cell_later hb6 d2) (And.intro (cell_later hb6 d3) (And.intro (cell_later hb6 d4) (And.intro (cell_later hb6 d5) (And.intro (cell_later hb6 d6) (And.intro (cell_later hb6 d7) (cell_later hb6 d8))))))))); clear hb6; rw [HHD.out]))
    have hb6 : Below w.heap.size w w6 := HB5.out.trans ((Below.refl _ w5).drew.trans HB6.out |>.mono HB5.out.size)
    have hdev6 := HD.out.keep (hb6.block pv hpl)
    obtain ⟨d0, d1, d2, d3, d4, d5, d6, d7, d8, d9, fz8, _⟩ := hdev6.cells
    have hme6 := HM.out.below hb6
    have hm7 : Mods (fun b => b = pv) w (w6.setCell ⟨pv, 8, none⟩ (.int .u16 o1)) := (Mods.of_below hb6).setCell pv 8 _ rfl
    have hdev7 : Dev (w6.setCell ⟨pv, 8, none⟩ (.int .u16 o1)) pv ⟨g, base, n, N, po, pu, Ld, Lo, Lu, geo⟩ o1 u := ⟨setc hdev6.1 8 _, ho1, hdev6.2.2.1, hne⟩
    have hme7 := HM.out.mods hm7 (fun e => hne e.symm)
    obtain ⟨b0, b1, b2, b3, b4, b5, b6, b7, b8, b9, _, _⟩ := hdev7.cells
    have hc3 := hid (readChain_any (w6.setCell ⟨pv, 8, none⟩ (.int .u16 o1)) g base n N po pu Ld Lo Lu hd f hme7 HG.out hd1)
    have HB6' := hid hb6
    have HM7 := hid hm7
    have HDV7 := hid hdev7
    clear hb6 hdev6 hme6 hm7 hdev7 hme7 hc2 HS6 HB6 HB5
    rw [memV_eq] at hc3
    have hsz : w.heap.size ≤ (w6.setCell ⟨pv, 8, none⟩ (.int .u16 o1)).heap.size := HM7.out.size
    have HSZ := hid hsz
    clear hsz
    go_wp2_with fail
    refine hc3.out.mono ?_
    rintro e w8 ⟨hb8, hpost⟩
    have HM8 := hid (HM7.out.below hb8)
    have HDV8 := hid (HDV7.out.keep (hb8.block pv HDV7.out.lt))
    clear hb8 b0 b1 b2 b3 b4 b5 b6 b7 b8 b9 d0 d1 d2 d3 d4 d5 d6 d7 d8 d9
    cases hR : rch f base n (n + 1) hd [] with
    | none =>
      rw [hR] at hpost
      have hpost : e = _ := hpost
      subst hpost
      have HR := hid hR
      clear hR
      go_wp2
      go_ret3
      exact ⟨HM8.out, .inr ⟨HEQ.out, HDV8.out, hd, HHD.out, hd1, .inl ⟨HR.out, rfl⟩⟩⟩
    | some L =>
      rw [hR] at hpost
      obtain ⟨x, rfl, hown⟩ := hpost
      have HR := hid hR
      have HOW := hid hown
      clear hR hown
      go_wp2
      go_ret3
      exact ⟨HM8.out, .inr ⟨HEQ.out, HDV8.out, hd, HHD.out, hd1, .inr ⟨L, x, HR.out, rfl, owns_mono HOW.out HSZ.out⟩⟩⟩
end Go.Proofs.YtdjghkngiicncaaGreat

/- The device: Give. The pieces that may not be. -/
namespace Go.Proofs.YtdjghkngiicncaaGreat
open Go.RowKit

def lenB (n : Int) : Bool := decide (0 ≤ n) && decide (n < 4294967296)
def Is64 (x : Int) : Prop := -9223372036854775808 ≤ x ∧ x < 9223372036854775808

set_option maxRecDepth 100000 in
set_option maxHeartbeats 400000 in
theorem isLength_any (w : World) (n : Int) (hn : Is64 n) : Calls Tryz.prog 69 #[.int .i64 n] w fun e w' => e = .returned (.bool (lenB n)) ∧ w' = w := by
  unfold Is64 at hn
  by_cases h : 0 ≤ n
  · have hw : IntKind.u64.wrap n = n := by rw [IntKind.wrap_u64]; omega
    go_enter Tryz.func69, Tryz.ntmps69
    go_wp2
    go_ret
    refine ⟨ret_bool ?_, rfl⟩
    simp [lenB, h]
    omega
  · go_enter Tryz.func69, Tryz.ntmps69
    go_wp2
    go_ret
    refine ⟨ret_bool ?_, rfl⟩
    simp [lenB]
    omega

def badB (b : Bf) : Bool := decide (b.addr < 0) || !lenB b.len
set_option maxRecDepth 100000 in
set_option maxHeartbeats 400000 in
theorem mayNotBe_any (w : World) (b : Bf) (hn : Is64 b.len) : Calls Tryz.prog 75 #[.agg #[.int .i64 b.addr, .int .i64 b.len, .bool b.wt]] w fun e w' => e = .returned (.bool (badB b)) ∧ Below w.heap.size w w' := by
  obtain ⟨addr, len, wt⟩ := b
  simp only [badB] at *
  have HN := hid hn
  clear hn
  by_cases h : addr < 0
  · go_enter Tryz.func75, Tryz.ntmps75
    go_wp2
    go_ret
    exact ⟨ret_bool (by simp [h]), (Below.refl _ _).alloc (Nat.le_refl _) _⟩
  · go_enter Tryz.func75, Tryz.ntmps75
    go_wp2_with (go_at_call 69; refine (isLength_any _ _ HN.out).mono ?_; rintro e w' ⟨rfl, hw⟩; rw [hw]; clear hw w')
    go_ret
    exact ⟨ret_bool (by simp; intro hh; omega), (Below.refl _ _).alloc (Nat.le_refl _) _⟩

def giveB (n : Nat) (hd len : Int) : Bool := decide (0 ≤ hd) && decide (hd < n) && lenB len
def given (f : Nat → Int) (pu n u : Nat) (hd len : Int) : Nat → Int := wr (wr (wr f (pu + (4 + u % n * 8)) 4 hd) (pu + (4 + u % n * 8) + 4) 4 len) (pu + 2) 2 ((u + 1) % 65536 : Nat)

set_option maxRecDepth 100000 in
set_option maxHeartbeats 1000000 in
theorem Give_bad (w : World) (pv : Nat) (q : Qu) (o u : Nat) (hdv : Dev w pv q o u) (hd len : Int) (hl : Is64 len) (hb : giveB q.n hd len = false) :
    Calls Tryz.prog 47 #[.pointer (some ⟨pv, 0, none⟩), .int .i64 hd, .int .i64 len] w fun e w' => e = .returned (.int .i64 1) ∧ w' = w := by
  obtain ⟨g, base, n, N, po, pu, Ld, Lo, Lu, geo⟩ := q
  obtain ⟨d0, _⟩ := hdv.cells
  simp only [giveB] at hb
  have HL := hid hl
  clear hdv hl
  by_cases h1 : hd < 0
  · clear hb
    go_enter Tryz.func47, Tryz.ntmps47
    go_wp2
    go_ret
    exact ⟨rfl, rfl⟩
  · by_cases h2 : (n : Int) ≤ hd
    · clear hb
      go_enter Tryz.func47, Tryz.ntmps47
      go_wp2
      go_ret
      exact ⟨rfl, rfl⟩
    · have h3 : lenB len = false := by
        simp [show 0 ≤ hd by omega, show hd < (n : Int) by omega] at hb
        exact hb
      have H3 := hid h3
      clear hb h3
      go_enter Tryz.func47, Tryz.ntmps47
      go_wp2_with (go_at_call 69; refine (isLength_any _ _ HL.out).mono ?_; rintro e w' ⟨rfl, hw⟩; rw [hw, H3.out]; clear hw w')
      go_ret
      exact ⟨rfl, rfl⟩

set_option maxRecDepth 100000 in
set_option maxHeartbeats 2000000 in
theorem Give_ok (w : World) (pv : Nat) (q : Qu) (o u : Nat) (f : Nat → Int) (hdv : Dev w pv q o u) (hm : Mem w q.g q.N f) (hd len : Int) (hb : giveB q.n hd len = true) :
    Calls Tryz.prog 47 #[.pointer (some ⟨pv, 0, none⟩), .int .i64 hd, .int .i64 len] w fun e w' => e = .returned (.int .i64 0) ∧ Mods (fun b => b = pv ∨ b = q.g) w w' ∧ Dev w' pv q o ((u + 1) % 65536) ∧ Mem w' q.g q.N (given f q.pu q.n u hd len) := by
  obtain ⟨g, base, n, N, po, pu, Ld, Lo, Lu, geo⟩ := q
  simp only [giveB, lenB, Bool.and_eq_true, decide_eq_true_eq] at hb
  obtain ⟨⟨h1, h2⟩, h3, h4⟩ := hb
  obtain ⟨d0, d1, d2, d3, d4, d5, d6, d7, d8, d9, _, _⟩ := hdv.cells
  have hu : u < 65536 := hdv.2.2.1
  have hne : pv ≠ g := hdv.2.2.2
  have hpl : pv < w.heap.size := hdv.lt
  have hn2 := geo.n2
  have h1' : ¬ (hd < 0) := by omega
  have h2' : ¬ ((n : Int) ≤ hd) := by omega
  have HLB : Hid (lenB len = true) := hid (by simp [lenB]; omega)
  have HD := hid hdv
  have HL : Hid (Is64 len) := hid ⟨by omega, by omega⟩
  have hcon := putUse_any w.drew g base n N po pu Ld Lo Lu u (u % n) hd len f hm geo rfl hu h1 (by omega) h3 h4
  rw [memV_eq] at hcon
  have HC := hid hcon
  have hw16 : IntKind.u16.wrap ((u : Int) + 1) = (((u + 1) % 65536 : Nat) : Int) := by rw [IntKind.wrap_u16]; omega
  have hu1 : (u + 1) % 65536 < 65536 := Nat.mod_lt _ (by omega)
  simp only [given]
  generalize hu1e : (u + 1) % 65536 = u1 at *
  clear hdv hm hcon hu1e
  go_enter Tryz.func47, Tryz.ntmps47
  go_wp2_with (go_at_call 69; refine (isLength_any _ _ HL.out).mono ?_; rintro e w' ⟨rfl, hw⟩; rw [hw, HLB.out]; clear hw w')
  go_region_held3 (fun w' => w'.cell? ⟨pv, 0, none⟩ = some (.int .i64 n) ∧ w'.cell? ⟨pv, 1, none⟩ = some (.slice (some ⟨g, base, none⟩) Ld Ld) ∧ w'.cell? ⟨pv, 2, none⟩ = some (.slice (some ⟨g, po, none⟩) Lo Lo) ∧ w'.cell? ⟨pv, 3, none⟩ = some (.int .i64 n) ∧ w'.cell? ⟨pv, 4, none⟩ = some (.int .i64 2) ∧ w'.cell? ⟨pv, 5, none⟩ = some (.slice (some ⟨g, pu, none⟩) Lu Lu) ∧ w'.cell? ⟨pv, 6, none⟩ = some (.int .i64 n) ∧ w'.cell? ⟨pv, 7, none⟩ = some (.int .i64 8) ∧ w'.cell? ⟨pv, 9, none⟩ = some (.int .u16 u)) ((first | exact ⟨d0, d1, d2, d3, d4, d5, d6, d7, d9⟩ | exact HS5.out))
    ((go_at_call 70; refine HC.out.mono ?_; rintro e w5 ⟨rfl, hm5, hmo5⟩; have HM5 := hid hm5; have HMO5 := hid hmo5; have HS5 := hid (And.intro (hmo5.cell (w := w.drew) d0 hne) (And.intro (hmo5.cell (w := w.drew) d1 hne) (And.intro (hmo5.cell (w := w.drew) d2 hne) (And.intro (hmo5.cell (w := w.drew) d3 hne) (And.intro (hmo5.cell (w := w.drew) d4 hne) (And.intro (hmo5.cell (w := w.drew) d5 hne) (And.intro (hmo5.cell (w := w.drew) d6 hne) (And.intro (hmo5.cell (w := w.drew) d7 hne) (hmo5.cell (w := w.drew) d9 hne))))))))); clear hm5 hmo5))
  have hdev5 := HD.out.mods (w' := w5) (al := fun b => b = g) ⟨HMO5.out.os, HMO5.out.tape, HMO5.out.output, HMO5.out.size, HMO5.out.block⟩ hne
  obtain ⟨_, _, _, _, _, _, _, _, _, d9, _, fz9⟩ := hdev5.cells
  have HD5 := hid hdev5
  clear hdev5 HS5
  go_wp2
  go_ret
  have hmo : Mods (fun b => b = pv ∨ b = g) w w5 := ⟨HMO5.out.os, HMO5.out.tape, HMO5.out.output, HMO5.out.size, fun b hb hn => HMO5.out.block b hb (fun e => hn (.inr e))⟩
  refine ⟨rfl, hmo.setCell pv 9 _ (.inl rfl), ⟨setc HD5.out.1 9 _, HD5.out.2.1, hu1, hne⟩, HM5.out.mods ((Mods.refl (fun b => b = pv) w5).setCell pv 9 _ rfl) (fun e => hne e.symm)⟩
end Go.Proofs.YtdjghkngiicncaaGreat
