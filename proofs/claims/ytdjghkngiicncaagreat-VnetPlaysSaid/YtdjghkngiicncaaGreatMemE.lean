/- layChain: the pieces of a chain are laid into descriptors. -/
import Derived.Test.YtdjghkngiicncaaGreatMemD
namespace Go.Proofs.YtdjghkngiicncaaGreat
open Go.RowKit

structure Bf where
  addr : Int
  len : Int
  wt : Bool
  deriving Inhabited

theorem cell_lt {w : World} {b o : Nat} {v : Value} (h : w.cell? ⟨b, o, none⟩ = some v) : b < w.heap.size := by
  unfold World.cell? at h
  cases hb : w.heap[b]? with
  | none => simp [hb] at h
  | some x => exact (Array.getElem?_eq_some_iff.1 hb).1
theorem Mods.cell {al : Nat → Prop} {w w' : World} (h : Mods al w w') {b o : Nat} {v : Value} (hc : w.cell? ⟨b, o, none⟩ = some v) (hn : ¬ al b) : w'.cell? ⟨b, o, none⟩ = some v :=
  (World.cell?_of_block (w := w) (h.block b (cell_lt hc) hn)).trans hc

/-- A row of numbers out of block g. -/
def Nums (w : World) (a : Option Addr) (l : List Nat) (g : Nat) : Prop := ∀ i, i < l.length → ∃ b off, a = some ⟨b, off, none⟩ ∧ b ≠ g ∧ w.cell? ⟨b, off + i, none⟩ = some (.int .i64 (l.getD i 0 : Nat))
theorem Nums.mods {w w' : World} {a : Option Addr} {l : List Nat} {g : Nat} (h : Nums w a l g) (hm : Mods (fun b => b = g) w w') : Nums w' a l g := fun i hi => by
  obtain ⟨b, off, h1, h2, h3⟩ := h i hi
  exact ⟨b, off, h1, h2, hm.cell h3 h2⟩
/-- A row of pieces out of block g. -/
def Bufs (w : World) (a : Option Addr) (l : List Bf) (g : Nat) : Prop := ∀ i, i < l.length → ∃ b off, a = some ⟨b, off, none⟩ ∧ b ≠ g ∧ w.cell? ⟨b, off + i * 3, none⟩ = some (.int .i64 (l.getD i default).addr) ∧
  w.cell? ⟨b, off + i * 3 + 1, none⟩ = some (.int .i64 (l.getD i default).len) ∧ w.cell? ⟨b, off + i * 3 + 2, none⟩ = some (.bool (l.getD i default).wt)
theorem Bufs.mods {w w' : World} {a : Option Addr} {l : List Bf} {g : Nat} (h : Bufs w a l g) (hm : Mods (fun b => b = g) w w') : Bufs w' a l g := fun i hi => by
  obtain ⟨b, off, h1, h2, h3, h4, h5⟩ := h i hi
  exact ⟨b, off, h1, h2, hm.cell h3 h2, hm.cell h4 h2, hm.cell h5 h2⟩

/-- A piece that a descriptor can lead to. -/
def okB (b : Bf) : Prop := 0 ≤ b.addr ∧ b.addr < 9223372036854775808 ∧ 0 ≤ b.len ∧ b.len < 4294967296

def flagsOf (wt more : Bool) : Int := (if wt then 2 else 0) + (if more then 1 else 0)
def put1 (f : Nat → Int) (a : Nat) (b : Bf) (fl nx : Int) : Nat → Int := wr (wr (wr (wr f a 8 b.addr) (a + 8) 4 b.len) (a + 12) 2 fl) (a + 14) 2 nx
/-- The first k pieces of l laid into the descriptors with those numbers. -/
def layTo (f : Nat → Int) (base : Nat) (nums : List Nat) (l : List Bf) : Nat → Nat → Int
  | 0 => f
  | k + 1 => put1 (layTo f base nums l k) (base + nums.getD k 0 * 16) (l.getD k default) (flagsOf (l.getD k default).wt (decide (k + 1 < l.length))) (if k + 1 < l.length then (nums.getD (k + 1) 0 : Nat) else 0)

set_option maxRecDepth 100000 in
set_option maxHeartbeats 1000000 in
theorem put1_any (w : World) (g N p : Nat) (f : Nat → Int) (b : Bf) (fl nx : Int) (h : Mem w g N f) (hp : p + 16 ≤ N) (hb : okB b) (hf : 0 ≤ fl ∧ fl < 4) (hn : 0 ≤ nx ∧ nx < 65536) :
    Calls Tryz.prog 88 #[.slice (some ⟨g, p, none⟩) 16 16, .int .i64 0, .int .i64 8, .int .i64 b.addr] w fun e1 w1 => e1 = .returned (.tuple #[]) ∧ Mods (fun b => b = g) w w1 ∧
    Calls Tryz.prog 88 #[.slice (some ⟨g, p, none⟩) 16 16, .int .i64 8, .int .i64 4, .int .i64 b.len] w1 fun e2 w2 => e2 = .returned (.tuple #[]) ∧ Mods (fun b => b = g) w w2 ∧
    Calls Tryz.prog 88 #[.slice (some ⟨g, p, none⟩) 16 16, .int .i64 12, .int .i64 2, .int .i64 fl] w2 fun e3 w3 => e3 = .returned (.tuple #[]) ∧ Mods (fun b => b = g) w w3 ∧
    Calls Tryz.prog 88 #[.slice (some ⟨g, p, none⟩) 16 16, .int .i64 14, .int .i64 2, .int .i64 nx] w3 fun e4 w4 => e4 = .returned (.tuple #[]) ∧ Mods (fun b => b = g) w w4 ∧ Mem w4 g N (put1 f p b fl nx) := by
  obtain ⟨b1, b2, b3, b4⟩ := hb
  refine (lay_any w g N p 16 16 0 8 f b.addr h hp (Nat.le_refl _) (by omega) (by omega) (.inr (.inr rfl)) b1 (by omega) b2).mono ?_
  rintro e w1 ⟨rfl, h1, m1⟩
  refine ⟨rfl, m1, ?_⟩
  rw [Nat.add_zero] at h1
  refine (lay_any w1 g N p 16 16 8 4 _ b.len h1 hp (Nat.le_refl _) (by omega) (by omega) (.inr (.inl rfl)) b3 (by omega) (by omega)).mono ?_
  rintro e w2 ⟨rfl, h2, m2⟩
  refine ⟨rfl, m1.tr m2, ?_⟩
  refine (lay_any w2 g N p 16 16 12 2 _ fl h2 hp (Nat.le_refl _) (by omega) (by omega) (.inl rfl) hf.1 (by omega) (by omega)).mono ?_
  rintro e w3 ⟨rfl, h3, m3⟩
  refine ⟨rfl, (m1.tr m2).tr m3, ?_⟩
  refine (lay_any w3 g N p 16 16 14 2 _ nx h3 hp (Nat.le_refl _) (by omega) (by omega) (.inl rfl) hn.1 (by omega) (by omega)).mono ?_
  rintro e w4 ⟨rfl, h4, m4⟩
  exact ⟨rfl, ((m1.tr m2).tr m3).tr m4, h4⟩
theorem box76 {w : World} {B g base n po pu Ld Lo Lu : Nat} (h : w.heap[B]? = some (.cells (memC g base n po pu Ld Lo Lu).toArray 119 (0, 0))) :
    w.cell? ⟨B, 0, none⟩ = some (.int .i64 n) ∧ w.cell? ⟨B, 1, none⟩ = some (.slice (some ⟨g, base, none⟩) Ld Ld) ∧ w.cell? ⟨B, 2, none⟩ = some (.slice (some ⟨g, po, none⟩) Lo Lo) ∧ w.cell? ⟨B, 3, none⟩ = some (.int .i64 n) ∧ w.cell? ⟨B, 4, none⟩ = some (.int .i64 2) ∧
    w.cell? ⟨B, 5, none⟩ = some (.slice (some ⟨g, pu, none⟩) Lu Lu) ∧ w.cell? ⟨B, 6, none⟩ = some (.int .i64 n) ∧ w.cell? ⟨B, 7, none⟩ = some (.int .i64 8) := by
  unfold World.cell?
  simp [h, memC]
theorem getD_mem {α : Type} (l : List α) (d : α) (k : Nat) (h : k < l.length) : l.getD k d ∈ l := by
  rw [show l.getD k d = l[k] by simp [List.getD, h]]; exact List.getElem_mem h

set_option maxRecDepth 100000 in
set_option maxHeartbeats 2000000 in
theorem layChain_any (w : World) (g base n N po pu Ld Lo Lu m capn capb : Nat) (an ab : Option Addr) (nums : List Nat) (bufs : List Bf) (f : Nat → Int) (h : Mem w g N f) (G : Geo base n N po pu Ld Lo Lu) (hm : nums.length = m) (hb : bufs.length = m)
    (hN : Nums w an nums g) (hB : Bufs w ab bufs g) (hlt : ∀ x ∈ nums, x < n) (hok : ∀ b ∈ bufs, okB b) (hm2 : m ≤ 4096) :
    Calls Tryz.prog 78 #[.agg (memC g base n po pu Ld Lo Lu).toArray, .slice an m capn, .slice ab m capb] w fun e w' => e = .returned (.tuple #[]) ∧ Mem w' g N (layTo f base nums bufs m) ∧ Mods (fun b => b = g) w w' := by
  have HM := hid h
  have HG := hid G
  have Hm := hid hm
  have Hb := hid hb
  have HNu := hid hN
  have HBu := hid hB
  have HLT := hid hlt
  have HOK := hid hok
  have hglt := h.lt
  have gfit := G.fit
  have n2 := G.n2
  have gbig := G.big
  have HC0 : Hid ((w.alloc (.cells (memC g base n po pu Ld Lo Lu).toArray 119)).heap[w.heap.size]? = some (.cells (memC g base n po pu Ld Lo Lu).toArray 119 (0, 0))) := hid (MapKept.heap_alloc w _).1
  clear h G hm hb hN hB hlt hok
  have HE : Hid (memC g base n po pu Ld Lo Lu = memC g base n po pu Ld Lo Lu) := hid rfl
  rw [show (Value.agg (memC g base n po pu Ld Lo Lu).toArray) = .agg #[.int .i64 n, .slice (some ⟨g, base, none⟩) Ld Ld, .slice (some ⟨g, po, none⟩) Lo Lo, .int .i64 n, .int .i64 2, .slice (some ⟨g, pu, none⟩) Lu Lu, .int .i64 n, .int .i64 8] from rfl]
  go_enter Tryz.func78, Tryz.ntmps78
  go_wp2
  go_loopw [13] (fun x wr => ∃ k : Nat, k ≤ m ∧ x = .int .i64 k ∧ Mods (fun b => b = g) w wr ∧ wr.heap[w.heap.size]? = some (.cells (memC g base n po pu Ld Lo Lu).toArray 119 (0, 0)) ∧ Mem wr g N (layTo f base nums bufs k)) (fun x _ => m - (RowKit.intOf x).toNat)
  case atStart => exact ⟨0, Nat.zero_le _, rfl, (Mods.refl _ w).alloc _, HC0.out, HM.out.below ((Below.refl _ _).alloc (Nat.le_refl _) _)⟩
  case round =>
    obtain ⟨k, hk, rfl, hmo, hbox, hmem⟩ := hrel
    have HMO := hid hmo
    have HBX := hid hbox
    have HME := hid hmem
    clear hmo hbox hmem HC0
    by_cases hlt : k < m
    · have hki : (k : Int) < m := by omega
      obtain ⟨bb, ob, hab, hbg, c0, c1, c2⟩ := (HBu.out.mods HMO.out) k (by rw [Hb.out]; exact hlt)
      obtain ⟨bn, on, han, hng, cn⟩ := (HNu.out.mods HMO.out) k (by rw [Hm.out]; exact hlt)
      subst hab han
      have hbok := HOK.out _ (getD_mem bufs default k (by rw [Hb.out]; exact hlt))
      have hin := HLT.out _ (getD_mem nums 0 k (by rw [Hm.out]; exact hlt))
      have hlay : layTo f base nums bufs (k + 1) = put1 (layTo f base nums bufs k) (base + nums.getD k 0 * 16) (bufs.getD k default) (flagsOf (bufs.getD k default).wt (decide (k + 1 < bufs.length))) (if k + 1 < bufs.length then (nums.getD (k + 1) 0 : Nat) else 0) := rfl
      rw [Hb.out] at hlay
      generalize bufs.getD k default = bf at *
      generalize nums.getD k 0 = i at *
      obtain ⟨baddr, blen, bwt⟩ := bf
      simp only at c0 c1 c2
      have HBOK := hid hbok
      have ek : IntKind.i64.wrap ((k : Int) + 1) = (k : Int) + 1 := IntWalk.i64_in _ (by omega)
      have hbn : bn < wr.heap.size := cell_lt cn
      have hbb : w.heap.size < wr.heap.size := (Array.getElem?_eq_some_iff.1 HBX.out).1
      cases bwt
      · by_cases hmore : k + 1 < m
        · obtain ⟨W, hW⟩ : ∃ W, W = (wr.alloc (.cells #[.int .i64 baddr, .int .i64 blen, .bool false] 88)) := ⟨_, rfl⟩
          have hbW : Below wr.heap.size wr (wr.alloc (.cells #[.int .i64 baddr, .int .i64 blen, .bool false] 88)) := (Below.refl _ _).alloc (Nat.le_refl _) _
          have d0 := cell_later hbW ((box76 HBX.out).1)
          have d1 := cell_later hbW ((box76 HBX.out).2.1)
          have d2 := cell_later hbW ((box76 HBX.out).2.2.1)
          have d3 := cell_later hbW ((box76 HBX.out).2.2.2.1)
          have d4 := cell_later hbW ((box76 HBX.out).2.2.2.2.1)
          have d5 := cell_later hbW ((box76 HBX.out).2.2.2.2.2.1)
          have d6 := cell_later hbW ((box76 HBX.out).2.2.2.2.2.2.1)
          have d7 := cell_later hbW ((box76 HBX.out).2.2.2.2.2.2.2)
          have dn := cell_later hbW cn
          have a0 : (wr.alloc (.cells #[.int .i64 baddr, .int .i64 blen, .bool false] 88)).cell? ⟨wr.heap.size, 0, none⟩ = some (.int .i64 baddr) := new_cell wr _ _ _ 0 (by simp)
          have a1 : (wr.alloc (.cells #[.int .i64 baddr, .int .i64 blen, .bool false] 88)).cell? ⟨wr.heap.size, 1, none⟩ = some (.int .i64 blen) := new_cell wr _ _ _ 1 (by simp)
          have a2 : (wr.alloc (.cells #[.int .i64 baddr, .int .i64 blen, .bool false] 88)).cell? ⟨wr.heap.size, 2, none⟩ = some (.bool false) := new_cell wr _ _ _ 2 (by simp)
          have hmi : (k : Int) + 1 < m := by omega
          obtain ⟨bn', on', han', _, cn1⟩ := (HNu.out.mods HMO.out) (k + 1) (by rw [Hm.out]; exact hmore)
          simp only [Option.some.injEq, Addr.mk.injEq, and_true] at han'
          obtain ⟨rfl, rfl⟩ := han'
          have hin1 := HLT.out _ (getD_mem nums 0 (k + 1) (by rw [Hm.out]; exact hmore))
          have dn1 := cell_later hbW cn1
          rw [if_pos hmore, decide_eq_true hmore] at hlay
          generalize nums.getD (k + 1) 0 = i1 at *
          clear cn1
          have HLay : Hid (layTo f base nums bufs (k + 1) = put1 (layTo f base nums bufs k) (base + i * 16) ⟨baddr, blen, false⟩ 1 (i1 : Nat)) := hid hlay
          have HA0 := hid a0
          have HA1 := hid a1
          clear hlay hbok cn hW W
          have hor : bits .or .i64 0 1 = 1 := by decide
          have HBW := hid hbW
          clear hbW
          go_wp2_with fail
          go_region_held3 (fun w' => w'.cell? ⟨w.heap.size, 0, none⟩ = some (.int .i64 n) ∧ w'.cell? ⟨w.heap.size, 1, none⟩ = some (.slice (some ⟨g, base, none⟩) Ld Ld) ∧ w'.cell? ⟨w.heap.size, 2, none⟩ = some (.slice (some ⟨g, po, none⟩) Lo Lo) ∧ w'.cell? ⟨w.heap.size, 3, none⟩ = some (.int .i64 n) ∧ w'.cell? ⟨w.heap.size, 4, none⟩ = some (.int .i64 2) ∧ w'.cell? ⟨w.heap.size, 5, none⟩ = some (.slice (some ⟨g, pu, none⟩) Lu Lu) ∧ w'.cell? ⟨w.heap.size, 6, none⟩ = some (.int .i64 n) ∧ w'.cell? ⟨w.heap.size, 7, none⟩ = some (.int .i64 8) ∧ w'.cell? ⟨bn, on + k, none⟩ = some (.int .i64 (i : Nat)))
            ((first | exact ⟨d0, d1, d2, d3, d4, d5, d6, d7, dn⟩ | exact HS5.out))
            ((go_at_call 93; refine (descriptor_any _ g base n N po pu Ld Lo Lu i HG.out hin).mono ?_; rintro e w5 ⟨rfl, hb5⟩; have HB5 := hid hb5; have HS5 := hid (And.intro (cell_later hb5 d0) (And.intro (cell_later hb5 d1) (And.intro (cell_later hb5 d2) (And.intro (cell_later hb5 d3) (And.intro (cell_later hb5 d4) (And.intro (cell_later hb5 d5) (And.intro (cell_later hb5 d6) (And.intro (cell_later hb5 d7) (cell_later hb5 dn))))))))); clear hb5))
          have e0 := cell_later HB5.out HA0.out
          have e1 := cell_later HB5.out HA1.out
          have hb5 : Below wr.heap.size wr w5 := HBW.out.drew.trans (HB5.out.mono HBW.out.size)
          have HB5' := hid hb5
          have hgl := HME.out.lt
          have hw5 : wr.heap.size ≠ g := by omega
          have hcon := put1_any w5 g N (base + i * 16) (layTo f base nums bufs k) ⟨baddr, blen, false⟩ 1 (i1 : Nat) (HME.out.below hb5) (by omega) HBOK.out (by omega) (by omega)
          have HC := hid hcon
          clear d0 d1 d2 d3 d4 d5 d6 d7 dn a0 a1 a2 hcon hb5
          go_wp2_with fail
          refine HC.out.mono ?_
          rintro e w6 ⟨rfl, m6, hc6⟩
          have e2 := m6.cell e1 hw5
          have HC6 := hid hc6
          clear hc6 m6 HC
          go_wp2_with fail
          refine HC6.out.mono ?_
          rintro e w7 ⟨rfl, m7, hc7⟩
          have HC7 := hid hc7
          clear hc7 m7 HC6
          go_wp2_with fail
          refine HC7.out.mono ?_
          rintro e w8 ⟨rfl, m8, hc8⟩
          have HC8 := hid hc8
          clear hc8 m8 HC7
          go_wp2_with fail
          refine HC8.out.mono ?_
          rintro e w9 ⟨rfl, m9, hm9⟩
          have HM9 := hid hm9
          have HMO9 := hid ((Mods.of_below HB5'.out).tr m9)
          clear hm9 m9 HC8
          go_wp2
          go_roundw
          case rel =>
            refine ⟨k + 1, by omega, by go_num, HMO.out.tr HMO9.out, (HMO9.out.block _ hbb (by omega)).trans HBX.out, ?_⟩
            rw [HLay.out]
            exact HM9.out
          case measure => simp [RowKit.intOf]; omega
        · obtain ⟨W, hW⟩ : ∃ W, W = (wr.alloc (.cells #[.int .i64 baddr, .int .i64 blen, .bool false] 88)) := ⟨_, rfl⟩
          have hbW : Below wr.heap.size wr (wr.alloc (.cells #[.int .i64 baddr, .int .i64 blen, .bool false] 88)) := (Below.refl _ _).alloc (Nat.le_refl _) _
          have d0 := cell_later hbW ((box76 HBX.out).1)
          have d1 := cell_later hbW ((box76 HBX.out).2.1)
          have d2 := cell_later hbW ((box76 HBX.out).2.2.1)
          have d3 := cell_later hbW ((box76 HBX.out).2.2.2.1)
          have d4 := cell_later hbW ((box76 HBX.out).2.2.2.2.1)
          have d5 := cell_later hbW ((box76 HBX.out).2.2.2.2.2.1)
          have d6 := cell_later hbW ((box76 HBX.out).2.2.2.2.2.2.1)
          have d7 := cell_later hbW ((box76 HBX.out).2.2.2.2.2.2.2)
          have dn := cell_later hbW cn
          have a0 : (wr.alloc (.cells #[.int .i64 baddr, .int .i64 blen, .bool false] 88)).cell? ⟨wr.heap.size, 0, none⟩ = some (.int .i64 baddr) := new_cell wr _ _ _ 0 (by simp)
          have a1 : (wr.alloc (.cells #[.int .i64 baddr, .int .i64 blen, .bool false] 88)).cell? ⟨wr.heap.size, 1, none⟩ = some (.int .i64 blen) := new_cell wr _ _ _ 1 (by simp)
          have a2 : (wr.alloc (.cells #[.int .i64 baddr, .int .i64 blen, .bool false] 88)).cell? ⟨wr.heap.size, 2, none⟩ = some (.bool false) := new_cell wr _ _ _ 2 (by simp)
          have hmi : ¬ ((k : Int) + 1 < m) := by omega
          rw [if_neg hmore, decide_eq_false hmore] at hlay
          have HLay : Hid (layTo f base nums bufs (k + 1) = put1 (layTo f base nums bufs k) (base + i * 16) ⟨baddr, blen, false⟩ 0 0) := hid hlay
          have HA0 := hid a0
          have HA1 := hid a1
          clear hlay hbok cn hW W
          have HBW := hid hbW
          clear hbW
          go_wp2_with fail
          go_region_held3 (fun w' => w'.cell? ⟨w.heap.size, 0, none⟩ = some (.int .i64 n) ∧ w'.cell? ⟨w.heap.size, 1, none⟩ = some (.slice (some ⟨g, base, none⟩) Ld Ld) ∧ w'.cell? ⟨w.heap.size, 2, none⟩ = some (.slice (some ⟨g, po, none⟩) Lo Lo) ∧ w'.cell? ⟨w.heap.size, 3, none⟩ = some (.int .i64 n) ∧ w'.cell? ⟨w.heap.size, 4, none⟩ = some (.int .i64 2) ∧ w'.cell? ⟨w.heap.size, 5, none⟩ = some (.slice (some ⟨g, pu, none⟩) Lu Lu) ∧ w'.cell? ⟨w.heap.size, 6, none⟩ = some (.int .i64 n) ∧ w'.cell? ⟨w.heap.size, 7, none⟩ = some (.int .i64 8) ∧ w'.cell? ⟨bn, on + k, none⟩ = some (.int .i64 (i : Nat)))
            ((first | exact ⟨d0, d1, d2, d3, d4, d5, d6, d7, dn⟩ | exact HS5.out))
            ((go_at_call 93; refine (descriptor_any _ g base n N po pu Ld Lo Lu i HG.out hin).mono ?_; rintro e w5 ⟨rfl, hb5⟩; have HB5 := hid hb5; have HS5 := hid (And.intro (cell_later hb5 d0) (And.intro (cell_later hb5 d1) (And.intro (cell_later hb5 d2) (And.intro (cell_later hb5 d3) (And.intro (cell_later hb5 d4) (And.intro (cell_later hb5 d5) (And.intro (cell_later hb5 d6) (And.intro (cell_later hb5 d7) (cell_later hb5 dn))))))))); clear hb5))
          have e0 := cell_later HB5.out HA0.out
          have e1 := cell_later HB5.out HA1.out
          have hb5 : Below wr.heap.size wr w5 := HBW.out.drew.trans (HB5.out.mono HBW.out.size)
          have HB5' := hid hb5
          have hgl := HME.out.lt
          have hw5 : wr.heap.size ≠ g := by omega
          have hcon := put1_any w5 g N (base + i * 16) (layTo f base nums bufs k) ⟨baddr, blen, false⟩ 0 0 (HME.out.below hb5) (by omega) HBOK.out (by omega) (by omega)
          have HC := hid hcon
          clear d0 d1 d2 d3 d4 d5 d6 d7 dn a0 a1 a2 hcon hb5
          go_wp2_with fail
          refine HC.out.mono ?_
          rintro e w6 ⟨rfl, m6, hc6⟩
          have e2 := m6.cell e1 hw5
          have HC6 := hid hc6
          clear hc6 m6 HC
          go_wp2_with fail
          refine HC6.out.mono ?_
          rintro e w7 ⟨rfl, m7, hc7⟩
          have HC7 := hid hc7
          clear hc7 m7 HC6
          go_wp2_with fail
          refine HC7.out.mono ?_
          rintro e w8 ⟨rfl, m8, hc8⟩
          have HC8 := hid hc8
          clear hc8 m8 HC7
          go_wp2_with fail
          refine HC8.out.mono ?_
          rintro e w9 ⟨rfl, m9, hm9⟩
          have HM9 := hid hm9
          have HMO9 := hid ((Mods.of_below HB5'.out).tr m9)
          clear hm9 m9 HC8
          go_wp2
          go_roundw
          case rel =>
            refine ⟨k + 1, by omega, by go_num, HMO.out.tr HMO9.out, (HMO9.out.block _ hbb (by omega)).trans HBX.out, ?_⟩
            rw [HLay.out]
            exact HM9.out
          case measure => simp [RowKit.intOf]; omega
      · by_cases hmore : k + 1 < m
        · obtain ⟨W, hW⟩ : ∃ W, W = (wr.alloc (.cells #[.int .i64 baddr, .int .i64 blen, .bool true] 88)) := ⟨_, rfl⟩
          have hbW : Below wr.heap.size wr (wr.alloc (.cells #[.int .i64 baddr, .int .i64 blen, .bool true] 88)) := (Below.refl _ _).alloc (Nat.le_refl _) _
          have d0 := cell_later hbW ((box76 HBX.out).1)
          have d1 := cell_later hbW ((box76 HBX.out).2.1)
          have d2 := cell_later hbW ((box76 HBX.out).2.2.1)
          have d3 := cell_later hbW ((box76 HBX.out).2.2.2.1)
          have d4 := cell_later hbW ((box76 HBX.out).2.2.2.2.1)
          have d5 := cell_later hbW ((box76 HBX.out).2.2.2.2.2.1)
          have d6 := cell_later hbW ((box76 HBX.out).2.2.2.2.2.2.1)
          have d7 := cell_later hbW ((box76 HBX.out).2.2.2.2.2.2.2)
          have dn := cell_later hbW cn
          have a0 : (wr.alloc (.cells #[.int .i64 baddr, .int .i64 blen, .bool true] 88)).cell? ⟨wr.heap.size, 0, none⟩ = some (.int .i64 baddr) := new_cell wr _ _ _ 0 (by simp)
          have a1 : (wr.alloc (.cells #[.int .i64 baddr, .int .i64 blen, .bool true] 88)).cell? ⟨wr.heap.size, 1, none⟩ = some (.int .i64 blen) := new_cell wr _ _ _ 1 (by simp)
          have a2 : (wr.alloc (.cells #[.int .i64 baddr, .int .i64 blen, .bool true] 88)).cell? ⟨wr.heap.size, 2, none⟩ = some (.bool true) := new_cell wr _ _ _ 2 (by simp)
          have hmi : (k : Int) + 1 < m := by omega
          obtain ⟨bn', on', han', _, cn1⟩ := (HNu.out.mods HMO.out) (k + 1) (by rw [Hm.out]; exact hmore)
          simp only [Option.some.injEq, Addr.mk.injEq, and_true] at han'
          obtain ⟨rfl, rfl⟩ := han'
          have hin1 := HLT.out _ (getD_mem nums 0 (k + 1) (by rw [Hm.out]; exact hmore))
          have dn1 := cell_later hbW cn1
          rw [if_pos hmore, decide_eq_true hmore] at hlay
          generalize nums.getD (k + 1) 0 = i1 at *
          clear cn1
          have HLay : Hid (layTo f base nums bufs (k + 1) = put1 (layTo f base nums bufs k) (base + i * 16) ⟨baddr, blen, true⟩ 3 (i1 : Nat)) := hid hlay
          have HA0 := hid a0
          have HA1 := hid a1
          clear hlay hbok cn hW W
          have hor : bits .or .i64 (bits .or .i64 0 2) 1 = 3 := by decide
          have HBW := hid hbW
          clear hbW
          go_wp2_with fail
          go_region_held3 (fun w' => w'.cell? ⟨w.heap.size, 0, none⟩ = some (.int .i64 n) ∧ w'.cell? ⟨w.heap.size, 1, none⟩ = some (.slice (some ⟨g, base, none⟩) Ld Ld) ∧ w'.cell? ⟨w.heap.size, 2, none⟩ = some (.slice (some ⟨g, po, none⟩) Lo Lo) ∧ w'.cell? ⟨w.heap.size, 3, none⟩ = some (.int .i64 n) ∧ w'.cell? ⟨w.heap.size, 4, none⟩ = some (.int .i64 2) ∧ w'.cell? ⟨w.heap.size, 5, none⟩ = some (.slice (some ⟨g, pu, none⟩) Lu Lu) ∧ w'.cell? ⟨w.heap.size, 6, none⟩ = some (.int .i64 n) ∧ w'.cell? ⟨w.heap.size, 7, none⟩ = some (.int .i64 8) ∧ w'.cell? ⟨bn, on + k, none⟩ = some (.int .i64 (i : Nat)))
            ((first | exact ⟨d0, d1, d2, d3, d4, d5, d6, d7, dn⟩ | exact HS5.out))
            ((go_at_call 93; refine (descriptor_any _ g base n N po pu Ld Lo Lu i HG.out hin).mono ?_; rintro e w5 ⟨rfl, hb5⟩; have HB5 := hid hb5; have HS5 := hid (And.intro (cell_later hb5 d0) (And.intro (cell_later hb5 d1) (And.intro (cell_later hb5 d2) (And.intro (cell_later hb5 d3) (And.intro (cell_later hb5 d4) (And.intro (cell_later hb5 d5) (And.intro (cell_later hb5 d6) (And.intro (cell_later hb5 d7) (cell_later hb5 dn))))))))); clear hb5))
          have e0 := cell_later HB5.out HA0.out
          have e1 := cell_later HB5.out HA1.out
          have hb5 : Below wr.heap.size wr w5 := HBW.out.drew.trans (HB5.out.mono HBW.out.size)
          have HB5' := hid hb5
          have hgl := HME.out.lt
          have hw5 : wr.heap.size ≠ g := by omega
          have hcon := put1_any w5 g N (base + i * 16) (layTo f base nums bufs k) ⟨baddr, blen, true⟩ 3 (i1 : Nat) (HME.out.below hb5) (by omega) HBOK.out (by omega) (by omega)
          have HC := hid hcon
          clear d0 d1 d2 d3 d4 d5 d6 d7 dn a0 a1 a2 hcon hb5
          go_wp2_with fail
          refine HC.out.mono ?_
          rintro e w6 ⟨rfl, m6, hc6⟩
          have e2 := m6.cell e1 hw5
          have HC6 := hid hc6
          clear hc6 m6 HC
          go_wp2_with fail
          refine HC6.out.mono ?_
          rintro e w7 ⟨rfl, m7, hc7⟩
          have HC7 := hid hc7
          clear hc7 m7 HC6
          go_wp2_with fail
          refine HC7.out.mono ?_
          rintro e w8 ⟨rfl, m8, hc8⟩
          have HC8 := hid hc8
          clear hc8 m8 HC7
          go_wp2_with fail
          refine HC8.out.mono ?_
          rintro e w9 ⟨rfl, m9, hm9⟩
          have HM9 := hid hm9
          have HMO9 := hid ((Mods.of_below HB5'.out).tr m9)
          clear hm9 m9 HC8
          go_wp2
          go_roundw
          case rel =>
            refine ⟨k + 1, by omega, by go_num, HMO.out.tr HMO9.out, (HMO9.out.block _ hbb (by omega)).trans HBX.out, ?_⟩
            rw [HLay.out]
            exact HM9.out
          case measure => simp [RowKit.intOf]; omega
        · obtain ⟨W, hW⟩ : ∃ W, W = (wr.alloc (.cells #[.int .i64 baddr, .int .i64 blen, .bool true] 88)) := ⟨_, rfl⟩
          have hbW : Below wr.heap.size wr (wr.alloc (.cells #[.int .i64 baddr, .int .i64 blen, .bool true] 88)) := (Below.refl _ _).alloc (Nat.le_refl _) _
          have d0 := cell_later hbW ((box76 HBX.out).1)
          have d1 := cell_later hbW ((box76 HBX.out).2.1)
          have d2 := cell_later hbW ((box76 HBX.out).2.2.1)
          have d3 := cell_later hbW ((box76 HBX.out).2.2.2.1)
          have d4 := cell_later hbW ((box76 HBX.out).2.2.2.2.1)
          have d5 := cell_later hbW ((box76 HBX.out).2.2.2.2.2.1)
          have d6 := cell_later hbW ((box76 HBX.out).2.2.2.2.2.2.1)
          have d7 := cell_later hbW ((box76 HBX.out).2.2.2.2.2.2.2)
          have dn := cell_later hbW cn
          have a0 : (wr.alloc (.cells #[.int .i64 baddr, .int .i64 blen, .bool true] 88)).cell? ⟨wr.heap.size, 0, none⟩ = some (.int .i64 baddr) := new_cell wr _ _ _ 0 (by simp)
          have a1 : (wr.alloc (.cells #[.int .i64 baddr, .int .i64 blen, .bool true] 88)).cell? ⟨wr.heap.size, 1, none⟩ = some (.int .i64 blen) := new_cell wr _ _ _ 1 (by simp)
          have a2 : (wr.alloc (.cells #[.int .i64 baddr, .int .i64 blen, .bool true] 88)).cell? ⟨wr.heap.size, 2, none⟩ = some (.bool true) := new_cell wr _ _ _ 2 (by simp)
          have hmi : ¬ ((k : Int) + 1 < m) := by omega
          rw [if_neg hmore, decide_eq_false hmore] at hlay
          have HLay : Hid (layTo f base nums bufs (k + 1) = put1 (layTo f base nums bufs k) (base + i * 16) ⟨baddr, blen, true⟩ 2 0) := hid hlay
          have HA0 := hid a0
          have HA1 := hid a1
          clear hlay hbok cn hW W
          have hor : bits .or .i64 0 2 = 2 := by decide
          have HBW := hid hbW
          clear hbW
          go_wp2_with fail
          go_region_held3 (fun w' => w'.cell? ⟨w.heap.size, 0, none⟩ = some (.int .i64 n) ∧ w'.cell? ⟨w.heap.size, 1, none⟩ = some (.slice (some ⟨g, base, none⟩) Ld Ld) ∧ w'.cell? ⟨w.heap.size, 2, none⟩ = some (.slice (some ⟨g, po, none⟩) Lo Lo) ∧ w'.cell? ⟨w.heap.size, 3, none⟩ = some (.int .i64 n) ∧ w'.cell? ⟨w.heap.size, 4, none⟩ = some (.int .i64 2) ∧ w'.cell? ⟨w.heap.size, 5, none⟩ = some (.slice (some ⟨g, pu, none⟩) Lu Lu) ∧ w'.cell? ⟨w.heap.size, 6, none⟩ = some (.int .i64 n) ∧ w'.cell? ⟨w.heap.size, 7, none⟩ = some (.int .i64 8) ∧ w'.cell? ⟨bn, on + k, none⟩ = some (.int .i64 (i : Nat)))
            ((first | exact ⟨d0, d1, d2, d3, d4, d5, d6, d7, dn⟩ | exact HS5.out))
            ((go_at_call 93; refine (descriptor_any _ g base n N po pu Ld Lo Lu i HG.out hin).mono ?_; rintro e w5 ⟨rfl, hb5⟩; have HB5 := hid hb5; have HS5 := hid (And.intro (cell_later hb5 d0) (And.intro (cell_later hb5 d1) (And.intro (cell_later hb5 d2) (And.intro (cell_later hb5 d3) (And.intro (cell_later hb5 d4) (And.intro (cell_later hb5 d5) (And.intro (cell_later hb5 d6) (And.intro (cell_later hb5 d7) (cell_later hb5 dn))))))))); clear hb5))
          have e0 := cell_later HB5.out HA0.out
          have e1 := cell_later HB5.out HA1.out
          have hb5 : Below wr.heap.size wr w5 := HBW.out.drew.trans (HB5.out.mono HBW.out.size)
          have HB5' := hid hb5
          have hgl := HME.out.lt
          have hw5 : wr.heap.size ≠ g := by omega
          have hcon := put1_any w5 g N (base + i * 16) (layTo f base nums bufs k) ⟨baddr, blen, true⟩ 2 0 (HME.out.below hb5) (by omega) HBOK.out (by omega) (by omega)
          have HC := hid hcon
          clear d0 d1 d2 d3 d4 d5 d6 d7 dn a0 a1 a2 hcon hb5
          go_wp2_with fail
          refine HC.out.mono ?_
          rintro e w6 ⟨rfl, m6, hc6⟩
          have e2 := m6.cell e1 hw5
          have HC6 := hid hc6
          clear hc6 m6 HC
          go_wp2_with fail
          refine HC6.out.mono ?_
          rintro e w7 ⟨rfl, m7, hc7⟩
          have HC7 := hid hc7
          clear hc7 m7 HC6
          go_wp2_with fail
          refine HC7.out.mono ?_
          rintro e w8 ⟨rfl, m8, hc8⟩
          have HC8 := hid hc8
          clear hc8 m8 HC7
          go_wp2_with fail
          refine HC8.out.mono ?_
          rintro e w9 ⟨rfl, m9, hm9⟩
          have HM9 := hid hm9
          have HMO9 := hid ((Mods.of_below HB5'.out).tr m9)
          clear hm9 m9 HC8
          go_wp2
          go_roundw
          case rel =>
            refine ⟨k + 1, by omega, by go_num, HMO.out.tr HMO9.out, (HMO9.out.block _ hbb (by omega)).trans HBX.out, ?_⟩
            rw [HLay.out]
            exact HM9.out
          case measure => simp [RowKit.intOf]; omega
    · have hki : ¬ ((k : Int) < m) := by omega
      go_wp2
      go_end0
      obtain rfl : k = m := by omega
      exact ⟨rfl, HME.out, HMO.out⟩
end Go.Proofs.YtdjghkngiicncaaGreat
