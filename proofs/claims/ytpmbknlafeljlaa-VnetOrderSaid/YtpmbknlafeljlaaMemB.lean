/- Places of the rings and of the descriptors: element, descriptor, index, setIndex. -/
import Derived.Test.YtpmbknlafeljlaaMemA
import Derived.Deep.RegionHeld3
namespace Go.Proofs.Ytpmbknlafeljlaa
open Go.RowKit

set_option maxRecDepth 100000 in
theorem cut3_run (g off len cap lo hi : Nat) (h : lo < hi) (hh : hi ≤ len) (hc : len ≤ cap) (W : World) : (Instr.slice 25 (.slice (some ⟨g, off, none⟩) len cap) (some (.int .i64 lo)) (some (.int .i64 hi)) (some (.int .i64 hi))).run Try.prog W = .ok (.slice (some ⟨g, off + lo, none⟩) (hi - lo) (hi - lo)) W := by
  have hz : (sizeOf 5).run Try.prog W = .ok 1 W := by kernel_rfl
  rw [run_slice_lhm (P := Try.prog) W 25 (some ⟨g, off, none⟩) len cap Try.underlying25 .i64 .i64 .i64 lo hi hi (by omega) (by omega) (by omega) (by omega)]
  have e : Try.prog.elem 25 = 5 := by kernel_rfl
  rw [e, hz]
  have h2 : ¬ (hi = lo) := by omega
  simp [sliced, Addr.add, h2]

theorem below_drewN {B : Nat} {w0 w : World} (h : Below B w0 w) (n : Nat) : Below B w0 (w.drewN n) := ⟨h.os, h.tape, h.output, h.size, h.block⟩

set_option maxRecDepth 100000 in
set_option maxHeartbeats 400000 in
theorem element_2 (w : World) (g p n c k L : Nat) (hn : 1 ≤ n) (hn2 : n ≤ 256) (hk : k = c % n) (hc : c < 65536) (hL : L = 4 + n * 2) :
    Calls Try.prog 62 #[.agg #[.slice (some ⟨g, p, none⟩) L L, .int .i64 n, .int .i64 2], .int .u16 c] w fun e w' => e = .returned (.slice (some ⟨g, p + (4 + k * 2), none⟩) 2 2) ∧ Below w.heap.size w w' := by
  have hkn : k < n := by rw [hk]; exact Nat.mod_lt _ hn
  have hn0 : ¬ ((n : Int) = 0) := by omega
  have hmod : Int.tmod (c : Int) (n : Int) = (k : Int) := by rw [hk]; exact (Int.ofNat_tmod c n).symm
  have hcv : IntKind.i64.wrap (c : Int) = c := IntWalk.i64_in _ (by omega)
  have e1 : IntKind.i64.wrap ((k : Int) * 2) = (k : Int) * 2 := IntWalk.i64_in _ (by omega)
  have e2 : IntKind.i64.wrap (4 + (k : Int) * 2) = 4 + (k : Int) * 2 := IntWalk.i64_in _ (by omega)
  have e3 : IntKind.i64.wrap (4 + (k : Int) * 2 + 2) = 4 + (k : Int) * 2 + 2 := IntWalk.i64_in _ (by omega)
  have hcut := cut3_run g p L L (4 + k * 2) (4 + k * 2 + 2) (by omega) (by omega) (Nat.le_refl _)
  rw [show ((4 + k * 2 : Nat) : Int) = 4 + (k : Int) * 2 by omega, show ((4 + k * 2 + 2 : Nat) : Int) = 4 + (k : Int) * 2 + 2 by omega, Nat.add_sub_cancel_left] at hcut
  clear hk hL
  go_enter Try.func62, Try.ntmps62
  go_wp2
  go_quiet (fail)
  go_wp2
  go_ret
  exact ⟨rfl, below_drewN ((Below.refl _ _).alloc (Nat.le_refl _) _) _⟩
set_option maxRecDepth 100000 in
set_option maxHeartbeats 400000 in
theorem element_8 (w : World) (g p n c k L : Nat) (hn : 1 ≤ n) (hn2 : n ≤ 256) (hk : k = c % n) (hc : c < 65536) (hL : L = 4 + n * 8) :
    Calls Try.prog 62 #[.agg #[.slice (some ⟨g, p, none⟩) L L, .int .i64 n, .int .i64 8], .int .u16 c] w fun e w' => e = .returned (.slice (some ⟨g, p + (4 + k * 8), none⟩) 8 8) ∧ Below w.heap.size w w' := by
  have hkn : k < n := by rw [hk]; exact Nat.mod_lt _ hn
  have hn0 : ¬ ((n : Int) = 0) := by omega
  have hmod : Int.tmod (c : Int) (n : Int) = (k : Int) := by rw [hk]; exact (Int.ofNat_tmod c n).symm
  have hcv : IntKind.i64.wrap (c : Int) = c := IntWalk.i64_in _ (by omega)
  have e1 : IntKind.i64.wrap ((k : Int) * 8) = (k : Int) * 8 := IntWalk.i64_in _ (by omega)
  have e2 : IntKind.i64.wrap (4 + (k : Int) * 8) = 4 + (k : Int) * 8 := IntWalk.i64_in _ (by omega)
  have e3 : IntKind.i64.wrap (4 + (k : Int) * 8 + 8) = 4 + (k : Int) * 8 + 8 := IntWalk.i64_in _ (by omega)
  have hcut := cut3_run g p L L (4 + k * 8) (4 + k * 8 + 8) (by omega) (by omega) (Nat.le_refl _)
  rw [show ((4 + k * 8 : Nat) : Int) = 4 + (k : Int) * 8 by omega, show ((4 + k * 8 + 8 : Nat) : Int) = 4 + (k : Int) * 8 + 8 by omega, Nat.add_sub_cancel_left] at hcut
  clear hk hL
  go_enter Try.func62, Try.ntmps62
  go_wp2
  go_quiet (fail)
  go_wp2
  go_ret
  exact ⟨rfl, below_drewN ((Below.refl _ _).alloc (Nat.le_refl _) _) _⟩

/-- Where the parts of a queue lie in memory of N bytes. -/
structure Geo (base n N po pu Ld Lo Lu : Nat) : Prop where
  n1 : 1 ≤ n
  n2 : n ≤ 256
  epo : po = base + 16 * n
  epu : pu = base + 18 * n + 4
  eLd : Ld = 16 * n
  eLo : Lo = 4 + 2 * n
  eLu : Lu = 4 + 8 * n
  fit : base + 26 * n + 8 ≤ N
  big : N ≤ 1099511627776

def memC (g base n po pu Ld Lo Lu : Nat) : List Value := [.int .i64 n, .slice (some ⟨g, base, none⟩) Ld Ld, .slice (some ⟨g, po, none⟩) Lo Lo, .int .i64 n, .int .i64 2, .slice (some ⟨g, pu, none⟩) Lu Lu, .int .i64 n, .int .i64 8]

set_option maxRecDepth 100000 in
set_option maxHeartbeats 400000 in
theorem index_any (w : World) (g N p L : Nat) (x y : Value) (f : Nat → Int) (h : Mem w g N f) (hl : p + L ≤ N) (hb : N ≤ 1099511627776) (h4 : 4 ≤ L) :
    Calls Try.prog 49 #[.agg #[.slice (some ⟨g, p, none⟩) L L, x, y]] w fun e w' => e = .returned (.int .u16 (rd f (p + 2) 2)) ∧ Below w.heap.size w w' := by
  have hbd := rd_bd h (p + 2) 2 (by omega)
  have hw : IntKind.u16.wrap (rd f (p + 2) 2) = rd f (p + 2) 2 := by rw [IntKind.wrap_u16]; omega
  have hcon := number_any (w.alloc (.cells #[.slice (some ⟨g, p, none⟩) L L, x, y] 85)) g N p L L 2 2 f (h.below ((Below.refl _ _).alloc (Nat.le_refl _) _)) hl (Nat.le_refl _) (by unfold maxLen; omega) (by omega) (.inl rfl)
  have HC := hid hcon
  clear hcon hbd h
  generalize rd f (p + 2) 2 = v at *
  go_enter Try.func49, Try.ntmps49
  go_wp2_with fail
  refine HC.out.mono ?_
  rintro e w' ⟨rfl, q, rfl⟩
  go_wp2
  go_ret
  exact ⟨rfl, below_drewN ((Below.refl _ _).alloc (Nat.le_refl _) _) _⟩

set_option maxRecDepth 100000 in
set_option maxHeartbeats 400000 in
theorem setIndex_any (w : World) (g N p L : Nat) (x y : Value) (c : Nat) (f : Nat → Int) (h : Mem w g N f) (hl : p + L ≤ N) (hb : N ≤ 1099511627776) (h4 : 4 ≤ L) (hc : c < 65536) :
    Calls Try.prog 64 #[.agg #[.slice (some ⟨g, p, none⟩) L L, x, y], .int .u16 c] w fun e w' => e = .returned (.tuple #[]) ∧ Mem w' g N (wr f (p + 2) 2 c) ∧ Mods (fun b => b = g) w w' := by
  have hw : IntKind.i64.wrap (c : Int) = c := IntWalk.i64_in _ (by omega)
  have hcon := lay_any (w.alloc (.cells #[.slice (some ⟨g, p, none⟩) L L, x, y] 85)) g N p L L 2 2 f c (h.below ((Below.refl _ _).alloc (Nat.le_refl _) _)) hl (Nat.le_refl _) (by omega) (by omega) (.inl rfl) (by omega) (by omega) (by omega)
  have HC := hid hcon
  clear hcon h
  go_enter Try.func64, Try.ntmps64
  go_wp2_with fail
  refine HC.out.mono ?_
  rintro e w' ⟨rfl, hm, hmo⟩
  have HM := hid hm
  have HMO := hid hmo
  clear hm hmo
  go_wp2
  go_end0
  exact ⟨rfl, HM.out, ((Mods.refl _ w).alloc _).tr HMO.out⟩

set_option maxRecDepth 100000 in
set_option maxHeartbeats 400000 in
theorem descriptor_any (w : World) (g base n N po pu Ld Lo Lu i : Nat) (G : Geo base n N po pu Ld Lo Lu) (hi : i < n) :
    Calls Try.prog 72 #[.agg (memC g base n po pu Ld Lo Lu).toArray, .int .i64 i] w fun e w' => e = .returned (.slice (some ⟨g, base + i * 16, none⟩) 16 16) ∧ Below w.heap.size w w' := by
  obtain ⟨n1, n2, rfl, rfl, rfl, rfl, rfl, h1, h2⟩ := G
  have e1 : IntKind.i64.wrap ((i : Int) * 16) = (i : Int) * 16 := IntWalk.i64_in _ (by omega)
  have e2 : IntKind.i64.wrap ((i : Int) * 16 + 16) = (i : Int) * 16 + 16 := IntWalk.i64_in _ (by omega)
  have hcut := cut3_run g base (16 * n) (16 * n) (i * 16) (i * 16 + 16) (by omega) (by omega) (Nat.le_refl _)
  rw [show ((i * 16 : Nat) : Int) = (i : Int) * 16 by omega, show ((i * 16 + 16 : Nat) : Int) = (i : Int) * 16 + 16 by omega, Nat.add_sub_cancel_left] at hcut
  unfold memC
  go_enter Try.func72, Try.ntmps72
  go_wp2
  go_ret
  exact ⟨rfl, (Below.refl _ _).alloc (Nat.le_refl _) _⟩

set_option maxRecDepth 100000 in
set_option maxHeartbeats 400000 in
theorem offer_any (w : World) (g base n N po pu Ld Lo Lu c k : Nat) (f : Nat → Int) (h : Mem w g N f) (G : Geo base n N po pu Ld Lo Lu) (hk : k = c % n) (hc : c < 65536) :
    Calls Try.prog 60 #[.agg (memC g base n po pu Ld Lo Lu).toArray, .int .u16 c] w fun e w' => e = .returned (.int .i64 (rd f (po + (4 + k * 2)) 2)) ∧ Below w.heap.size w w' := by
  have hkn : k < n := by rw [hk]; exact Nat.mod_lt _ G.n1
  have hs1 : po + Lo ≤ N := by have := G.fit; have := G.epo; have := G.eLo; omega
  have HS2 : Hid (Lo = 4 + n * 2) := hid (by have := G.eLo; omega)
  have hs3 : 4 + n * 2 ≤ Lo := by have := G.eLo; omega
  have hbd := rd_bd h (po + (4 + k * 2)) 2 (by omega)
  have hw : IntKind.i64.wrap (rd f (po + (4 + k * 2)) 2) = rd f (po + (4 + k * 2)) 2 := IntWalk.i64_in _ (by omega)
  have n1 := G.n1
  have n2 := G.n2
  have hb := G.big
  have HM := hid h
  have HK := hid hk
  clear hbd h hk G
  unfold memC
  generalize hv : rd f (po + (4 + k * 2)) 2 = v at *
  have HV := hid hv
  clear hv
  go_enter Try.func60, Try.ntmps60
  go_wp2_with fail
  refine (element_2 _ g po n c k Lo n1 n2 HK.out hc HS2.out).mono ?_
  rintro e w1 ⟨rfl, hb1⟩
  have HB1 := hid (((Below.refl _ w).alloc (Nat.le_refl _) _).trans (hb1.mono (by simp)))
  clear hb1
  go_wp2_with fail
  refine (number_any w1 g N (po + (4 + k * 2)) 2 2 0 2 f (HM.out.below HB1.out) (by omega) (Nat.le_refl _) (by unfold maxLen; omega) (by omega) (.inl rfl)).mono ?_
  rintro e w2 ⟨rfl, q, rfl⟩
  rw [Nat.add_zero, HV.out]
  go_wp2
  go_ret
  exact ⟨rfl, below_drewN HB1.out _⟩

set_option maxRecDepth 100000 in
set_option maxHeartbeats 400000 in
theorem use_any (w : World) (g base n N po pu Ld Lo Lu c k : Nat) (f : Nat → Int) (h : Mem w g N f) (G : Geo base n N po pu Ld Lo Lu) (hk : k = c % n) (hc : c < 65536) :
    Calls Try.prog 50 #[.agg (memC g base n po pu Ld Lo Lu).toArray, .int .u16 c] w fun e w' => e = .returned (.tuple #[.int .i64 (rd f (pu + (4 + k * 8)) 4), .int .i64 (rd f (pu + (4 + k * 8) + 4) 4)]) ∧ Below w.heap.size w w' := by
  have hkn : k < n := by rw [hk]; exact Nat.mod_lt _ G.n1
  have hs1 : pu + Lu ≤ N := by have := G.fit; have := G.epu; have := G.eLu; omega
  have HS2 : Hid (Lu = 4 + n * 8) := hid (by have := G.eLu; omega)
  have hs3 : 4 + n * 8 ≤ Lu := by have := G.eLu; omega
  have hbd := rd_bd h (pu + (4 + k * 8)) 4 (by omega)
  have hbd2 := rd_bd h (pu + (4 + k * 8) + 4) 4 (by omega)
  have hw : IntKind.i64.wrap (rd f (pu + (4 + k * 8)) 4) = rd f (pu + (4 + k * 8)) 4 := IntWalk.i64_in _ (by omega)
  have hw2 : IntKind.i64.wrap (rd f (pu + (4 + k * 8) + 4) 4) = rd f (pu + (4 + k * 8) + 4) 4 := IntWalk.i64_in _ (by omega)
  have n1 := G.n1
  have n2 := G.n2
  have hb := G.big
  have HM := hid h
  have HK := hid hk
  clear hbd hbd2 h hk G
  unfold memC
  generalize hv : rd f (pu + (4 + k * 8)) 4 = v at *
  have HV := hid hv
  clear hv
  generalize hv2 : rd f (pu + (4 + k * 8) + 4) 4 = v2 at *
  have HV2 := hid hv2
  clear hv2
  go_enter Try.func50, Try.ntmps50
  go_wp2_with fail
  refine (element_8 _ g pu n c k Lu n1 n2 HK.out hc HS2.out).mono ?_
  rintro e w1 ⟨rfl, hb1⟩
  have HB1 := hid (((Below.refl _ w).alloc (Nat.le_refl _) _).trans (hb1.mono (by simp)))
  clear hb1
  go_wp2_with fail
  refine (number_any w1 g N (pu + (4 + k * 8)) 8 8 0 4 f (HM.out.below HB1.out) (by omega) (Nat.le_refl _) (by unfold maxLen; omega) (by omega) (.inr (.inl rfl))).mono ?_
  rintro e w2 ⟨rfl, q, rfl⟩
  rw [Nat.add_zero, HV.out]
  have HB2 := hid (below_drewN HB1.out q)
  clear HB1
  generalize w1.drewN q = w2 at *
  go_wp2_with fail
  refine (number_any w2 g N (pu + (4 + k * 8)) 8 8 4 4 f (HM.out.below HB2.out) (by omega) (Nat.le_refl _) (by unfold maxLen; omega) (by omega) (.inr (.inl rfl))).mono ?_
  rintro e w3 ⟨rfl, q3, rfl⟩
  rw [HV2.out]
  go_wp2
  go_ret2
  exact ⟨rfl, below_drewN HB2.out _⟩

set_option maxRecDepth 100000 in
set_option maxHeartbeats 400000 in
theorem putOffer_any (w : World) (g base n N po pu Ld Lo Lu c k : Nat) (v : Int) (f : Nat → Int) (h : Mem w g N f) (G : Geo base n N po pu Ld Lo Lu) (hk : k = c % n) (hc : c < 65536) (hv : 0 ≤ v) (hv2 : v < 65536) :
    Calls Try.prog 59 #[.agg (memC g base n po pu Ld Lo Lu).toArray, .int .u16 c, .int .i64 v] w fun e w' => e = .returned (.tuple #[]) ∧ Mem w' g N (wr (wr f (po + (4 + k * 2)) 2 v) (po + 2) 2 ((c + 1) % 65536 : Nat)) ∧ Mods (fun b => b = g) w w' := by
  have hkn : k < n := by rw [hk]; exact Nat.mod_lt _ G.n1
  have hs1 : po + Lo ≤ N := by have := G.fit; have := G.epo; have := G.eLo; omega
  have HS2 : Hid (Lo = 4 + n * 2) := hid (by have := G.eLo; omega)
  have hs3 : 4 + n * 2 ≤ Lo := by have := G.eLo; omega
  have hw : IntKind.u16.wrap ((c : Int) + 1) = (((c + 1) % 65536 : Nat) : Int) := by rw [IntKind.wrap_u16]; omega
  have hc1 : (c + 1) % 65536 < 65536 := Nat.mod_lt _ (by omega)
  generalize (c + 1) % 65536 = c1 at *
  have n1 := G.n1
  have n2 := G.n2
  have hb := G.big
  have HM := hid h
  have HK := hid hk
  clear h hk G
  unfold memC
  go_enter Try.func59, Try.ntmps59
  go_wp2_with fail
  refine (element_2 _ g po n c k Lo n1 n2 HK.out hc HS2.out).mono ?_
  rintro e w1 ⟨rfl, hb1⟩
  have hcell : w1.heap[w.heap.size]? = _ := (hb1.block w.heap.size (by simp)).trans (MapKept.heap_alloc w _).1
  have HB1 := hid (((Below.refl _ w).alloc (Nat.le_refl _) _).trans (hb1.mono (by simp)))
  have HCE := hid hcell
  clear hb1 hcell
  go_wp2_with fail
  refine (lay_any w1 g N (po + (4 + k * 2)) 2 2 0 2 f v (HM.out.below HB1.out) (by omega) (Nat.le_refl _) (by omega) (by omega) (.inl rfl) hv (by omega) (by omega)).mono ?_
  rintro e w2 ⟨rfl, hm2, hmo2⟩
  rw [Nat.add_zero] at hm2
  have hlt := HM.out.lt
  have hcell2 := (hmo2.block w.heap.size (by have := HB1.out.size; have := (Array.getElem?_eq_some_iff.1 HCE.out).1; omega) (by omega)).trans HCE.out
  have hc2 : w2.cell? ⟨w.heap.size, 2, none⟩ = some (.slice (some ⟨g, po, none⟩) Lo Lo) := by unfold World.cell?; simp [hcell2]
  have hc3 : w2.cell? ⟨w.heap.size, 3, none⟩ = some (.int .i64 n) := by unfold World.cell?; simp [hcell2]
  have hc4 : w2.cell? ⟨w.heap.size, 4, none⟩ = some (.int .i64 2) := by unfold World.cell?; simp [hcell2]
  have HM2 := hid hm2
  have HMO2 := hid ((Mods.of_below HB1.out).tr hmo2)
  clear hm2 hmo2 hcell2 HCE HB1
  go_wp2_with fail
  refine (setIndex_any w2 g N po Lo _ _ c1 _ HM2.out hs1 hb (by omega) hc1).mono ?_
  rintro e w3 ⟨rfl, hm3, hmo3⟩
  have HM3 := hid hm3
  have HMO3 := hid (HMO2.out.tr hmo3)
  clear hm3 hmo3
  go_wp2
  go_end0
  exact ⟨rfl, HM3.out, HMO3.out⟩
end Go.Proofs.Ytpmbknlafeljlaa
