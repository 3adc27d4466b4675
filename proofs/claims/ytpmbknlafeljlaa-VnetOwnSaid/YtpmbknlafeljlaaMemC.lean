/- putUse, wipe, Size, cut, share. -/
import Derived.Test.YtpmbknlafeljlaaMemB
import Derived.Lib.SliceRun
namespace Go.Proofs.Ytpmbknlafeljlaa
open Go.RowKit

set_option maxRecDepth 100000 in
set_option maxHeartbeats 400000 in
theorem putUse_any (w : World) (g base n N po pu Ld Lo Lu c k : Nat) (v u : Int) (f : Nat → Int) (h : Mem w g N f) (G : Geo base n N po pu Ld Lo Lu) (hk : k = c % n) (hc : c < 65536) (hv : 0 ≤ v) (hv2 : v < 4294967296) (hu : 0 ≤ u) (hu2 : u < 4294967296) :
    Calls Try.prog 47 #[.agg (memC g base n po pu Ld Lo Lu).toArray, .int .u16 c, .int .i64 v, .int .i64 u] w fun e w' => e = .returned (.tuple #[]) ∧ Mem w' g N (wr (wr (wr f (pu + (4 + k * 8)) 4 v) (pu + (4 + k * 8) + 4) 4 u) (pu + 2) 2 ((c + 1) % 65536 : Nat)) ∧ Mods (fun b => b = g) w w' := by
  have hkn : k < n := by rw [hk]; exact Nat.mod_lt _ G.n1
  have hs1 : pu + Lu ≤ N := by have := G.fit; have := G.epu; have := G.eLu; omega
  have HS2 : Hid (Lu = 4 + n * 8) := hid (by have := G.eLu; omega)
  have hs3 : 4 + n * 8 ≤ Lu := by have := G.eLu; omega
  have hw : IntKind.u16.wrap ((c : Int) + 1) = (((c + 1) % 65536 : Nat) : Int) := by rw [IntKind.wrap_u16]; omega
  have hc1 : (c + 1) % 65536 < 65536 := Nat.mod_lt _ (by omega)
  generalize (c + 1) % 65536 = c1 at *
  have n1 := G.n1
  have n2 := G.n2
  have hb := G.big
  have HM := hid h
  have HK := hid hk
  clear h hk G
  unfold memC
  go_enter Try.func47, Try.ntmps47
  go_wp2_with fail
  refine (element_8 _ g pu n c k Lu n1 n2 HK.out hc HS2.out).mono ?_
  rintro e w1 ⟨rfl, hb1⟩
  have hcell : w1.heap[w.heap.size]? = _ := (hb1.block w.heap.size (by simp)).trans (MapKept.heap_alloc w _).1
  have HB1 := hid (((Below.refl _ w).alloc (Nat.le_refl _) _).trans (hb1.mono (by simp)))
  have HCE := hid hcell
  clear hb1 hcell
  go_wp2_with fail
  refine (lay_any w1 g N (pu + (4 + k * 8)) 8 8 0 4 f v (HM.out.below HB1.out) (by omega) (Nat.le_refl _) (by omega) (by omega) (.inr (.inl rfl)) hv (by omega) (by omega)).mono ?_
  rintro e w2 ⟨rfl, hm2, hmo2⟩
  rw [Nat.add_zero] at hm2
  have hlt := HM.out.lt
  have hcell2 := (hmo2.block w.heap.size (by have := HB1.out.size; have := (Array.getElem?_eq_some_iff.1 HCE.out).1; omega) (by omega)).trans HCE.out
  have HM2 := hid hm2
  have HMO2 := hid ((Mods.of_below HB1.out).tr hmo2)
  have HCE2 := hid hcell2
  clear hm2 hmo2 hcell2 HCE HB1
  go_wp2_with fail
  refine (lay_any w2 g N (pu + (4 + k * 8)) 8 8 4 4 _ u HM2.out (by omega) (Nat.le_refl _) (by omega) (by omega) (.inr (.inl rfl)) hu (by omega) (by omega)).mono ?_
  rintro e w3 ⟨rfl, hm3, hmo3⟩
  have hcell2 := (hmo3.block w.heap.size (by have := (Array.getElem?_eq_some_iff.1 HCE2.out).1; omega) (by omega)).trans HCE2.out
  have hc2 : w3.cell? ⟨w.heap.size, 5, none⟩ = some (.slice (some ⟨g, pu, none⟩) Lu Lu) := by unfold World.cell?; simp [hcell2]
  have hc3 : w3.cell? ⟨w.heap.size, 6, none⟩ = some (.int .i64 n) := by unfold World.cell?; simp [hcell2]
  have hc4 : w3.cell? ⟨w.heap.size, 7, none⟩ = some (.int .i64 8) := by unfold World.cell?; simp [hcell2]
  have HM3 := hid hm3
  have HMO3 := hid (HMO2.out.tr hmo3)
  clear hm3 hmo3 hcell2 HCE2 HMO2 HM2
  go_wp2_with fail
  refine (setIndex_any w3 g N pu Lu _ _ c1 _ HM3.out hs1 hb (by omega) hc1).mono ?_
  rintro e w4 ⟨rfl, hm4, hmo4⟩
  have HM4 := hid hm4
  have HMO4 := hid (HMO3.out.tr hmo4)
  clear hm4 hmo4
  go_wp2
  go_end0
  exact ⟨rfl, HM4.out, HMO4.out⟩

/-! ### noughts -/
def zr (f : Nat → Int) (a n : Nat) : Nat → Int := fun i => if a ≤ i ∧ i < a + n then 0 else f i
theorem Mem.set1 {w : World} {g N : Nat} {f : Nat → Int} (h : Mem w g N f) (k : Nat) (x : Int) (hx : IsB x) : Mem (w.setCell ⟨g, k, none⟩ (.int .u8 x)) g N (fun i => if i = k then x else f i) := by
  obtain ⟨⟨c, h1, h2, h3⟩, h4⟩ := h
  have hl : g < w.heap.size := (Array.getElem?_eq_some_iff.1 h1).1
  have h' : w.heap[g] = .cells c 5 (0, 0) := (Array.getElem?_eq_some_iff.1 h1).2
  refine ⟨⟨c.setIfInBounds k (.int .u8 x), by simp [World.setCell, hl, Array.getElem_modify, h'], by simpa using h2, fun i hi => ?_⟩, fun i hi => by dsimp only; split; exact hx; exact h4 i hi⟩
  rw [Array.getElem?_setIfInBounds]
  by_cases e : i = k
  · subst e; simp; omega
  · rw [if_neg (fun e' => e e'.symm), h3 i hi]
    simp [e]
theorem Mods.setCell {al : Nat → Prop} {w w' : World} (h : Mods al w w') (g k : Nat) (v : Value) (hg : al g) : Mods al w (w'.setCell ⟨g, k, none⟩ v) :=
  h.tr ⟨rfl, rfl, rfl, by simp [World.setCell], fun b _ hn => Below.heap_setCell _ _ _ _ (fun e => hn (by rw [e]; exact hg))⟩
theorem Mem.clear {g N : Nat} (n : Nat) : ∀ (w : World) (f : Nat → Int) (o : Nat), Mem w g N f → Mem (w.setCells g o (List.replicate n (.int .u8 0))) g N (zr f o n) ∧ Mods (fun b => b = g) w (w.setCells g o (List.replicate n (.int .u8 0))) := by
  induction n with
  | zero => intro w f o h; exact ⟨h.congr (fun i _ => by unfold zr; rw [if_neg (by omega)]), Mods.refl _ _⟩
  | succ n ih =>
    intro w f o h
    rw [List.replicate_succ]
    show Mem ((w.setCell ⟨g, o, none⟩ (.int .u8 0)).setCells g (o + 1) _) _ _ _ ∧ Mods _ _ ((w.setCell ⟨g, o, none⟩ (.int .u8 0)).setCells g (o + 1) _)
    obtain ⟨h1, h2⟩ := ih _ _ (o + 1) (h.set1 o 0 (by unfold IsB; omega))
    refine ⟨h1.congr (fun i _ => ?_), ((Mods.refl (fun b => b = g) w).setCell g o _ rfl).tr h2⟩
    unfold zr
    by_cases e : i = o
    · subst e; simp
    · by_cases h3 : o + 1 ≤ i ∧ i < o + 1 + n
      · rw [if_pos h3, if_pos (by omega)]
      · rw [if_neg h3]
        show (if i = o then (0 : Int) else f i) = _
        rw [if_neg e, if_neg (by omega)]
theorem zero5 (w : World) : (zeroValue 5).run Try.prog w = .ok (.int .u8 0) w := by kernel_rfl
theorem wpList_clear_mem {w : World} {ops : Array Oper} {rest : List Oper} {o : Oper} {a : Act} {Q : Exit → Act → World → Prop} (hgd : o.guard = none) (d : Operand) (ho : o.op = .call { callee := .builtin .clear, args := #[d], argTypes := #[25] })
    (g N p n c : Nat) (f : Nat → Int) (hd : a.eval d = .slice (some ⟨g, p, none⟩) n c) (hm : Mem w g N f) (h0 : 0 < n) (hp : p + n ≤ N)
    (h : ∀ w', Hid (Mem w' g N (zr f p n)) → Hid (Mods (fun b => b = g) w w') → wpList Try.prog ops Q rest (a.put o.dst (.tuple #[])) w') :
    wpList Try.prog ops Q (o :: rest) a w := by
  refine wpList_plain hgd fun K hK => ?_
  have hrun := Lib.run_clear_slice (P := Try.prog) w 25 5 o.type (.int .u8 0) Try.underlying25 zero5 rfl rfl g p n c h0 (fun j hj => by rw [hm.cell (i := p + j) (by omega)]; rfl) (fun j hj => hm.frozen _)
  obtain ⟨h1, h2⟩ := Mem.clear n w f p hm
  have := h _ (hid h1) (hid h2)
  unfold Oper.wp
  simp [execOp, ho, resolve, invoke, builtin, hd, hrun, Result.andThen]
  exact hK _ _ this

set_option maxRecDepth 100000 in
set_option maxHeartbeats 400000 in
theorem wipe_any (w : World) (g base n N po pu Ld Lo Lu : Nat) (f : Nat → Int) (h : Mem w g N f) (G : Geo base n N po pu Ld Lo Lu) :
    Calls Try.prog 53 #[.agg (memC g base n po pu Ld Lo Lu).toArray] w fun e w' => e = .returned (.tuple #[]) ∧ Mem w' g N (zr f base (8 + 26 * n)) ∧ Mods (fun b => b = g) w w' := by
  obtain ⟨n1, n2, epo, epu, eLd, eLo, eLu, h1, h2⟩ := G
  have E := hid (And.intro epo (And.intro epu (And.intro eLd (And.intro eLo eLu))))
  have b1 : base + Ld ≤ N := by omega
  have b2 : po + Lo ≤ N := by omega
  have b3 : pu + Lu ≤ N := by omega
  have b4 : 0 < Ld := by omega
  have b5 : 0 < Lo := by omega
  have b6 : 0 < Lu := by omega
  have hlt := h.lt
  have HM0 := hid (h.below ((Below.refl _ w).alloc (Nat.le_refl _) (.cells (memC g base n po pu Ld Lo Lu).toArray 87)))
  have HC0 : Hid ((w.alloc (.cells (memC g base n po pu Ld Lo Lu).toArray 87)).heap[w.heap.size]? = some (.cells (memC g base n po pu Ld Lo Lu).toArray 87 (0, 0))) := hid (MapKept.heap_alloc w _).1
  clear h epo epu eLd eLo eLu h1 h2
  unfold memC at *
  go_enter Try.func53, Try.ntmps53
  go_wp2_with (first
    | (show wpList _ _ _ ({ dst := _, op := .call { callee := .builtin .clear, args := #[.tmp 3], argTypes := #[25] }, type := _, pos := _, after := _, guard := none } :: _) _ _
       refine wpList_clear_mem rfl (.tmp 3) rfl g N base Ld Ld f rfl HM0.out b4 b1 ?_
       intro w1 hm1 hmo1
       have hce := (hmo1.out.block w.heap.size (by simp) (by omega)).trans HC0.out
       have HC1 := hid hce
       have c2 : w1.cell? ⟨w.heap.size, 2, none⟩ = some (.slice (some ⟨g, po, none⟩) Lo Lo) := by unfold World.cell?; simp [hce]
       have hs1 : w.heap.size < w1.heap.size := (Array.getElem?_eq_some_iff.1 hce).1
       clear hce)
    | (show wpList _ _ _ ({ dst := _, op := .call { callee := .builtin .clear, args := #[.tmp 6], argTypes := #[25] }, type := _, pos := _, after := _, guard := none } :: _) _ _
       refine wpList_clear_mem rfl (.tmp 6) rfl g N po Lo Lo _ rfl hm1.out b5 b2 ?_
       intro w2 hm2 hmo2
       have hce := (hmo2.out.block w.heap.size hs1 (by omega)).trans HC1.out
       have c5 : w2.cell? ⟨w.heap.size, 5, none⟩ = some (.slice (some ⟨g, pu, none⟩) Lu Lu) := by unfold World.cell?; simp [hce]
       clear hce c2)
    | (show wpList _ _ _ ({ dst := _, op := .call { callee := .builtin .clear, args := #[.tmp 9], argTypes := #[25] }, type := _, pos := _, after := _, guard := none } :: _) _ _
       refine wpList_clear_mem rfl (.tmp 9) rfl g N pu Lu Lu _ rfl hm2.out b6 b3 ?_
       intro w3 hm3 hmo3))
  go_end0
  refine ⟨rfl, hm3.out.congr (fun i hi => ?_), (((Mods.refl _ w).alloc _).tr hmo1.out).tr (hmo2.out.tr hmo3.out)⟩
  obtain ⟨e1, e2, e3, e4, e5⟩ := E.out
  unfold zr
  subst e1 e2 e3 e4 e5
  by_cases a1 : base ≤ i ∧ i < base + (8 + 26 * n)
  · rw [if_pos a1]
    split
    · rfl
    · split
      · rfl
      · rw [if_pos (by omega)]
  · rw [if_neg a1, if_neg (by omega), if_neg (by omega), if_neg (by omega)]

/-! ### Size -/
def pow2 (n : Int) : Bool := n == 1 || n == 2 || n == 4 || n == 8 || n == 16 || n == 32 || n == 64 || n == 128 || n == 256
def sizeI (n : Int) : Int := if pow2 n then 8 + 26 * n else 0
theorem pow2_bd {n : Int} (h : pow2 n = true) : 1 ≤ n ∧ n ≤ 256 := by simp [pow2] at h; omega
theorem pow2_and (k : Fin 256) : decide (bits .and .i64 (k.val + 1 : Int) (k.val + 1 - 1) = 0) = pow2 (k.val + 1) := by
  revert k; decide +kernel
set_option maxRecDepth 100000 in
set_option maxHeartbeats 400000 in
theorem ringSize_any (w : World) (n m : Int) (x : Int) (hx : n * m = x) (hb : 0 ≤ x ∧ x ≤ 4096) : Calls Try.prog 37 #[.int .i64 n, .int .i64 m] w fun e w' => e = .returned (.int .i64 (4 + x)) ∧ w' = w := by
  have e1 : IntKind.i64.wrap (n * m) = x := by rw [hx]; exact IntWalk.i64_in _ (by omega)
  have e2 : IntKind.i64.wrap (4 + x) = 4 + x := IntWalk.i64_in _ (by omega)
  clear hx
  go_enter Try.func37, Try.ntmps37
  go_wp2
  go_ret
  exact ⟨rfl, rfl⟩
set_option maxRecDepth 100000 in
set_option maxHeartbeats 400000 in
theorem Size_yes (w : World) (n : Int) (h : pow2 n = true) : Calls Try.prog 17 #[.int .i64 n] w fun e w' => e = .returned (.int .i64 (8 + 26 * n)) ∧ w' = w := by
  have hb := pow2_bd h
  have ha : bits .and .i64 n (n - 1) = 0 := by
    have := pow2_and ⟨(n - 1).toNat, by omega⟩
    rw [show (((n - 1).toNat : Nat) : Int) + 1 = n by omega, h] at this
    simpa using this
  have e1 : IntKind.i64.wrap (n - 1) = n - 1 := IntWalk.i64_in _ (by omega)
  have e2 : IntKind.i64.wrap (n * 16) = n * 16 := IntWalk.i64_in _ (by omega)
  have e3 : IntKind.i64.wrap (n * 16 + (4 + n * 2)) = n * 16 + (4 + n * 2) := IntWalk.i64_in _ (by omega)
  have e4 : IntKind.i64.wrap (n * 16 + (4 + n * 2) + (4 + n * 8)) = 8 + 26 * n := by rw [IntWalk.i64_in _ (by omega)]; omega
  clear h
  go_enter Try.func17, Try.ntmps17
  go_wp2_with fail
  refine (ringSize_any _ n 2 (n * 2) rfl (by omega)).mono ?_
  rintro e w' ⟨rfl, rfl⟩
  go_wp2_with fail
  refine (ringSize_any _ n 8 (n * 8) rfl (by omega)).mono ?_
  rintro e w' ⟨rfl, rfl⟩
  go_wp2
  go_ret
  exact ⟨rfl, rfl⟩
set_option maxRecDepth 100000 in
set_option maxHeartbeats 400000 in
theorem Size_no (w : World) (n : Int) (h : pow2 n = false) : Calls Try.prog 17 #[.int .i64 n] w fun e w' => e = .returned (.int .i64 0) ∧ w' = w := by
  by_cases h1 : n < 1
  · clear h
    go_enter Try.func17, Try.ntmps17
    go_wp2
    go_ret
    exact ⟨rfl, rfl⟩
  · by_cases h2 : n > 256
    · clear h
      go_enter Try.func17, Try.ntmps17
      go_wp2
      go_ret
      exact ⟨rfl, rfl⟩
    · have ha : ¬ bits .and .i64 n (n - 1) = 0 := by
        have := pow2_and ⟨(n - 1).toNat, by omega⟩
        rw [show (((n - 1).toNat : Nat) : Int) + 1 = n by omega, h] at this
        simpa using this
      have e1 : IntKind.i64.wrap (n - 1) = n - 1 := IntWalk.i64_in _ (by omega)
      clear h
      go_enter Try.func17, Try.ntmps17
      go_wp2
      go_ret
      exact ⟨rfl, rfl⟩

/-! ### share -/
set_option maxRecDepth 100000 in
theorem cutM_run (g off len cap hi : Nat) (h : 0 < hi) (hh : hi ≤ cap) (W : World) : (Instr.slice 25 (.slice (some ⟨g, off, none⟩) len cap) none (some (.int .i64 hi)) (some (.int .i64 hi))).run Try.prog W = .ok (.slice (some ⟨g, off, none⟩) hi hi) W := by
  have hz : (sizeOf 5).run Try.prog W = .ok 1 W := by kernel_rfl
  rw [run_slice_hm (P := Try.prog) W 25 (some ⟨g, off, none⟩) len cap Try.underlying25 .i64 .i64 hi hi (by omega) (by omega) (by omega)]
  have e : Try.prog.elem 25 = 5 := by kernel_rfl
  rw [e, hz]
  have h2 : ¬ (hi = 0) := by omega
  simp [sliced, Addr.add, h2]
/-- What stands behind lo. -/
def behind (g off len cap lo : Nat) : Value := .slice (some ⟨g, if cap = lo then off else off + lo, none⟩) (len - lo) (cap - lo)
set_option maxRecDepth 100000 in
theorem cutL_run (g off len cap lo : Nat) (h : lo ≤ len) (W : World) : (Instr.slice 25 (.slice (some ⟨g, off, none⟩) len cap) (some (.int .i64 lo)) none none).run Try.prog W = .ok (behind g off len cap lo) W := by
  have hz : (sizeOf 5).run Try.prog W = .ok 1 W := by kernel_rfl
  rw [run_slice_l (P := Try.prog) W 25 (some ⟨g, off, none⟩) len cap Try.underlying25 .i64 lo (by omega) (by omega)]
  have e : Try.prog.elem 25 = 5 := by kernel_rfl
  rw [e, hz]
  unfold behind
  by_cases h2 : cap = lo
  · simp [sliced, h2]
  · simp [sliced, Addr.add, h2]
theorem behind_more (g off len cap lo : Nat) (h : lo < cap) : behind g off len cap lo = .slice (some ⟨g, off + lo, none⟩) (len - lo) (cap - lo) := by
  unfold behind
  rw [if_neg (by omega)]

set_option maxRecDepth 100000 in
set_option maxHeartbeats 400000 in
theorem cut_any (w : World) (g off len cap : Nat) (x : Int) (lo : Nat) (hx : x = lo) (h0 : 0 < lo) (h : lo ≤ len) (hc : len ≤ cap) :
    Calls Try.prog 70 #[.slice (some ⟨g, off, none⟩) len cap, .int .i64 x] w fun e w' => e = .returned (.tuple #[.slice (some ⟨g, off, none⟩) lo lo, behind g off len cap lo]) ∧ ∃ q, w' = w.drewN q := by
  subst hx
  have h1 := cutM_run g off len cap lo h0 (by omega)
  have h2 := cutL_run g off len cap lo h
  generalize behind g off len cap lo = v at *
  go_enter Try.func70, Try.ntmps70
  go_wp2
  go_quiet (fail)
  go_wp2
  go_ret2
  exact ⟨rfl, _, rfl⟩
end Go.Proofs.Ytpmbknlafeljlaa
