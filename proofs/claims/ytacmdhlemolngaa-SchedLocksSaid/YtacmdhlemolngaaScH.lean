/- sendTo, handOn. -/
import Derived.Test.YtacmdhlemolngaaScG
namespace Go.Proofs.Ytacmdhlemolngaa
open Go.RowKit Go.Maps

def Ab.send (A : Ab) (x st row : Int) : Ab := { A.leave x with ws := setw A.ws x st row }
def Leaves (w : World) (p : Nat) (lab : Nat → Own) (A : Ab) (n : Nat) (x : Int) : Prop :=
  Calls Try.prog 65 #[.pointer (some ⟨p, 0, none⟩), .int .i64 x] w fun e w' => e = .returned undef ∧ Goes w w' p lab (A.leave x) (n + 1)
section
variable {w w' : World} {p n : Nat} {lab : Nat → Own} {A : Ab} {vw vq va : Value} {bs bl : Nat} {MS ML : Int → Option Value}
set_option maxRecDepth 100000 in
set_option maxHeartbeats 2000000 in
theorem sendTo_any (x st row : Int) (hx : A.has x = true) (hlv : Leaves w p lab A n x) :
    Calls Try.prog 52 #[.pointer (some ⟨p, 0, none⟩), .int .i64 x, .int .i64 st, .int .i64 row] w fun e w' => e = .returned undef ∧ Goes w w' p lab (A.send x st row) (n + 1) := by
  obtain ⟨x0, x1, x2⟩ := Ab.has_lt hx
  have x4 : x < (A.ws.length : Int) := by omega
  have HX2 := hid x2
  have HX1 := hid x1
  have HL := hid hlv
  unfold Leaves at HL
  obtain ⟨A2, hA2⟩ : ∃ A2, A2 = A.send x st row := ⟨_, rfl⟩
  have HA2 := hid hA2
  rw [← hA2]
  clear hlv x2 x1 hA2
  obtain ⟨wl, hwl⟩ : ∃ wl, wl = A.ws.length := ⟨_, rfl⟩
  rw [← hwl] at x4
  have HWL := hid hwl
  clear hwl hx
  go_enter Try.func52, Try.ntmps52
  go_wp2_with fail
  refine HL.out.mono ?_
  rintro e w1 ⟨rfl, lab1, ⟨vw, vq, va, bs, bl, MS, ML, d⟩, hK⟩
  obtain ⟨c0, _⟩ := d.cells
  obtain ⟨g, c, hvw, hlg, t0, t1, t2, hf⟩ := d.worker (i := x.toNat) (by rw [Ab.leave_ws]; exact HX1.out)
  have hset := d.setW (i := x.toNat) (g := g) (by rw [Ab.leave_ws]; exact HX1.out) (by rw [hvw]; rfl) st row
  rw [hvw] at c0
  rw [Ab.leave_ws] at c0
  rw [← HWL.out] at c0
  have f1 := hf (x.toNat * 3 + 1)
  have f2 := hf (x.toNat * 3 + 2)
  have HS := hid hset
  have HK := hid hK
  rw [Ab.leave_ws] at t1 t2
  generalize (A.ws.getD x.toNat default).st = st0 at *
  generalize (A.ws.getD x.toNat default).row = row0 at *
  clear d hK hset hvw hlg t0 hf
  go_wp2
  go_region
  go_wp2
  go_end0
  refine ⟨rfl, lab1, ?_, HK.out.trans (HS.out.2.trans (Keep.below ((Below.refl _ _).drew)))⟩
  rw [HA2.out]
  have := HS.out.1
  rw [HX2.out] at this
  refine Sc.below (w := ((w1.setCell ⟨g, x.toNat * 3 + 1, none⟩ (.int .i64 st)).setCell ⟨g, x.toNat * 3 + 2, none⟩ (.int .i64 row))) ⟨vw, vq, va, bs, bl, MS, ML, ?_⟩ ((Below.refl _ _).drew)
  unfold Ab.send
  rw [← Ab.leave_ws A x]
  exact this
end
/-- A lock is handed on. -/
def Ab.hand (A : Ab) (k : Int) : Ab := match (A.lk k).tail with
  | [] => { A with lk := upd A.lk k [] }
  | y :: r => { A with lk := upd A.lk k (y :: r) }.ready [y]
theorem erase_head (l : List Int) : l.erase (l.headD 0) = l.tail := by
  cases l with
  | nil => rfl
  | cons x r => simp
section
variable {w w' : World} {p n : Nat} {lab : Nat → Own} {A : Ab} {vw vq va : Value} {bs bl : Nat} {MS ML : Int → Option Value}
set_option maxRecDepth 100000 in
set_option maxHeartbeats 2000000 in
theorem handOn_any (h : Sc w p lab A n) (k : Int) (hI : IsI k) (hin : ∀ x ∈ A.lk k, A.has x = true) (hq : A.q.length ≤ 1099511627776) (hl : (A.lk k).length ≤ 1099511627776) (hn : n < 1099511627776) :
    Calls Try.prog 55 #[.pointer (some ⟨p, 0, none⟩), .int .i64 k] w fun e w' => e = .returned undef ∧ Goes w w' p lab (A.hand k) n := by
  obtain ⟨vw, vq, va, bs, bl, MS, ML, d⟩ := h
  obtain ⟨c0, c1, c2, c3, _⟩ := d.cells
  have HF := hid (first_any d.cl k hI)
  have HR := hid (remove_n d.cl ownL d.lt k ((A.lk k).headD 0) hI hl hn)
  rw [erase_head] at HR
  have HD := hid d
  have HIN := hid hin
  have HQ := hid hq
  have HLP := hid d.lp
  obtain ⟨A2, hA2⟩ : ∃ A2, A2 = A.hand k := ⟨_, rfl⟩
  have HA2 := hid hA2
  rw [← hA2]
  clear hA2 d hin hq hl
  unfold fstI at HF
  generalize hhd : (A.lk k).headD 0 = hd at *
  generalize (!(A.lk k).isEmpty) = hb at *
  go_enter Try.func55, Try.ntmps55
  go_wp2_with fail
  refine HF.out.mono ?_
  rintro e w1 ⟨rfl, hw1⟩
  rw [hw1]
  clear hw1
  go_wp2_with fail
  refine HR.out.mono ?_
  rintro e w2 ⟨rfl, hs2⟩
  have c3' := hs2.cell (c := p) (o := 3) c3 (by rw [HLP.out]; simp) (by rw [HLP.out]; simp)
  have hG := HD.out.stepL (by omega) hs2
  obtain ⟨lab2, ⟨vw2, vq2, va2, bs2, bl2, MS2, ML2, d2⟩, hK2⟩ := hG
  have hbl : bl2 = bl := by
    have := (d2.cells).2.2.2.1
    rw [c3'] at this
    simpa using this.symm
  subst hbl
  have HF2 := hid (first_any d2.cl k hI)
  have ef : (upd A.lk k (A.lk k).tail) k = (A.lk k).tail := upd_same _ _ _
  simp only [ef] at HF2
  unfold fstI at HF2
  have HD2 := hid d2
  have HK2 := hid hK2
  clear hs2 d2 hK2 ef
  cases ht : (A.lk k).tail with
  | nil =>
    rw [ht] at HF2
    have HT := hid ht
    clear ht
    simp only [List.headD_nil, List.isEmpty_nil, Bool.not_true] at HF2
    go_wp2_with (go_at_call 56; refine HF2.out.mono ?_; rintro e w3 ⟨rfl, hw3⟩; rw [hw3]; clear hw3)
    go_end0
    refine ⟨rfl, lab2, ?_, HK2.out⟩
    rw [HA2.out]
    have := HD2.out
    unfold Ab.hand
    rw [HT.out]
    simp only
    rw [HT.out] at this
    exact ⟨_, _, _, _, _, _, _, this⟩
  | cons y r =>
    rw [ht] at HF2
    have HT := hid ht
    have hy : y ∈ A.lk k := List.mem_of_mem_tail (by rw [ht]; simp)
    clear ht
    simp only [List.headD_cons, List.isEmpty_cons, Bool.not_false] at HF2
    obtain ⟨W3, hW3⟩ : ∃ W3, W3 = w2.alloc (.cells #[.int .i64 y] 3) := ⟨_, rfl⟩
    have hb3 : Below w2.heap.size w2 W3 := by rw [hW3]; exact (Below.refl _ _).alloc (Nat.le_refl _) _
    have hl3 : lab2 w2.heap.size = .no := Sc.new ⟨_, _, _, _, _, _, _, HD2.out⟩ (Nat.le_refl _)
    have ho3 : W3.ownsRow 0 3 1 (.slice (some ⟨w2.heap.size, 0, none⟩) 1 1) 1 (ints [y]) := ⟨rfl, .inr ⟨w2.heap.size, 1, _, rfl, Nat.zero_le _, by rw [hW3]; exact alloc_new w2 _, Nat.le_refl _, by unfold maxLen; omega, rfl, rfl⟩⟩
    have HMR := hid (makeReady_at (HD2.out.below hb3) (.slice (some ⟨w2.heap.size, 0, none⟩) 1 1) [y] ho3 (fun g hg => by simp [Value.ownBlock] at hg; rw [← hg, hl3]; simp) (fun x hx => by simp at hx; rw [hx]; exact HIN.out y hy) (by have := HQ.out; simp; omega) (by simp))
    have HB3 := hid hb3
    clear hb3 hl3 ho3 hy
    go_wp2_with (go_at_call 56; refine HF2.out.mono ?_; rintro e w3 ⟨rfl, hw3⟩; rw [hw3]; clear hw3)
    rw [← hW3]
    refine HMR.out.mono ?_
    rintro e w4 ⟨rfl, lab4, h4, hK4⟩
    have H4 := hid h4
    have HK4 := hid hK4
    clear h4 hK4
    go_wp2
    go_end0
    refine ⟨rfl, lab4, ?_, HK2.out.trans ((Keep.below HB3.out).trans HK4.out)⟩
    rw [HA2.out]
    have := H4.out
    unfold Ab.hand
    rw [HT.out]
    simp only
    rw [HT.out] at this
    exact this
end
end Go.Proofs.Ytacmdhlemolngaa
