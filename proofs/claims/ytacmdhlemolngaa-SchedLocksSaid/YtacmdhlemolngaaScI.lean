/- New, State, Ready, Holder, Sleep, Wake, Lock, Unlock. -/
import Derived.Test.YtacmdhlemolngaaScH
namespace Go.Proofs.Ytacmdhlemolngaa
open Go.RowKit Go.Maps

structure Fit (A : Ab) : Prop where
  q : A.q.length ≤ 549755813888
  sl : ∀ k, (A.sl k).length ≤ 549755813888
  lk : ∀ k, (A.lk k).length ≤ 549755813888
  wl : A.ws.length ≤ 549755813888
  ins : ∀ k, ∀ x ∈ A.sl k, A.has x = true
  inl : ∀ k, ∀ x ∈ A.lk k, A.has x = true
  row : ∀ x, A.has x = true → IsI (A.wk x).row
section
variable {w w' : World} {p n : Nat} {lab : Nat → Own} {A : Ab} {vw vq va : Value} {bs bl : Nat} {MS ML : Int → Option Value}
theorem State_any (h : Sc w p lab A n) (x : Int) :
    Calls Try.prog 22 #[.pointer (some ⟨p, 0, none⟩), .int .i64 x] w fun e w' => e = .returned (stateR A x) ∧ w' = w := by
  obtain ⟨vw, vq, va, bs, bl, MS, ML, d⟩ := h
  exact State_at d x
set_option maxRecDepth 100000 in
theorem Holder_any (h : Sc w p lab A n) (k : Int) (hI : IsI k) :
    Calls Try.prog 30 #[.pointer (some ⟨p, 0, none⟩), .int .i64 k] w fun e w' => e = .returned (fstI (A.lk k)) ∧ w' = w := by
  obtain ⟨vw, vq, va, bs, bl, MS, ML, d⟩ := h
  obtain ⟨c0, c1, c2, c3, _⟩ := d.cells
  have HF := hid (first_any d.cl k hI)
  unfold fstI at *
  generalize (A.lk k).headD 0 = hd at *
  generalize (!(A.lk k).isEmpty) = hb at *
  clear d
  go_enter Try.func30, Try.ntmps30
  go_wp2_with (go_at_call 56; refine HF.out.mono ?_; rintro e w1 ⟨rfl, hw1⟩; rw [hw1]; clear hw1)
  go_ret2
  exact ⟨rfl, rfl⟩
theorem Ready_any (h : Sc w p lab A n) (hq : A.q.length ≤ 1099511627776) :
    Calls Try.prog 21 #[.pointer (some ⟨p, 0, none⟩)] w fun e w' => ∃ u, e = .returned u ∧ w'.ownsRow w.heap.size 3 1 u A.q.length (ints A.q) ∧ Below w.heap.size w w' := by
  obtain ⟨vw, vq, va, bs, bl, MS, ML, d⟩ := h
  obtain ⟨c0, c1, _⟩ := d.cells
  have HC := hid (Clone_row w vq A.q d.cq.1 hq)
  clear d
  go_enter Try.func21, Try.ntmps21
  go_wp2_with (go_at_call 49; refine HC.out.mono ?_; rintro e w1 ⟨u, rfl, h1, h2⟩; have H1 := hid h1; have H2 := hid h2; clear h1 h2)
  go_ret
  exact ⟨u, rfl, H1.out, H2.out⟩
def Ab.zero : Ab := ⟨[], [], fun _ => [], fun _ => [], 0, [], false⟩
set_option maxRecDepth 100000 in
set_option maxHeartbeats 1000000 in
theorem New_any (w : World) :
    Calls Try.prog 10 #[] w fun e w' => ∃ p lab, e = .returned (.pointer (some ⟨p, 0, none⟩)) ∧ Sc w' p lab Ab.zero 0 ∧ Below w.heap.size w w' ∧ ∀ b, b < w.heap.size → lab b = .no := by
  have hmm := @run_makeMap Try.prog
  go_enter Try.func10, Try.ntmps10
  go_wp2
  go_ret
  refine ⟨w.heap.size + 1 + 1, fun b => if b = w.heap.size then .ms else if b = w.heap.size + 1 then .ml else if b = w.heap.size + 1 + 1 then .box else .no, rfl, ⟨.slice none 0 0, .slice none 0 0, .slice none 0 0, w.heap.size, w.heap.size + 1, fun _ => none, fun _ => none, ?_⟩, (((Below.refl _ w).alloc (Nat.le_refl _) _).alloc (by simp) _).alloc (by simp; omega) _, fun b hb => by simp only; rw [if_neg (by omega), if_neg (by omega), if_neg (by omega)]⟩
  have hs1 : (w.alloc (Obj.map #[] 0)).heap.size = w.heap.size + 1 := by simp
  have hs2 : ((w.alloc (Obj.map #[] 0)).alloc (Obj.map #[] 0)).heap.size = w.heap.size + 1 + 1 := by simp
  refine ⟨fun b hb => ?_, ?_, by rw [if_neg (by omega), if_neg (by omega), if_pos rfl], ⟨⟨rfl, .inl ⟨rfl, rfl⟩⟩, fun g hg => by simp [Value.ownBlock] at hg⟩, ⟨⟨rfl, .inl ⟨rfl, rfl⟩⟩, fun g hg => by simp [Value.ownBlock] at hg⟩, ⟨⟨rfl, .inl ⟨rfl, rfl⟩⟩, fun g hg => by simp [Value.ownBlock] at hg⟩, ⟨?_, by simp, fun k _ => .inl ⟨rfl, rfl⟩⟩, ⟨?_, by simp, fun k _ => .inl ⟨rfl, rfl⟩⟩⟩
  · simp at hb
    split at hb
    · simp; omega
    · split at hb
      · simp; omega
      · split at hb
        · simp; omega
        · exact absurd rfl hb
  · have := alloc_new ((w.alloc (Obj.map #[] 0)).alloc (Obj.map #[] 0)) (Obj.cells (boxC Ab.zero (.slice none 0 0) (.slice none 0 0) (.slice none 0 0) w.heap.size (w.heap.size + 1)) 90)
    rw [hs2] at this
    exact this
  · exact ((MapIs.made w).keep (Below.heap_alloc _ _ _ (by simp))).keep (Below.heap_alloc _ _ _ (by simp; omega))
  · have := MapIs.made (w.alloc (Obj.map #[] 0))
    rw [hs1] at this
    exact this.keep (Below.heap_alloc _ _ _ (by simp))
/-- A worker that may wait is ready. -/
theorem allow_ready {x : Int} (h : allowR A x 0 = 0) : A.has x = true ∧ (A.wk x).st = 1 := by
  unfold allowR at h
  split at h
  · split at h
    · exact ⟨by assumption, by assumption⟩
    · split at h
      · simp at h
      · omega
  · omega
theorem Leaves.of (h : Sc w p lab A n) (F : Fit A) (hn : n < 549755813888) {x : Int} (hx : A.has x = true) (h4 : (A.wk x).st ≠ 4) : Leaves w p lab A n x := by
  obtain ⟨vw, vq, va, bs, bl, MS, ML, d⟩ := h
  have := F.q
  have := F.sl (A.wk x).row
  have := F.lk (A.wk x).row
  exact leave_at d x hx (F.row x hx) h4 (by omega) (by omega) (by omega) (by omega)
theorem Ab.leave_sl {x : Int} (h : (A.wk x).st = 1) : (A.leave x).sl = A.sl ∧ (A.leave x).lk = A.lk ∧ (A.leave x).q = A.q.erase x := by unfold Ab.leave; rw [if_pos h]; exact ⟨rfl, rfl, rfl⟩
def Ab.sleep (A : Ab) (x k : Int) : Ab := { A.send x 2 k with sl := upd A.sl k (A.sl k ++ [x]) }
def sleepS (A : Ab) (x k : Int) : Ab := if allowR A x 0 = 0 then A.sleep x k else A
set_option maxRecDepth 100000 in
set_option maxHeartbeats 1000000 in
theorem Sleep_any (h : Sc w p lab A n) (F : Fit A) (hn : n < 549755813888) (x k : Int) (hI : IsI k) :
    Calls Try.prog 26 #[.pointer (some ⟨p, 0, none⟩), .int .i64 x, .int .i64 k] w fun e w' => e = .returned (.int .i64 (allowR A x 0)) ∧ Goes w w' p lab (sleepS A x k) (n + 2) := by
  have h' := h
  obtain ⟨vw, vq, va, bs, bl, MS, ML, d⟩ := h'
  have HA := hid (allows_any d x 0)
  unfold sleepS
  by_cases ha : allowR A x 0 = 0
  · obtain ⟨hx, hst⟩ := allow_ready ha
    have HS := hid (sendTo_any x 2 k hx (Leaves.of h F hn hx (by rw [hst]; omega)))
    obtain ⟨l1, l2, l3⟩ := Ab.leave_sl hst
    rw [if_pos ha]
    rw [ha] at HA ⊢
    have HL1 := hid l1
    have HFS := hid (F.sl k)
    clear h d l1 l2 l3 ha hst hx F
    go_enter Try.func26, Try.ntmps26
    go_wp2_with (go_at_call 51; refine HA.out.mono ?_; rintro e w1 ⟨rfl, hw1⟩; rw [hw1]; clear hw1)
    refine HS.out.mono ?_
    rintro e w2 ⟨rfl, lab2, ⟨vw2, vq2, va2, bs2, bl2, MS2, ML2, d2⟩, hK2⟩
    obtain ⟨_, _, c2, _⟩ := d2.cells
    have e1 : (A.send x 2 k).sl = A.sl := HL1.out
    have HAD := hid (add_any d2.cs ownS d2.lt k x hI (by rw [e1]; have := HFS.out; omega) (by omega))
    have HD2 := hid d2
    have HK2 := hid hK2
    clear d2 hK2
    go_wp2_with (go_at_call 53; refine HAD.out.mono ?_; rintro e w3 ⟨rfl, hs3⟩; have HG := hid (HD2.out.stepS (by omega) hs3); clear hs3)
    go_ret
    obtain ⟨lab3, h3, hK3⟩ := HG.out
    refine ⟨rfl, lab3, ?_, HK2.out.trans hK3⟩
    rw [e1] at h3
    exact h3
  · rw [if_neg ha]
    have hg : Goes w w p lab A (n + 2) := ⟨lab, h.more (by omega), Keep.refl _ _⟩
    have HG := hid hg
    generalize allowR A x 0 = er at *
    have hne : (er != 0) = true := by simpa using ha
    clear h d hg
    go_enter Try.func26, Try.ntmps26
    go_wp2_with (go_at_call 51; refine HA.out.mono ?_; rintro e w1 ⟨rfl, hw1⟩; rw [hw1]; clear hw1)
    go_ret
    exact ⟨rfl, HG.out⟩
theorem Mp.drop {om : Own} {own : Int → Own} {b : Nat} {M : Int → Option Value} {f : Int → List Int} (h : Mp w lab om own b n M f) (O : Owner om own) {k : Int} (hk : IsI k) (hlt : ∀ b, lab b ≠ .no → b < w.heap.size) (ty : TypeId) :
    ∃ w2, (Builtin.delete_ #[83, 3] ty #[.map (some b), .int .i64 k]).run Try.prog w = .ok (.tuple #[]) w2 ∧ (∃ M', Mp w2 lab om own b n M' (upd f k [])) ∧ Mods (fun x => x = b) w w2 := by
  obtain ⟨w2, hrun, hM2, hg⟩ := h.map.del mapT hk ty
  have hm : Mods (fun x => x = b) w w2 := (Mods.of_grown hg).weak (fun x e => .inl (by simpa using e.symm))
  refine ⟨w2, hrun, ⟨upd M k none, hM2, h.lb, fun j hj => ?_⟩, hm⟩
  by_cases e : j = k
  · subst e
    rw [upd_same, upd_same]
    exact .inl ⟨rfl, rfl⟩
  · rw [upd_other _ _ e, upd_other _ _ e]
    refine (h.row j hj).imp id (fun ⟨u, e1, e2, e3⟩ => ⟨u, e1, e2, Rw.keep e3 (fun x hx => hm.block x (hlt x (by rw [hx]; exact O.hno j)) ?_) (fun x hx => hx)⟩)
    intro e4
    exact O.hom j (by rw [← hx, e4, h.lb])
def Ab.wake (A : Ab) (k : Int) : Ab := { A with sl := upd A.sl k [] }.ready (A.sl k)
set_option maxRecDepth 100000 in
set_option maxHeartbeats 1000000 in
theorem Wake_any (h : Sc w p lab A n) (F : Fit A) (k : Int) (hI : IsI k) :
    Calls Try.prog 27 #[.pointer (some ⟨p, 0, none⟩), .int .i64 k] w fun e w' => e = .returned (.int .i64 (A.sl k).length) ∧ Goes w w' p lab (A.wake k) n := by
  obtain ⟨vw, vq, va, bs, bl, MS, ML, d⟩ := h
  obtain ⟨_, _, c2, _⟩ := d.cells
  obtain ⟨v, hlook, hr, _⟩ := d.cs.at hI
  obtain ⟨w2, hdel, ⟨M', hM'⟩, hm⟩ := d.cs.drop ownS hI d.lt 0
  obtain ⟨d2, hK⟩ := d.toS (Nat.le_refl n) hM' (fun _ _ => rfl) (fun b hb => Nat.lt_of_lt_of_le (d.lt b hb) hm.size) (hm.weak (fun b e => .inl (.inl (by rw [e]; exact d.cs.lb))))
  have hbs : ∀ g, v.ownBlock = some g → ¬ g = bs := fun g hg e => by have := hr.2 g hg; rw [e, d.cs.lb] at this; cases this
  have ho : w2.ownsRow 0 3 1 v (A.sl k).length (ints (A.sl k)) := hm.row hr.1 hbs
  have := F.q
  have := F.sl k
  have HMR := hid (makeReady_at d2 v (A.sl k) ho (fun g hg => by rw [hr.2 g hg]; simp) (F.ins k) (by show A.q.length + _ ≤ _; omega) (by omega))
  have HK := hid hK
  have c2' := (d2.cells).2.2.1
  obtain ⟨a, c, rfl⟩ := owns_slice hr.1
  have HW := hid (show A.wake k = ({ A with sl := upd A.sl k [] } : Ab).ready (A.sl k) from rfl)
  generalize A.wake k = A2 at *
  rw [← HW.out] at HMR
  clear d d2 hK hr hM' hm hbs ho F HW
  generalize (A.sl k).length = ln at *
  go_enter Try.func27, Try.ntmps27
  go_wp2_with (go_at_call 33; refine HMR.out.mono ?_; rintro e w3 ⟨rfl, lab3, h3, hK3⟩; have H3 := hid h3; have HK3 := hid hK3; clear h3 hK3)
  go_ret
  exact ⟨rfl, lab3, H3.out, HK.out.trans HK3.out⟩
def lockR (A : Ab) (x k : Int) : Value := if allowR A x 0 = 0 then .tuple #[.bool (decide (A.lk k = [] ∨ (A.lk k).headD 0 = x)), .int .i64 0] else .tuple #[.bool false, .int .i64 (allowR A x 0)]
def lockS (A : Ab) (x k : Int) : Ab :=
  if allowR A x 0 = 0 then (if A.lk k = [] then { A with lk := upd A.lk k [x] } else if (A.lk k).headD 0 = x then A else { A.send x 3 k with lk := upd A.lk k (A.lk k ++ [x]) }) else A
set_option maxRecDepth 100000 in
set_option maxHeartbeats 2000000 in
theorem Lock_any (h : Sc w p lab A n) (F : Fit A) (hn : n < 549755813888) (x k : Int) (hI : IsI k) :
    Calls Try.prog 28 #[.pointer (some ⟨p, 0, none⟩), .int .i64 x, .int .i64 k] w fun e w' => e = .returned (lockR A x k) ∧ Goes w w' p lab (lockS A x k) (n + 2) := by
  have h' := h
  obtain ⟨vw, vq, va, bs, bl, MS, ML, d⟩ := h'
  have HA := hid (allows_any d x 0)
  have HH := hid (Holder_any h k hI)
  have hg : Goes w w p lab A (n + 2) := ⟨lab, h.more (by omega), Keep.refl _ _⟩
  have HG := hid hg
  obtain ⟨_, _, _, c3, _⟩ := d.cells
  unfold lockR lockS
  by_cases ha : allowR A x 0 = 0
  · obtain ⟨hx, hst⟩ := allow_ready ha
    obtain ⟨l1, l2, l3⟩ := Ab.leave_sl hst
    rw [if_pos ha, if_pos ha]
    rw [ha] at HA
    have hfl := F.lk k
    unfold fstI at HH
    cases hlk : A.lk k with
    | nil =>
      rw [hlk] at HH
      have HAD := hid (add_any d.cl ownL d.lt k x hI (by omega) (by omega))
      rw [hlk] at HAD
      have HD := hid d
      simp only [List.headD_nil, List.isEmpty_nil, Bool.not_true] at HH
      simp only [true_or, decide_true, if_true]
      clear h d hg ha hst hx F l1 l2 l3 hlk hfl
      go_enter Try.func28, Try.ntmps28
      go_wp2_with (first | (go_at_call 51; refine HA.out.mono ?_; rintro e w1 ⟨rfl, hw1⟩; rw [hw1]; clear hw1) | (go_at_call 30; refine HH.out.mono ?_; rintro e w1 ⟨rfl, hw1⟩; rw [hw1]; clear hw1) | (go_at_call 53; refine HAD.out.mono ?_; rintro e w3 ⟨rfl, hs3⟩; have HG2 := hid (HD.out.stepL (by omega) hs3); clear hs3))
      go_ret2
      exact ⟨rfl, HG2.out.more (by omega)⟩
    | cons y r =>
      rw [hlk] at HH
      simp only [List.headD_cons, List.isEmpty_cons, Bool.not_false] at HH ⊢
      by_cases hy : y = x
      · subst hy
        simp only [reduceCtorEq, or_true, decide_true, if_true, if_false]
        clear h d hg ha hst hx F l1 l2 l3 hlk hfl
        go_enter Try.func28, Try.ntmps28
        go_wp2_with (first | (go_at_call 51; refine HA.out.mono ?_; rintro e w1 ⟨rfl, hw1⟩; rw [hw1]; clear hw1) | (go_at_call 30; refine HH.out.mono ?_; rintro e w1 ⟨rfl, hw1⟩; rw [hw1]; clear hw1))
        go_ret2
        exact ⟨rfl, HG.out⟩
      · have HS := hid (sendTo_any x 3 k hx (Leaves.of h F hn hx (by rw [hst]; omega)))
        have hyb : (y == x) = false := by simpa using hy
        simp only [reduceCtorEq, false_or, hy, decide_false, if_false]
        have HL2 := hid l2
        rw [hlk] at hfl
        have HLK := hid hlk
        have HFL := hid hfl
        clear h d hg ha hst hx F l1 l2 l3 hlk hfl
        go_enter Try.func28, Try.ntmps28
        go_wp2_with (first | (go_at_call 51; refine HA.out.mono ?_; rintro e w1 ⟨rfl, hw1⟩; rw [hw1]; clear hw1) | (go_at_call 30; refine HH.out.mono ?_; rintro e w1 ⟨rfl, hw1⟩; rw [hw1]; clear hw1))
        refine HS.out.mono ?_
        rintro e w2 ⟨rfl, lab2, ⟨vw2, vq2, va2, bs2, bl2, MS2, ML2, d2⟩, hK2⟩
        obtain ⟨_, _, _, c3', _⟩ := d2.cells
        have e1 : (A.send x 3 k).lk = A.lk := HL2.out
        have HAD := hid (add_any d2.cl ownL d2.lt k x hI (by rw [e1, HLK.out]; have := HFL.out; omega) (by omega))
        have HD2 := hid d2
        have HK2 := hid hK2
        clear d2 hK2
        go_wp2_with (go_at_call 53; refine HAD.out.mono ?_; rintro e w3 ⟨rfl, hs3⟩; have HG2 := hid (HD2.out.stepL (by omega) hs3); clear hs3)
        go_ret2
        obtain ⟨lab3, h3, hK3⟩ := HG2.out
        refine ⟨rfl, lab3, ?_, HK2.out.trans hK3⟩
        rw [e1, HLK.out] at h3
        exact h3
  · rw [if_neg ha, if_neg ha]
    generalize allowR A x 0 = er at *
    have hne : (er != 0) = true := by simpa using ha
    clear h d hg
    go_enter Try.func28, Try.ntmps28
    go_wp2_with (go_at_call 51; refine HA.out.mono ?_; rintro e w1 ⟨rfl, hw1⟩; rw [hw1]; clear hw1)
    go_ret2
    exact ⟨rfl, HG.out⟩
def unlockR (A : Ab) (x k : Int) : Int := if A.has x then (if A.lk k ≠ [] ∧ (A.lk k).headD 0 = x then 0 else 1) else 2
def unlockS (A : Ab) (x k : Int) : Ab := if unlockR A x k = 0 then A.hand k else A
set_option maxRecDepth 100000 in
set_option maxHeartbeats 2000000 in
theorem Unlock_any (h : Sc w p lab A n) (F : Fit A) (hn : n < 549755813888) (x k : Int) (hI : IsI k) :
    Calls Try.prog 32 #[.pointer (some ⟨p, 0, none⟩), .int .i64 x, .int .i64 k] w fun e w' => e = .returned (.int .i64 (unlockR A x k)) ∧ Goes w w' p lab (unlockS A x k) (n + 2) := by
  have h' := h
  obtain ⟨vw, vq, va, bs, bl, MS, ML, d⟩ := h'
  have HA := hid (has_any d x)
  have HH := hid (Holder_any h k hI)
  have hg : Goes w w p lab A (n + 2) := ⟨lab, h.more (by omega), Keep.refl _ _⟩
  have HG := hid hg
  have HO := hid (handOn_any h k hI (F.inl k) (by have := F.q; omega) (by have := F.lk k; omega) (by omega))
  unfold unlockS unlockR
  cases hx : A.has x with
  | false =>
    rw [hx] at HA
    clear h d hg hx F HH HO
    go_enter Try.func32, Try.ntmps32
    go_wp2_with (go_at_call 50; refine HA.out.mono ?_; rintro e w1 ⟨rfl, hw1⟩; rw [hw1]; clear hw1)
    go_ret
    exact ⟨rfl, HG.out⟩
  | true =>
    rw [hx] at HA
    unfold fstI at HH
    cases hlk : A.lk k with
    | nil =>
      rw [hlk] at HH
      simp only [List.headD_nil, List.isEmpty_nil, Bool.not_true] at HH
      clear h d hg hx F HO hlk
      go_enter Try.func32, Try.ntmps32
      go_wp2_with (first | (go_at_call 50; refine HA.out.mono ?_; rintro e w1 ⟨rfl, hw1⟩; rw [hw1]; clear hw1) | (go_at_call 30; refine HH.out.mono ?_; rintro e w1 ⟨rfl, hw1⟩; rw [hw1]; clear hw1))
      go_ret
      exact ⟨rfl, HG.out⟩
    | cons y r =>
      rw [hlk] at HH
      simp only [List.headD_cons, List.isEmpty_cons, Bool.not_false] at HH ⊢
      by_cases hy : y = x
      · subst hy
        simp only [ne_eq, reduceCtorEq, not_false_eq_true, and_self, if_true]
        clear h d hg hx F hlk
        go_enter Try.func32, Try.ntmps32
        go_wp2_with (first | (go_at_call 50; refine HA.out.mono ?_; rintro e w1 ⟨rfl, hw1⟩; rw [hw1]; clear hw1) | (go_at_call 30; refine HH.out.mono ?_; rintro e w1 ⟨rfl, hw1⟩; rw [hw1]; clear hw1) | (go_at_call 55; refine HO.out.mono ?_; rintro e w3 ⟨rfl, hs3⟩; have HG2 := hid hs3; clear hs3))
        go_ret
        exact ⟨rfl, HG2.out.more (by omega)⟩
      · have hyb : (y != x) = true := by simpa using hy
        simp only [hy, and_false, if_false, if_true]
        clear h d hg hx F HO hlk
        go_enter Try.func32, Try.ntmps32
        go_wp2_with (first | (go_at_call 50; refine HA.out.mono ?_; rintro e w1 ⟨rfl, hw1⟩; rw [hw1]; clear hw1) | (go_at_call 30; refine HH.out.mono ?_; rintro e w1 ⟨rfl, hw1⟩; rw [hw1]; clear hw1))
        go_ret
        exact ⟨rfl, HG.out⟩
end
end Go.Proofs.Ytacmdhlemolngaa
