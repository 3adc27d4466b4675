/- Peers: Hear. -/
import Derived.Test.YtlflbpemjlgdiaaEdE
namespace Go.Proofs.Ytlflbpemjlgdiaa
open Go.RowKit Go.Maps
set_option linter.unusedVariables false

instance badM_dec (l : List Int) : Decidable (badM l) := by unfold badM; infer_instance
/-- What Hear answers: the number, what is known then, the bytes. -/
def hearC (ip k : Int) (l : List Int) : Int := if k ≠ 2054 then 3 else if l.length < 28 then 11 else if badM l then 15 else if ipAt l 24 ≠ ip then 18 else 0
def hearS (ip k : Int) (l : List Int) (L : List Pe) : List Pe := if hearC ip k l = 0 then learnL L (ipAt l 14) (macOf (l.drop 8)) else L
def hearB (own : Mac) (ip k : Int) (l : List Int) : List Int := if hearC ip k l = 0 ∧ opOf l = 1 then frL (macOf (l.drop 8)) own 2054 (arpL 2 own ip (macOf (l.drop 8)) (ipAt l 14)) else []
theorem hear_no {own : Mac} {ip k : Int} {l : List Int} (L : List Pe) (h : hearC ip k l ≠ 0) : hearS ip k l L = L ∧ hearB own ip k l = [] := by
  unfold hearS hearB; rw [if_neg h, if_neg (fun e => h e.1)]; exact ⟨rfl, rfl⟩
theorem hearC_kind {ip k : Int} {l : List Int} (h : k ≠ 2054) : hearC ip k l = 3 := by unfold hearC; rw [if_pos h]
theorem hearC_cut {ip : Int} {l : List Int} (h : l.length < 28) : hearC ip 2054 l = 11 := by unfold hearC; rw [if_neg (by simp), if_pos h]
theorem hearC_bad {ip : Int} {l : List Int} (h : ¬ l.length < 28) (h2 : badM l) : hearC ip 2054 l = 15 := by unfold hearC; rw [if_neg (by simp), if_neg h, if_pos h2]
theorem hearC_far {ip : Int} {l : List Int} (h : ¬ l.length < 28) (h2 : ¬ badM l) (h3 : ipAt l 24 ≠ ip) : hearC ip 2054 l = 18 := by unfold hearC; rw [if_neg (by simp), if_neg h, if_neg h2, if_pos h3]
theorem hearC_ok {ip : Int} {l : List Int} (h : ¬ l.length < 28) (h2 : ¬ badM l) (h3 : ipAt l 24 = ip) : hearC ip 2054 l = 0 := by unfold hearC; rw [if_neg (by simp), if_neg h, if_neg h2, if_neg (by simp [h3])]
theorem box15 (w : World) (M : Array Value) (hs : M.size = 15) (h1 : M.all (·.oneCell') = true) : ∃ W5, W5 = w.alloc (.cells #[.int .i64 0, .int .u8 0, .int .u8 0, .int .u8 0, .int .u8 0, .int .u8 0, .int .u8 0, .int .u32 0, .int .u8 0, .int .u8 0, .int .u8 0, .int .u8 0, .int .u8 0, .int .u8 0, .int .u32 0] 76) ∧ W5.heap[w.heap.size]? = some (.cells msg0 76 (0, 0)) ∧ ∃ W6, W6 = W5.setRow w.heap.size M ∧ W6.heap[w.heap.size]? = some (.cells M 76 (0, 0)) ∧ Below w.heap.size w W6 := by
  have k3 : (w.alloc (.cells msg0 76)).heap[w.heap.size]? = some (.cells msg0 76 (0, 0)) := alloc_new w _
  have b3 : Below w.heap.size w (w.alloc (.cells msg0 76)) := below_alloc (Below.refl _ _) (Nat.le_refl _) _
  exact ⟨_, rfl, k3, _, rfl, setRow_heap _ _ _ _ _ _ k3, (setRow_mods _ _ _).to_below b3 b3.size (fun x hx => by rw [hx]; exact Nat.le_refl _)⟩
def HearNo (w : World) (E : Int) (e : Ending) (w' : World) : Prop := e = .returned (.tuple #[.slice none 0 0, .int .i64 E]) ∧ Below w.heap.size w w'
set_option maxRecDepth 100000 in
set_option maxHeartbeats 1000000 in
theorem Hear_kind (w : World) (p : Nat) (m1 m2 : Mac) (k : Int) (ab : Option Addr) (nb cb : Nat) (hk : k ≠ 2054) :
    Calls Try.prog 17 #[.pointer (some ⟨p, 0, none⟩), .agg (frC m1 m2 k (.slice ab nb cb))] w (HearNo w 3) := by
  obtain ⟨g3, hg3⟩ : ∃ g, w.heap.size = g := ⟨_, rfl⟩
  obtain ⟨W1, hW1⟩ : ∃ W, W = w.alloc (.cells (frC m1 m2 k (.slice ab nb cb)) 25) := ⟨_, rfl⟩
  have b1 : Below w.heap.size w W1 := by rw [hW1]; exact below_alloc (Below.refl _ _) (Nat.le_refl _) _
  have h13 : W1.heap[g3]? = some (.cells (frC m1 m2 k (.slice ab nb cb)) 25 (0, 0)) := by rw [hW1, ← hg3]; exact alloc_new w _
  have hck : W1.cell? ⟨g3, 12, none⟩ = some (.int .i64 k) := cell_of h13 rfl
  have hcb : W1.cell? ⟨g3, 13, none⟩ = some (.slice ab nb cb) := cell_of h13 rfl
  have HB1 := hid b1
  have HW := hW1.symm
  have hk' : (k != 2054) = true := by simpa using hk
  clear hW1 b1 h13 hk
  go_enter Try.func17, Try.ntmps17
  go_wp2
  go_ret2
  exact ⟨rfl, HB1.out⟩
set_option maxRecDepth 100000 in
set_option maxHeartbeats 1000000 in
theorem Hear_unread (w : World) (p : Nat) (m1 m2 : Mac) (ab : Option Addr) (nb cb : Nat) (E : Int) (hE : E ≠ 0) (hrm : ∀ W, Below w.heap.size w W → Calls Try.prog 33 #[.slice ab nb cb] W fun e w' => e = .returned (.tuple #[.agg msg0, .int .i64 E]) ∧ Below W.heap.size W w') :
    Calls Try.prog 17 #[.pointer (some ⟨p, 0, none⟩), .agg (frC m1 m2 2054 (.slice ab nb cb))] w (HearNo w E) := by
  obtain ⟨k, hk⟩ : ∃ k : Int, k = 2054 := ⟨_, rfl⟩
  rw [← hk]
  obtain ⟨g3, hg3⟩ : ∃ g, w.heap.size = g := ⟨_, rfl⟩
  obtain ⟨W1, hW1⟩ : ∃ W, W = w.alloc (.cells (frC m1 m2 k (.slice ab nb cb)) 25) := ⟨_, rfl⟩
  have b1 : Below w.heap.size w W1 := by rw [hW1]; exact below_alloc (Below.refl _ _) (Nat.le_refl _) _
  have h13 : W1.heap[g3]? = some (.cells (frC m1 m2 k (.slice ab nb cb)) 25 (0, 0)) := by rw [hW1, ← hg3]; exact alloc_new w _
  have hck : W1.cell? ⟨g3, 12, none⟩ = some (.int .i64 k) := cell_of h13 rfl
  have hcb : W1.cell? ⟨g3, 13, none⟩ = some (.slice ab nb cb) := cell_of h13 rfl
  have HB1 := hid b1
  have HW := hW1.symm
  subst hk
  have HRM := hid (hrm W1 b1)
  have hE' : (E != 0) = true := by simpa using hE
  clear hW1 b1 h13 hrm hE
  go_enter Try.func17, Try.ntmps17
  go_wp2_with (first
    | (go_at_call 33; refine HRM.out.mono ?_; rintro e w4 ⟨rfl, hb4⟩; obtain ⟨g6, hg6⟩ : ∃ g, w4.heap.size = g := ⟨_, rfl⟩; obtain ⟨W5, hW5, h5, W6, hW6, h6, hb6⟩ := box15 w4 (msg0) rfl msg0_one; have HB4 := hid (HB1.out.trans (hb4.mono HB1.out.size)); have HB6 := hid (HB4.out.trans (hb6.mono HB4.out.size)); rw [hg6] at h5 hW6 h6; have HG6 := hid hg6; have H5 := hid h5; have H6 := hid h6; have HW5 := hid hW5; have HW6 := hid hW6; clear hb4 hb6 h5 h6 hW5 hW6)
    | (rw [← HW5.out]; clear HW5; refine wpList_store_row rfl 76 _ _ rfl g6 (msg0) rfl rfl 76 _ H5.out sizeMsg rfl msg0_one ?_; rw [← HW6.out]; clear HW6))
  go_ret2
  exact ⟨rfl, HB6.out⟩
set_option maxRecDepth 100000 in
set_option maxHeartbeats 1000000 in
theorem Hear_far (w : World) (p gm : Nat) (vi : Value) (own : Mac) (ip : Int) (m1 m2 : Mac) (ab : Option Addr) (nb cb : Nat) (op : Int) (mS mT : Mac) (iS iT : Int) (hP : w.heap[p]? = some (.cells (peC own ip gm vi) 73 (0, 0))) (hfar : iT ≠ ip)
    (hrm : ∀ W, Below w.heap.size w W → Calls Try.prog 33 #[.slice ab nb cb] W fun e w' => e = .returned (.tuple #[.agg (msgC op mS iS mT iT), .int .i64 0]) ∧ Below W.heap.size W w') :
    Calls Try.prog 17 #[.pointer (some ⟨p, 0, none⟩), .agg (frC m1 m2 2054 (.slice ab nb cb))] w (HearNo w 18) := by
  obtain ⟨k, hk⟩ : ∃ k : Int, k = 2054 := ⟨_, rfl⟩
  rw [← hk]
  obtain ⟨g3, hg3⟩ : ∃ g, w.heap.size = g := ⟨_, rfl⟩
  obtain ⟨W1, hW1⟩ : ∃ W, W = w.alloc (.cells (frC m1 m2 k (.slice ab nb cb)) 25) := ⟨_, rfl⟩
  have b1 : Below w.heap.size w W1 := by rw [hW1]; exact below_alloc (Below.refl _ _) (Nat.le_refl _) _
  have h13 : W1.heap[g3]? = some (.cells (frC m1 m2 k (.slice ab nb cb)) 25 (0, 0)) := by rw [hW1, ← hg3]; exact alloc_new w _
  have hck : W1.cell? ⟨g3, 12, none⟩ = some (.int .i64 k) := cell_of h13 rfl
  have hcb : W1.cell? ⟨g3, 13, none⟩ = some (.slice ab nb cb) := cell_of h13 rfl
  have HB1 := hid b1
  have HW := hW1.symm
  subst hk
  have HRM := hid (hrm W1 b1)
  have HP := hid hP
  have hfar' : (iT != ip) = true := by simpa using hfar
  clear hW1 b1 h13 hrm hfar hP
  go_enter Try.func17, Try.ntmps17
  go_upto_region 6 with (first
    | (go_at_call 33; refine HRM.out.mono ?_; rintro e w4 ⟨rfl, hb4⟩; obtain ⟨g6, hg6⟩ : ∃ g, w4.heap.size = g := ⟨_, rfl⟩; obtain ⟨W5, hW5, h5, W6, hW6, h6, hb6⟩ := box15 w4 (msgC op mS iS mT iT) rfl (msgC_one _ _ _ _ _); have HB4 := hid (HB1.out.trans (hb4.mono HB1.out.size)); have HB6 := hid (HB4.out.trans (hb6.mono HB4.out.size)); rw [hg6] at h5 hW6 h6; have HG6 := hid hg6; have H5 := hid h5; have H6 := hid h6; have HW5 := hid hW5; have HW6 := hid hW6; have hpp6 := (HB6.out.block p (Array.getElem?_eq_some_iff.1 HP.out).1).trans HP.out; have cT := cell_of H6.out (i := 14) (v := .int .u32 iT) rfl; have cS := cell_of H6.out (i := 7) (v := .int .u32 iS) rfl; have cP := cell_of hpp6 (i := 6) (v := .int .u32 ip) rfl; have HP6 := hid hpp6; clear hpp6; clear hb4 hb6 h5 h6 hW5 hW6)
    | (rw [← HW5.out]; clear HW5; refine wpList_store_row rfl 76 _ _ rfl g6 (msgC op mS iS mT iT) rfl rfl 76 _ H5.out sizeMsg rfl (msgC_one _ _ _ _ _) ?_; rw [← HW6.out]; clear HW6))
  go_quiet (fail)
  go_wp2
  go_ret2
  exact ⟨rfl, below_drewN HB6.out _⟩
def HearOk (p : Nat) (S : Nat → Prop) (own : Mac) (ip : Int) (n : Nat) (L' : List Pe) (out : List Int) (w : World) (e : Ending) (w' : World) : Prop :=
  ∃ a c, e = .returned (.tuple #[.slice a out.length c, .int .i64 0]) ∧ out.length ≤ c ∧ By w' (New w) a out ∧ ∃ S' n', PeAt w' p S' own ip n' L' ∧ n' ≤ n + 1 ∧ Kp S w S' w' ∧ ∀ b, S' b → b < w'.heap.size
set_option maxRecDepth 100000 in
set_option maxHeartbeats 2000000 in
theorem Hear_two (w : World) (p n : Nat) (S : Nat → Prop) (own : Mac) (ip : Int) (L : List Pe) (m1 m2 : Mac) (ab : Option Addr) (nb cb : Nat) (mS mT : Mac) (iS iT : Int) (h : PeAt w p S own ip n L) (hS : ∀ b, S b → b < w.heap.size) (hnn : n < 1000000) (hmS : mS.ok) (hiS : IsU iS) (hnear : iT = ip)
    (hrm : ∀ W, Below w.heap.size w W → Calls Try.prog 33 #[.slice ab nb cb] W fun e w' => e = .returned (.tuple #[.agg (msgC 2 mS iS mT iT), .int .i64 0]) ∧ Below W.heap.size W w') :
    Calls Try.prog 17 #[.pointer (some ⟨p, 0, none⟩), .agg (frC m1 m2 2054 (.slice ab nb cb))] w (HearOk p S own ip n (learnL L iS mS) [] w) := by
  obtain ⟨k, hk⟩ : ∃ k : Int, k = 2054 := ⟨_, rfl⟩
  rw [← hk]
  obtain ⟨g3, hg3⟩ : ∃ g, w.heap.size = g := ⟨_, rfl⟩
  obtain ⟨W1, hW1⟩ : ∃ W, W = w.alloc (.cells (frC m1 m2 k (.slice ab nb cb)) 25) := ⟨_, rfl⟩
  have b1 : Below w.heap.size w W1 := by rw [hW1]; exact below_alloc (Below.refl _ _) (Nat.le_refl _) _
  have h13 : W1.heap[g3]? = some (.cells (frC m1 m2 k (.slice ab nb cb)) 25 (0, 0)) := by rw [hW1, ← hg3]; exact alloc_new w _
  have hck : W1.cell? ⟨g3, 12, none⟩ = some (.int .i64 k) := cell_of h13 rfl
  have hcb : W1.cell? ⟨g3, 13, none⟩ = some (.slice ab nb cb) := cell_of h13 rfl
  have HB1 := hid b1
  have HW := hW1.symm
  subst hk
  have HRM := hid (hrm W1 b1)
  have HPE := hid h
  have HNS : Hid (∀ b, S b → b < w.heap.size) := hid hS
  obtain ⟨_, gm, vi, hP, hmap, hrow⟩ := h
  have HP := hid hP
  have hnear' : (iT != ip) = false := by simpa using hnear
  have HMS := hid hmS
  have HIS := hid hiS
  have HNN := hid hnn
  have HGG := hid (show w.heap.size = g3 from hg3)
  clear hW1 b1 h13 hrm hnear hP hmap hrow hS hmS hiS hnn
  go_enter Try.func17, Try.ntmps17
  go_upto_region 6 with (first
    | (go_at_call 33; refine HRM.out.mono ?_; rintro e w4 ⟨rfl, hb4⟩; obtain ⟨g6, hg6⟩ : ∃ g, w4.heap.size = g := ⟨_, rfl⟩; obtain ⟨W5, hW5, h5, W6, hW6, h6, hb6⟩ := box15 w4 (msgC 2 mS iS mT iT) rfl (msgC_one _ _ _ _ _); have HB4 := hid (HB1.out.trans (hb4.mono HB1.out.size)); have HB6 := hid (HB4.out.trans (hb6.mono HB4.out.size)); rw [hg6] at h5 hW6 h6; have HG6 := hid hg6; have H5 := hid h5; have H6 := hid h6; have HW5 := hid hW5; have HW6 := hid hW6; have hpp6 := (HB6.out.block p (Array.getElem?_eq_some_iff.1 HP.out).1).trans HP.out; have cT := cell_of H6.out (i := 14) (v := .int .u32 iT) rfl; have cS := cell_of H6.out (i := 7) (v := .int .u32 iS) rfl; have cP := cell_of hpp6 (i := 6) (v := .int .u32 ip) rfl; have HP6 := hid hpp6; clear hpp6; clear hb4 hb6 h5 h6 hW5 hW6)
    | (rw [← HW5.out]; clear HW5; refine wpList_store_row rfl 76 _ _ rfl g6 (msgC 2 mS iS mT iT) rfl rfl 76 _ H5.out sizeMsg rfl (msgC_one _ _ _ _ _) ?_; rw [← HW6.out]; clear HW6))
  go_quiet (fail)
  obtain ⟨w7, hw7⟩ : ∃ w7, w7 = W6.drewN nq := ⟨_, rfl⟩
  have h76 : w7.heap[g6]? = some (.cells (msgC 2 mS iS mT iT) 76 (0, 0)) := by rw [hw7]; exact H6.out
  have hb7 : Below w.heap.size w w7 := by rw [hw7]; exact below_drewN HB6.out _
  rw [← hw7]
  clear hw7
  have hg6n : ¬ S g6 := fun e => by
    have h1 := HNS.out g6 e
    have h2 := HB4.out.size
    rw [HG6.out] at h2
    omega
  have HLN := hid (Learn_any w7 p n S own ip L iS mS (HPE.out.later hb7) (fun b hb => Nat.lt_of_lt_of_le (HNS.out b hb) hb7.size) HIS.out HMS.out HNN.out)
  have H76 := hid h76
  have HB7 := hid hb7
  have HN6 := hid hg6n
  have c77 := cell_of h76 (i := 7) (v := .int .u32 iS) rfl
  clear h76 hb7 hg6n cT cS cP
  go_wp2_with (first
    | (refine wpList_load_mid rfl 23 _ rfl g6 1 rfl [.int .u8 mS.a, .int .u8 mS.b, .int .u8 mS.c, .int .u8 mS.d, .int .u8 mS.e, .int .u8 mS.f] _ (rng H76.out 1 _ (range6 rfl rfl rfl rfl rfl rfl)) Try.underlying23 rfl size6 ?_)
    | (go_at_call 15; refine HLN.out.mono ?_; rintro e w8 ⟨rfl, S8, n8, hpe8, hn8, hk8, hs8⟩; have h86 := (hk8.block (Array.getElem?_eq_some_iff.1 H76.out).1 HN6.out).trans H76.out; have H86 := hid h86; have c80 := cell_of h86 (i := 0) (v := .int .i64 2) rfl; have HPE8 := hid hpe8; have HN8 := hid hn8; have HK8 := hid hk8; have HS8 := hid hs8; clear hpe8 hn8 hk8 hs8 h86 c77))
  go_ret2
  have hk := (Kp.below HB7.out).trans HK8.out
  exact ⟨none, 0, rfl, Nat.le_refl _, By.nil _ _ _, S8, n8, HPE8.out, HN8.out, hk, HS8.out⟩
set_option maxRecDepth 100000 in
set_option maxHeartbeats 2000000 in
theorem Hear_one (w : World) (p n : Nat) (S : Nat → Prop) (own : Mac) (ip : Int) (L : List Pe) (m1 m2 : Mac) (ab : Option Addr) (nb cb : Nat) (mS mT : Mac) (iS iT : Int) (h : PeAt w p S own ip n L) (hS : ∀ b, S b → b < w.heap.size) (hnn : n < 1000000) (hmS : mS.ok) (hiS : IsU iS) (hnear : iT = ip)
    (hrm : ∀ W, Below w.heap.size w W → Calls Try.prog 33 #[.slice ab nb cb] W fun e w' => e = .returned (.tuple #[.agg (msgC 1 mS iS mT iT), .int .i64 0]) ∧ Below W.heap.size W w') :
    Calls Try.prog 17 #[.pointer (some ⟨p, 0, none⟩), .agg (frC m1 m2 2054 (.slice ab nb cb))] w (HearOk p S own ip n (learnL L iS mS) (frL mS own 2054 (arpL 2 own ip mS iS)) w) := by
  obtain ⟨k, hk⟩ : ∃ k : Int, k = 2054 := ⟨_, rfl⟩
  rw [← hk]
  obtain ⟨g3, hg3⟩ : ∃ g, w.heap.size = g := ⟨_, rfl⟩
  obtain ⟨W1, hW1⟩ : ∃ W, W = w.alloc (.cells (frC m1 m2 k (.slice ab nb cb)) 25) := ⟨_, rfl⟩
  have b1 : Below w.heap.size w W1 := by rw [hW1]; exact below_alloc (Below.refl _ _) (Nat.le_refl _) _
  have h13 : W1.heap[g3]? = some (.cells (frC m1 m2 k (.slice ab nb cb)) 25 (0, 0)) := by rw [hW1, ← hg3]; exact alloc_new w _
  have hck : W1.cell? ⟨g3, 12, none⟩ = some (.int .i64 k) := cell_of h13 rfl
  have hcb : W1.cell? ⟨g3, 13, none⟩ = some (.slice ab nb cb) := cell_of h13 rfl
  have HB1 := hid b1
  have HW := hW1.symm
  subst hk
  have HRM := hid (hrm W1 b1)
  have HPE := hid h
  have HNS : Hid (∀ b, S b → b < w.heap.size) := hid hS
  obtain ⟨_, gm, vi, hP, hmap, hrow⟩ := h
  have HP := hid hP
  have hnear' : (iT != ip) = false := by simpa using hnear
  have HMS := hid hmS
  have HIS := hid hiS
  have HNN := hid hnn
  have HGG := hid (show w.heap.size = g3 from hg3)
  clear hW1 b1 h13 hrm hnear hP hmap hrow hS hmS hiS hnn
  go_enter Try.func17, Try.ntmps17
  go_upto_region 6 with (first
    | (go_at_call 33; refine HRM.out.mono ?_; rintro e w4 ⟨rfl, hb4⟩; obtain ⟨g6, hg6⟩ : ∃ g, w4.heap.size = g := ⟨_, rfl⟩; obtain ⟨W5, hW5, h5, W6, hW6, h6, hb6⟩ := box15 w4 (msgC 1 mS iS mT iT) rfl (msgC_one _ _ _ _ _); have HB4 := hid (HB1.out.trans (hb4.mono HB1.out.size)); have HB6 := hid (HB4.out.trans (hb6.mono HB4.out.size)); rw [hg6] at h5 hW6 h6; have HG6 := hid hg6; have H5 := hid h5; have H6 := hid h6; have HW5 := hid hW5; have HW6 := hid hW6; have hpp6 := (HB6.out.block p (Array.getElem?_eq_some_iff.1 HP.out).1).trans HP.out; have cT := cell_of H6.out (i := 14) (v := .int .u32 iT) rfl; have cS := cell_of H6.out (i := 7) (v := .int .u32 iS) rfl; have cP := cell_of hpp6 (i := 6) (v := .int .u32 ip) rfl; have HP6 := hid hpp6; clear hpp6; clear hb4 hb6 h5 h6 hW5 hW6)
    | (rw [← HW5.out]; clear HW5; refine wpList_store_row rfl 76 _ _ rfl g6 (msgC 1 mS iS mT iT) rfl rfl 76 _ H5.out sizeMsg rfl (msgC_one _ _ _ _ _) ?_; rw [← HW6.out]; clear HW6))
  go_quiet (fail)
  obtain ⟨w7, hw7⟩ : ∃ w7, w7 = W6.drewN nq := ⟨_, rfl⟩
  have h76 : w7.heap[g6]? = some (.cells (msgC 1 mS iS mT iT) 76 (0, 0)) := by rw [hw7]; exact H6.out
  have hb7 : Below w.heap.size w w7 := by rw [hw7]; exact below_drewN HB6.out _
  rw [← hw7]
  clear hw7
  have hg6n : ¬ S g6 := fun e => by
    have h1 := HNS.out g6 e
    have h2 := HB4.out.size
    rw [HG6.out] at h2
    omega
  have HLN := hid (Learn_any w7 p n S own ip L iS mS (HPE.out.later hb7) (fun b hb => Nat.lt_of_lt_of_le (HNS.out b hb) hb7.size) HIS.out HMS.out HNN.out)
  have H76 := hid h76
  have HB7 := hid hb7
  have HN6 := hid hg6n
  have c77 := cell_of h76 (i := 7) (v := .int .u32 iS) rfl
  clear h76 hb7 hg6n cT cS cP
  go_wp2_with (first
    | (refine wpList_load_mid rfl 23 _ rfl g6 1 rfl [.int .u8 mS.a, .int .u8 mS.b, .int .u8 mS.c, .int .u8 mS.d, .int .u8 mS.e, .int .u8 mS.f] _ (rng H76.out 1 _ (range6 rfl rfl rfl rfl rfl rfl)) Try.underlying23 rfl size6 ?_)
    | (go_at_call 15; refine HLN.out.mono ?_; rintro e w8 ⟨rfl, S8, n8, hpe8, hn8, hk8, hs8⟩; have h86 := (hk8.block (Array.getElem?_eq_some_iff.1 H76.out).1 HN6.out).trans H76.out; have H86 := hid h86; have c80 := cell_of h86 (i := 0) (v := .int .i64 1) rfl; have HPE8 := hid hpe8; have HN8 := hid hn8; have HK8 := hid hk8; have HS8 := hid hs8; clear hpe8 hn8 hk8 hs8 h86 c77; obtain ⟨⟨how8, hip8, _, _⟩, gm8, vi8, hP8, hR8⟩ := HPE8.out; have HSD := hid (said_any w8 p gm8 vi8 own ip 2 mS mS iS hP8 how8 hip8 (by omega) HMS.out HMS.out HIS.out); clear how8 hip8 hP8 hR8)
    | (refine wpList_load_mid rfl 23 _ rfl g6 1 rfl [.int .u8 mS.a, .int .u8 mS.b, .int .u8 mS.c, .int .u8 mS.d, .int .u8 mS.e, .int .u8 mS.f] _ (rng H86.out 1 _ (range6 rfl rfl rfl rfl rfl rfl)) Try.underlying23 rfl size6 ?_)
    | (refine wpList_load_mid rfl 70 _ rfl g6 1 rfl [.int .u8 mS.a, .int .u8 mS.b, .int .u8 mS.c, .int .u8 mS.d, .int .u8 mS.e, .int .u8 mS.f, .int .u32 iS] _ (rng H86.out 1 _ (range7 rfl rfl rfl rfl rfl rfl rfl)) Try.underlying70 rfl sizeHost ?_)
    | (go_at_call 34; refine HSD.out.mono ?_; rintro e w9 ⟨a9, c9, rfl, hy9, hc9, hb9⟩; have HY9 := hid hy9; have HC9 := hid hc9; have HB9 := hid hb9; clear hy9 hc9 hb9))
  go_ret2
  have hk := (Kp.below HB7.out).trans HK8.out
  refine ⟨a9, c9, by rw [frL_len, arpL_len]; rfl, by rw [frL_len, arpL_len]; exact HC9.out, HY9.out.weak (fun b hb _ => Nat.le_trans hk.2.size hb), S8, n8, HPE8.out.later HB9.out, HN8.out, hk.trans (Kp.below HB9.out), fun b hb => Nat.lt_of_lt_of_le (HS8.out b hb) HB9.out.size⟩
def HearPost (p : Nat) (S : Nat → Prop) (own : Mac) (ip : Int) (n : Nat) (L' : List Pe) (out : List Int) (E : Int) (w : World) (e : Ending) (w' : World) : Prop :=
  ∃ a c, e = .returned (.tuple #[.slice a out.length c, .int .i64 E]) ∧ out.length ≤ c ∧ By w' (New w) a out ∧ ∃ S' n', PeAt w' p S' own ip n' L' ∧ n' ≤ n + 1 ∧ Kp S w S' w' ∧ ∀ b, S' b → b < w'.heap.size
theorem Hear_any (w : World) (p n : Nat) (S : Nat → Prop) (own : Mac) (ip : Int) (L : List Pe) (m1 m2 : Mac) (k : Int) (ab : Option Addr) (nb cb : Nat) (l : List Int) (h : PeAt w p S own ip n L) (hS : ∀ b, S b → b < w.heap.size) (hnn : n < 1000000) (hl : l.length = nb) (hnc : nb ≤ cb) (hm : nb ≤ maxLen) (hb : Bytes w ab l) :
    Calls Try.prog 17 #[.pointer (some ⟨p, 0, none⟩), .agg (frC m1 m2 k (.slice ab nb cb))] w (HearPost p S own ip n (hearS ip k l L) (hearB own ip k l) (hearC ip k l) w) := by
  have hno : ∀ E, hearC ip k l = E → E ≠ 0 → ∀ e w', HearNo w E e w' → HearPost p S own ip n (hearS ip k l L) (hearB own ip k l) (hearC ip k l) w e w' := fun E he h0 e w' hw => by
    obtain ⟨rfl, hb⟩ := hw
    obtain ⟨e1, e2⟩ := hear_no (own := own) L (show hearC ip k l ≠ 0 by rw [he]; exact h0)
    rw [e1, e2, he]
    exact ⟨none, 0, rfl, Nat.le_refl _, By.nil _ _ _, S, n, h.later hb, by omega, Kp.below hb, fun b hb2 => Nat.lt_of_lt_of_le (hS b hb2) hb.size⟩
  by_cases hk : k = 2054
  case neg => exact (Hear_kind w p m1 m2 k ab nb cb hk).mono (hno 3 (hearC_kind hk) (by decide))
  subst hk
  by_cases hlen : l.length < 28
  · exact (Hear_unread w p m1 m2 ab nb cb 11 (by decide) (fun W _ => readMessage_cut W ab nb cb (by omega))).mono (hno 11 (hearC_cut hlen) (by decide))
  by_cases hbad : badM l
  · exact (Hear_unread w p m1 m2 ab nb cb 15 (by decide) (fun W hW => readMessage_bad W ab nb cb l hl (by omega) hnc hm (hb.later hW) hbad)).mono (hno 15 (hearC_bad hlen hbad) (by decide))
  have hrm : ∀ W, Below w.heap.size w W → _ := fun W hW => readMessage_ok W ab nb cb l hl (by omega) hnc hm (hb.later hW) hbad
  by_cases hfar : ipAt l 24 = ip
  case neg =>
    obtain ⟨_, gm, vi, hP, _⟩ := h
    exact (Hear_far w p gm vi own ip m1 m2 ab nb cb (opOf l) (macOf (l.drop 8)) (macOf (l.drop 18)) (ipAt l 14) (ipAt l 24) hP hfar hrm).mono (hno 18 (hearC_far hlen hbad hfar) (by decide))
  have h0 := hearC_ok hlen hbad hfar
  have hmS : (macOf (l.drop 8)).ok := macOf_ok _ (by simp; omega) (fun x hx => hb.isB x (List.mem_of_mem_drop hx))
  have hiS : IsU (ipAt l 14) := ipAt_bd l 14 hb.isB (by omega)
  have hop : opOf l = 1 ∨ opOf l = 2 := by
    rcases Classical.em (opOf l = 1) with h | h
    · exact .inl h
    · rcases Classical.em (opOf l = 2) with h' | h'
      · exact .inr h'
      · exact absurd (.inr ⟨h, h'⟩) hbad
  have eS : hearS ip 2054 l L = learnL L (ipAt l 14) (macOf (l.drop 8)) := by unfold hearS; rw [if_pos h0]
  rcases hop with hop | hop
  · have eB : hearB own ip 2054 l = frL (macOf (l.drop 8)) own 2054 (arpL 2 own ip (macOf (l.drop 8)) (ipAt l 14)) := by unfold hearB; rw [if_pos ⟨h0, hop⟩]
    rw [eS, eB, h0]
    rw [hop] at hrm
    exact Hear_one w p n S own ip L m1 m2 ab nb cb _ (macOf (l.drop 18)) _ (ipAt l 24) h hS hnn hmS hiS hfar hrm
  · have eB : hearB own ip 2054 l = [] := by unfold hearB; rw [if_neg (fun e => by rw [hop] at e; exact absurd e.2 (by decide))]
    rw [eS, eB, h0]
    rw [hop] at hrm
    exact Hear_two w p n S own ip L m1 m2 ab nb cb _ (macOf (l.drop 18)) _ (ipAt l 24) h hS hnn hmS hiS hfar hrm
end Go.Proofs.Ytlflbpemjlgdiaa
