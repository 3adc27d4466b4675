/- The readers and writers of package num at this program: numbers of 2 and 4 bytes, the highest byte first. -/
import Derived.Test.YtbfdkbdjipiliaaDoorWaB
namespace Go.Proofs.YtbfdkbdjipiliaaDoor
open Go.RowKit
set_option linter.unusedVariables false
theorem be_le (l : List Int) : beOf l = leOf l.reverse := by
  have : ∀ (l : List Int) (v : Int) , beOn v l = v * 256 ^ l.length + leOf l.reverse := by
    intro l
    induction l with
    | nil => intro v; simp [beOn, leOf]
    | cons x l ih =>
      intro v
      simp only [beOn, ih, List.reverse_cons, leOf_append, List.length_reverse, List.length_cons, Int.pow_succ, Int.add_mul]
      rw [Int.mul_assoc, Int.mul_comm 256, Int.mul_comm x]
      omega
  simpa [beOf] using this l 0
set_option maxHeartbeats 400000 in
theorem readHigh_any (b off cap n : Nat) (l : List Int) (w : World) (h : Bytes w (some ⟨b, off, none⟩) l) (hn : widB n = true) (hl : l.length = n) :
    Calls Tryd.prog 73 #[.slice (some ⟨b, off, none⟩) n cap] w fun e w' => e = .returned (.int .u64 (beOf l)) ∧ ∃ q, w' = w.drewN q := by
  have hI := h.isB
  rcases widB_cases hn with e | e | e | e
  · obtain rfl : n = 1 := by omega
    match l, hl with
    | [x0], _ =>
      have c0 : w.cell? ⟨b, off, none⟩ = some (.int .u8 x0) := by simpa using h.at_ 0 (by simp)
      have h0 := hI x0 (by simp)
      clear h hI hn e
      unfold IsB at *
      go_enter Tryd.func73, Tryd.ntmps73
      go_wp2
      go_ret
      refine ⟨ret_int ?_, 0, rfl⟩
      rw [or_zero_u64 _ (by omega) (by omega)]
      simp [beOf, beOn]
  · obtain rfl : n = 2 := by omega
    match l, hl with
    | [x0, x1], _ =>
      have c0 : w.cell? ⟨b, off, none⟩ = some (.int .u8 x0) := by simpa using h.at_ 0 (by simp)
      have c1 : w.cell? ⟨b, off + 1, none⟩ = some (.int .u8 x1) := by simpa using h.at_ 1 (by simp)
      have h0 := hI x0 (by simp)
      have h1 := hI x1 (by simp)
      clear h hI hn e
      unfold IsB at *
      go_enter Tryd.func73, Tryd.ntmps73
      go_wp2
      go_ret
      refine ⟨ret_int ?_, 0, rfl⟩
      rw [or_zero_u64 _ (by omega) (by omega), or_u64 8 _ x1 (by decide) (by omega) (by omega) (by omega) (by omega) (by omega)]
      simp only [beOf, beOn]; omega
  · obtain rfl : n = 4 := by omega
    match l, hl with
    | [x0, x1, x2, x3], _ =>
      have c0 : w.cell? ⟨b, off, none⟩ = some (.int .u8 x0) := by simpa using h.at_ 0 (by simp)
      have c1 : w.cell? ⟨b, off + 1, none⟩ = some (.int .u8 x1) := by simpa using h.at_ 1 (by simp)
      have c2 : w.cell? ⟨b, off + 2, none⟩ = some (.int .u8 x2) := by simpa using h.at_ 2 (by simp)
      have c3 : w.cell? ⟨b, off + 3, none⟩ = some (.int .u8 x3) := by simpa using h.at_ 3 (by simp)
      have h0 := hI x0 (by simp)
      have h1 := hI x1 (by simp)
      have h2 := hI x2 (by simp)
      have h3 := hI x3 (by simp)
      clear h hI hn e
      have hz := low4 x3 x2 x1 x0 h3 h2 h1 h0
      have HZ : Hid _ := hz
      clear hz
      unfold IsB at *
      go_enter Tryd.func73, Tryd.ntmps73
      go_wp2
      go_quiet (fail)
      go_wp2
      go_ret
      exact ⟨ret_int (HZ.out.trans (be_le [x0, x1, x2, x3]).symm), _, rfl⟩
  · obtain rfl : n = 8 := by omega
    match l, hl with
    | [x0, x1, x2, x3, x4, x5, x6, x7], _ =>
      have c0 : w.cell? ⟨b, off, none⟩ = some (.int .u8 x0) := by simpa using h.at_ 0 (by simp)
      have c1 : w.cell? ⟨b, off + 1, none⟩ = some (.int .u8 x1) := by simpa using h.at_ 1 (by simp)
      have c2 : w.cell? ⟨b, off + 2, none⟩ = some (.int .u8 x2) := by simpa using h.at_ 2 (by simp)
      have c3 : w.cell? ⟨b, off + 3, none⟩ = some (.int .u8 x3) := by simpa using h.at_ 3 (by simp)
      have c4 : w.cell? ⟨b, off + 4, none⟩ = some (.int .u8 x4) := by simpa using h.at_ 4 (by simp)
      have c5 : w.cell? ⟨b, off + 5, none⟩ = some (.int .u8 x5) := by simpa using h.at_ 5 (by simp)
      have c6 : w.cell? ⟨b, off + 6, none⟩ = some (.int .u8 x6) := by simpa using h.at_ 6 (by simp)
      have c7 : w.cell? ⟨b, off + 7, none⟩ = some (.int .u8 x7) := by simpa using h.at_ 7 (by simp)
      have h0 := hI x0 (by simp)
      have h1 := hI x1 (by simp)
      have h2 := hI x2 (by simp)
      have h3 := hI x3 (by simp)
      have h4 := hI x4 (by simp)
      have h5 := hI x5 (by simp)
      have h6 := hI x6 (by simp)
      have h7 := hI x7 (by simp)
      clear h hI hn e
      have hz := low8 x7 x6 x5 x4 x3 x2 x1 x0 h7 h6 h5 h4 h3 h2 h1 h0
      have HZ : Hid _ := hz
      clear hz
      unfold IsB at *
      go_enter Tryd.func73, Tryd.ntmps73
      go_wp2
      go_quiet (fail)
      go_wp2
      go_quiet (fail)
      go_wp2
      go_ret
      exact ⟨ret_int (HZ.out.trans (be_le [x0, x1, x2, x3, x4, x5, x6, x7]).symm), _, rfl⟩
set_option maxHeartbeats 400000 in
theorem numBe_any (a : Option Addr) (cap : Nat) (l : List Int) (at_ n : Int) (w : World) (hl : l.length ≤ maxLen) (hc : l.length ≤ cap) (h : Bytes w a l) :
    Calls Tryd.prog 69 #[.slice a l.length cap, .int .i64 at_, .int .i64 n] w fun e w' => e = .returned (.tuple #[.int .u64 (rdBe l at_ n), .int .i64 (rdErr l.length at_ n)]) ∧ ∃ q, w' = w.drewN q := by
  cases hn : widB n
  · obtain ⟨e1, _, e2⟩ := rd_no l at_ n hn
    rw [e1, e2]
    clear e1 e2
    go_enter Tryd.func69, Tryd.ntmps69
    go_wp2_with fail
    refine (piece_width _ _ _ _ _ _ hn).mono ?_
    rintro e w' ⟨rfl, rfl⟩
    go_wp2
    go_ret2
    exact ⟨rfl, 0, rfl⟩
  cases hi : insB l.length at_ n
  · obtain ⟨e1, _, e2⟩ := rd_out l at_ n hn hi
    rw [e1, e2]
    clear e1 e2
    go_enter Tryd.func69, Tryd.ntmps69
    go_wp2_with fail
    refine (piece_out _ _ _ _ _ _ hl hn hi).mono ?_
    rintro e w' ⟨rfl, rfl⟩
    go_wp2
    go_ret2
    exact ⟨rfl, 0, rfl⟩
  · obtain ⟨e1, _, e2⟩ := rd_yes l at_ n hn hi
    rw [e1, e2]
    clear e1 e2
    have hb : 1 ≤ n ∧ n ≤ 8 := by rcases widB_cases hn with e | e | e | e <;> omega
    simp [insB] at hi
    obtain ⟨p, rfl⟩ := Int.eq_ofNat_of_zero_le hi.1
    obtain ⟨m, rfl⟩ := Int.eq_ofNat_of_zero_le (show 0 ≤ n by omega)
    obtain ⟨b, off, rfl, _⟩ := h.open_ (by omega)
    have hcut := h.cut p m
    have hlen : ((l.drop p).take m).length = m := by simp; omega
    have HL : Hid _ := hlen
    have HN : Hid _ := hn
    obtain ⟨len, hlen2⟩ : ∃ len, l.length = len := ⟨_, rfl⟩
    rw [hlen2] at hl hc hi ⊢
    simp only [cutOf, Int.toNat_natCast]
    generalize (l.drop p).take m = c at *
    clear hlen hn h hlen2
    go_enter Tryd.func69, Tryd.ntmps69
    go_wp2_with fail
    refine (piece_yes b off len cap p m _ hl hc HN.out (by omega)).mono ?_
    rintro e w' ⟨rfl, rfl⟩
    go_wp2_with fail
    refine (readHigh_any _ _ _ _ c _ hcut HN.out HL.out).mono ?_
    rintro e w' ⟨rfl, q, rfl⟩
    go_wp2
    go_ret2
    exact ⟨rfl, _, rfl⟩
def bytesBe (n : Nat) (v : Int) : List Int := (List.range n).map fun i => v / 256 ^ (n - 1 - i) % 256
theorem len_be (n : Nat) (v : Int) : (bytesBe n v).length = n := by simp [bytesBe]
theorem getD_be (n : Nat) (v : Int) (j : Nat) (h : j < n) : (bytesBe n v).getD j 0 = v / 256 ^ (n - 1 - j) % 256 := by simp [bytesBe, List.getD, h]
set_option maxHeartbeats 400000 in
theorem writeHigh_2 (g N cap : Nat) (L : List Int) (v : Int) (hv : IsW v) (w : World) (hr : w.rowIs g 5 N (fun i => .int .u8 (L.getD i 0))) (hN : L.length + 2 ≤ N) :
    Calls Tryd.prog 62 #[.slice (some ⟨g, L.length, none⟩) 2 cap, .int .u64 v] w fun e w' => e = .returned (.tuple #[]) ∧ Below g w w' ∧ w'.heap.size = w.heap.size ∧
      w'.rowIs g 5 N (fun i => .int .u8 ((L ++ bytesBe 2 v).getD i 0)) := by
  unfold IsW at hv
  have HR := hid hr
  obtain ⟨p, hp⟩ : ∃ p, L.length = p := ⟨_, rfl⟩
  rw [hp] at hN ⊢
  obtain ⟨x0, c0⟩ : ∃ x, w.cell? ⟨g, p, none⟩ = some x := ⟨_, hr.cell (i := p) (by omega)⟩
  have f0 := hr.frozen (p)
  obtain ⟨x1, c1⟩ : ∃ x, w.cell? ⟨g, p + 1, none⟩ = some x := ⟨_, hr.cell (i := p + 1) (by omega)⟩
  have f1 := hr.frozen (p + 1)
  have HP := hid hp
  clear hp hr
  go_enter Tryd.func62, Tryd.ntmps62
  go_wp2
  go_end0
  refine ⟨rfl, (below_set (below_set (Below.refl _ _) _) _), by simp [World.setCell], ((HR.out.set (p) _).set (p + 1) _).congr fun i hi => ?_⟩
  rw [getD_app, HP.out]
  by_cases h1 : i < p
  · rw [if_pos h1]
    simp only [show ¬ i = p by omega, show ¬ i = p + 1 by omega, if_false]
  · rw [if_neg h1]
    obtain ⟨j, rfl⟩ : ∃ j, i = p + j := ⟨i - p, by omega⟩
    rw [Nat.add_sub_cancel_left]
    by_cases h2 : j < 2
    · rw [getD_be 2 v j h2]
      rcases (show j = 0 ∨ j = 1 by omega) with rfl | rfl <;> first | (simp; done) | (simp; omega)
    · rw [getD_out (bytesBe 2 v) j (by rw [len_be]; omega), getD_out L (p + j) (by rw [HP.out]; omega)]
      simp only [show ¬ p + j = p by omega, show ¬ p + j = p + 1 by omega, if_false]
set_option maxHeartbeats 400000 in
theorem writeHigh_4 (g N cap : Nat) (L : List Int) (v : Int) (hv : IsW v) (w : World) (hr : w.rowIs g 5 N (fun i => .int .u8 (L.getD i 0))) (hN : L.length + 4 ≤ N) :
    Calls Tryd.prog 62 #[.slice (some ⟨g, L.length, none⟩) 4 cap, .int .u64 v] w fun e w' => e = .returned (.tuple #[]) ∧ Below g w w' ∧ w'.heap.size = w.heap.size ∧
      w'.rowIs g 5 N (fun i => .int .u8 ((L ++ bytesBe 4 v).getD i 0)) := by
  unfold IsW at hv
  have HR := hid hr
  obtain ⟨p, hp⟩ : ∃ p, L.length = p := ⟨_, rfl⟩
  rw [hp] at hN ⊢
  obtain ⟨x0, c0⟩ : ∃ x, w.cell? ⟨g, p, none⟩ = some x := ⟨_, hr.cell (i := p) (by omega)⟩
  have f0 := hr.frozen (p)
  obtain ⟨x1, c1⟩ : ∃ x, w.cell? ⟨g, p + 1, none⟩ = some x := ⟨_, hr.cell (i := p + 1) (by omega)⟩
  have f1 := hr.frozen (p + 1)
  obtain ⟨x2, c2⟩ : ∃ x, w.cell? ⟨g, p + 2, none⟩ = some x := ⟨_, hr.cell (i := p + 2) (by omega)⟩
  have f2 := hr.frozen (p + 2)
  obtain ⟨x3, c3⟩ : ∃ x, w.cell? ⟨g, p + 3, none⟩ = some x := ⟨_, hr.cell (i := p + 3) (by omega)⟩
  have f3 := hr.frozen (p + 3)
  have HP := hid hp
  clear hp hr
  go_enter Tryd.func62, Tryd.ntmps62
  go_wp2
  go_end0
  refine ⟨rfl, (below_set (below_set (below_set (below_set (Below.refl _ _) _) _) _) _), by simp [World.setCell], ((((HR.out.set (p) _).set (p + 1) _).set (p + 2) _).set (p + 3) _).congr fun i hi => ?_⟩
  rw [getD_app, HP.out]
  by_cases h1 : i < p
  · rw [if_pos h1]
    simp only [show ¬ i = p by omega, show ¬ i = p + 1 by omega, show ¬ i = p + 2 by omega, show ¬ i = p + 3 by omega, if_false]
  · rw [if_neg h1]
    obtain ⟨j, rfl⟩ : ∃ j, i = p + j := ⟨i - p, by omega⟩
    rw [Nat.add_sub_cancel_left]
    by_cases h2 : j < 4
    · rw [getD_be 4 v j h2]
      rcases (show j = 0 ∨ j = 1 ∨ j = 2 ∨ j = 3 by omega) with rfl | rfl | rfl | rfl <;> first | (simp; done) | (simp; omega)
    · rw [getD_out (bytesBe 4 v) j (by rw [len_be]; omega), getD_out L (p + j) (by rw [HP.out]; omega)]
      simp only [show ¬ p + j = p by omega, show ¬ p + j = p + 1 by omega, show ¬ p + j = p + 2 by omega, show ¬ p + j = p + 3 by omega, if_false]
def outBe (b : List Int) (n : Nat) (l : List Int) : List Int := b ++ l.flatMap (bytesBe n)
theorem outBe_snoc (b : List Int) (n : Nat) (l : List Int) (k : Nat) (h : k < l.length) : outBe b n (l.take (k + 1)) = outBe b n (l.take k) ++ bytesBe n (l.getD k 0) := by
  rw [take_snoc l k h]; simp [outBe]
theorem outBe_len (b : List Int) (n : Nat) (l : List Int) : (outBe b n l).length = b.length + n * l.length := by
  unfold outBe
  induction l with
  | nil => simp
  | cons x l ih =>
    simp only [List.length_append, List.flatMap_cons, len_be, List.length_cons, Nat.mul_add] at *
    omega
theorem writeHigh_at2 (g N cap p : Nat) (L : List Int) (v : Int) (hv : IsW v) (w : World) (hr : w.rowIs g 5 N (fun i => .int .u8 (L.getD i 0))) (hp : L.length = p) (hN : p + 2 ≤ N) :
    Calls Tryd.prog 62 #[.slice (some ⟨g, p, none⟩) 2 cap, .int .u64 v] w fun e w' => e = .returned (.tuple #[]) ∧ Below g w w' ∧ w'.heap.size = w.heap.size ∧
      w'.rowIs g 5 N (fun i => .int .u8 ((L ++ bytesBe 2 v).getD i 0)) := by
  subst hp; exact writeHigh_2 g N cap L v hv w hr hN
set_option maxHeartbeats 400000 in
theorem putBe_2 (a a2 : Option Addr) (cap cap2 : Nat) (b l : List Int) (w : World) (hb : b.length ≤ 140737488351232) (hl : l.length ≤ 1099511627776) (h : Bytes w a b) (h2 : Words w a2 l) (hf : fitsB 2 l = true) :
    Calls Tryd.prog 50 #[.slice a b.length cap, .int .i64 2, .slice a2 l.length cap2] w fun e w' => e = .returned (.tuple #[.slice (some ⟨w.heap.size, 0, none⟩) (b.length + 2 * l.length) (b.length + 2 * l.length), .int .i64 0]) ∧
      Below w.heap.size w w' ∧ w'.heap.size = w.heap.size + 1 ∧ w'.rowIs w.heap.size 5 (b.length + 2 * l.length) (fun i => .int .u8 ((outBe b 2 l).getD i 0)) := by
  have HF := hid hf
  have HB := hid h
  have HW := hid h2
  clear hf h h2
  obtain ⟨ll, hll⟩ : ∃ ll, l.length = ll := ⟨_, rfl⟩
  have HL := hid hll
  go_enter Tryd.func50, Tryd.ntmps50
  go_wp2_with fail
  refine (isWidth_any _ _).mono ?_
  rintro e w' ⟨rfl, rfl⟩
  rw [show widB 2 = true from rfl]
  go_wp2_with fail
  rw [← hll]
  clear hll
  refine (allFit_2 _ _ _ _ (by omega) HW.out).mono ?_
  rintro e w' ⟨rfl, rfl⟩
  rw [HF.out, HL.out]
  rw [HL.out] at hl
  go_wp2_with fail
  refine (grown_int _ _ _ _ (2 * ll) _ (by omega) (by omega) (by omega) HB.out).mono ?_
  rintro e w1 ⟨rfl, hb1, hs1, hr1⟩
  have HB1 := hid hb1
  have HS1 := hid hs1
  have HR1 := hid hr1
  clear hb1 hs1 hr1
  go_wp2
  go_loopw [29] (fun i wr => ∃ k : Nat, k ≤ ll ∧ i = .int .i64 k ∧ Below w'.heap.size w' wr ∧ wr.heap.size = w'.heap.size + 1 ∧ wr.rowIs w'.heap.size 5 (b.length + 2 * ll) (fun i => .int .u8 ((outBe b 2 (l.take k)).getD i 0))) (fun i _ => ll - (intOf i).toNat)
  case atStart => exact ⟨0, Nat.zero_le _, rfl, HB1.out, HS1.out, HR1.out.congr fun i _ => by simp [outBe]⟩
  case round =>
    obtain ⟨k, hk, rfl, hb2, hs2, hr2⟩ := hrel
    have HB2 := hid hb2
    have HZ := hid hs2
    have HR2 := hid hr2
    clear HB1 HS1 HR1 hs2 hr2
    by_cases hlt : k < ll
    · have hkl : k < l.length := by rw [HL.out]; exact hlt
      obtain ⟨b2, off2, rfl, hcs⟩ := (HW.out.later hb2).open_ (by omega)
      have hc := hcs k hkl
      have hx := mem_getD l IsW HW.out.isW k hkl
      have HO := hid (outBe_snoc b 2 l k hkl)
      have HLL := hid (show (outBe b 2 (l.take k)).length = b.length + 2 * k by rw [outBe_len, List.length_take, Nat.min_eq_left (by omega)])
      generalize l.getD k 0 = x at *
      clear hcs hb2
      go_wp2_with fail
      refine (writeHigh_at2 _ _ _ _ _ _ hx _ HR2.out (by rw [HLL.out]; omega) (by omega)).mono ?_
      rintro e w2 ⟨rfl, hb3, hs3, hr3⟩
      have HB3 := hid hb3
      have HS3 := hid hs3
      have HR3 := hid hr3
      clear hb3 hs3 hr3
      go_wp2
      go_roundw
      case rel => exact ⟨k + 1, by omega, by go_num, HB2.out.trans HB3.out, HS3.out.trans HZ.out, by rw [HO.out]; exact HR3.out⟩
      case measure => simp [intOf]; omega
    · go_wp2
      go_ret2
      have e : l.take k = l := List.take_of_length_le (by rw [HL.out]; omega)
      rw [e] at HR2
      rw [HL.out]
      exact ⟨rfl, HB2.out, HZ.out, HR2.out⟩
theorem writeHigh_at4 (g N cap p : Nat) (L : List Int) (v : Int) (hv : IsW v) (w : World) (hr : w.rowIs g 5 N (fun i => .int .u8 (L.getD i 0))) (hp : L.length = p) (hN : p + 4 ≤ N) :
    Calls Tryd.prog 62 #[.slice (some ⟨g, p, none⟩) 4 cap, .int .u64 v] w fun e w' => e = .returned (.tuple #[]) ∧ Below g w w' ∧ w'.heap.size = w.heap.size ∧
      w'.rowIs g 5 N (fun i => .int .u8 ((L ++ bytesBe 4 v).getD i 0)) := by
  subst hp; exact writeHigh_4 g N cap L v hv w hr hN
set_option maxHeartbeats 400000 in
theorem putBe_4 (a a2 : Option Addr) (cap cap2 : Nat) (b l : List Int) (w : World) (hb : b.length ≤ 140737488351232) (hl : l.length ≤ 1099511627776) (h : Bytes w a b) (h2 : Words w a2 l) (hf : fitsB 4 l = true) :
    Calls Tryd.prog 50 #[.slice a b.length cap, .int .i64 4, .slice a2 l.length cap2] w fun e w' => e = .returned (.tuple #[.slice (some ⟨w.heap.size, 0, none⟩) (b.length + 4 * l.length) (b.length + 4 * l.length), .int .i64 0]) ∧
      Below w.heap.size w w' ∧ w'.heap.size = w.heap.size + 1 ∧ w'.rowIs w.heap.size 5 (b.length + 4 * l.length) (fun i => .int .u8 ((outBe b 4 l).getD i 0)) := by
  have HF := hid hf
  have HB := hid h
  have HW := hid h2
  clear hf h h2
  obtain ⟨ll, hll⟩ : ∃ ll, l.length = ll := ⟨_, rfl⟩
  have HL := hid hll
  go_enter Tryd.func50, Tryd.ntmps50
  go_wp2_with fail
  refine (isWidth_any _ _).mono ?_
  rintro e w' ⟨rfl, rfl⟩
  rw [show widB 4 = true from rfl]
  go_wp2_with fail
  rw [← hll]
  clear hll
  refine (allFit_4 _ _ _ _ (by omega) HW.out).mono ?_
  rintro e w' ⟨rfl, rfl⟩
  rw [HF.out, HL.out]
  rw [HL.out] at hl
  go_wp2_with fail
  refine (grown_int _ _ _ _ (4 * ll) _ (by omega) (by omega) (by omega) HB.out).mono ?_
  rintro e w1 ⟨rfl, hb1, hs1, hr1⟩
  have HB1 := hid hb1
  have HS1 := hid hs1
  have HR1 := hid hr1
  clear hb1 hs1 hr1
  go_wp2
  go_loopw [29] (fun i wr => ∃ k : Nat, k ≤ ll ∧ i = .int .i64 k ∧ Below w'.heap.size w' wr ∧ wr.heap.size = w'.heap.size + 1 ∧ wr.rowIs w'.heap.size 5 (b.length + 4 * ll) (fun i => .int .u8 ((outBe b 4 (l.take k)).getD i 0))) (fun i _ => ll - (intOf i).toNat)
  case atStart => exact ⟨0, Nat.zero_le _, rfl, HB1.out, HS1.out, HR1.out.congr fun i _ => by simp [outBe]⟩
  case round =>
    obtain ⟨k, hk, rfl, hb2, hs2, hr2⟩ := hrel
    have HB2 := hid hb2
    have HZ := hid hs2
    have HR2 := hid hr2
    clear HB1 HS1 HR1 hs2 hr2
    by_cases hlt : k < ll
    · have hkl : k < l.length := by rw [HL.out]; exact hlt
      obtain ⟨b2, off2, rfl, hcs⟩ := (HW.out.later hb2).open_ (by omega)
      have hc := hcs k hkl
      have hx := mem_getD l IsW HW.out.isW k hkl
      have HO := hid (outBe_snoc b 4 l k hkl)
      have HLL := hid (show (outBe b 4 (l.take k)).length = b.length + 4 * k by rw [outBe_len, List.length_take, Nat.min_eq_left (by omega)])
      generalize l.getD k 0 = x at *
      clear hcs hb2
      go_wp2_with fail
      refine (writeHigh_at4 _ _ _ _ _ _ hx _ HR2.out (by rw [HLL.out]; omega) (by omega)).mono ?_
      rintro e w2 ⟨rfl, hb3, hs3, hr3⟩
      have HB3 := hid hb3
      have HS3 := hid hs3
      have HR3 := hid hr3
      clear hb3 hs3 hr3
      go_wp2
      go_roundw
      case rel => exact ⟨k + 1, by omega, by go_num, HB2.out.trans HB3.out, HS3.out.trans HZ.out, by rw [HO.out]; exact HR3.out⟩
      case measure => simp [intOf]; omega
    · go_wp2
      go_ret2
      have e : l.take k = l := List.take_of_length_le (by rw [HL.out]; omega)
      rw [e] at HR2
      rw [HL.out]
      exact ⟨rfl, HB2.out, HZ.out, HR2.out⟩
set_option maxHeartbeats 400000 in
theorem putBe_no (a a2 : Option Addr) (cap cap2 : Nat) (n : Int) (b l : List Int) (w : World) (hl : l.length ≤ 1099511627776) (h2 : Words w a2 l) (hf : (widB n && fitsB n l) = false) :
    Calls Tryd.prog 50 #[.slice a b.length cap, .int .i64 n, .slice a2 l.length cap2] w fun e w' => e = .returned (.tuple #[.slice none 0 0, .int .i64 1]) ∧ w' = w := by
  cases hn : widB n
  · have HN := hid hn
    clear hn hf h2
    go_enter Tryd.func50, Tryd.ntmps50
    go_wp2_with fail
    refine (isWidth_any _ _).mono ?_
    rintro e w' ⟨rfl, rfl⟩
    rw [HN.out]
    go_wp2
    go_ret2
    exact ⟨rfl, rfl⟩
  · have HN := hid hn
    have HF := hid (show fitsB n l = false by simpa [hn] using hf)
    have HW := hid h2
    clear hn hf h2
    go_enter Tryd.func50, Tryd.ntmps50
    go_wp2_with fail
    refine (isWidth_any _ _).mono ?_
    rintro e w' ⟨rfl, rfl⟩
    rw [HN.out]
    go_wp2_with fail
    refine (allFit_any _ _ _ _ _ (by omega) HN.out HW.out).mono ?_
    rintro e w' ⟨rfl, rfl⟩
    rw [HF.out]
    go_wp2
    go_ret2
    exact ⟨rfl, rfl⟩
theorem outBe_uno (r : List Int) (n : Nat) (v : Int) : outBe r n [v] = r ++ bytesBe n v := by simp [outBe]
theorem be_isB (n : Nat) (v : Int) : ∀ x ∈ bytesBe n v, IsB x := by
  intro x hx
  simp [bytesBe] at hx
  obtain ⟨i, _, rfl⟩ := hx
  unfold IsB; omega
theorem numBe_at (a : Option Addr) (k cap : Nat) (l : List Int) (at_ n : Int) (w : World) (hk : l.length = k) (hl : l.length ≤ maxLen) (hc : k ≤ cap) (h : Bytes w a l) :
    Calls Tryd.prog 69 #[.slice a k cap, .int .i64 at_, .int .i64 n] w fun e w' => e = .returned (.tuple #[.int .u64 (rdBe l at_ n), .int .i64 (rdErr k at_ n)]) ∧ ∃ q, w' = w.drewN q := by
  subst hk; exact numBe_any a cap l at_ n w hl hc h
theorem be_back_2 (u : Int) (h0 : 0 ≤ u) (h1 : u < 65536) : beOf (bytesBe 2 u) = u := by
  simp [bytesBe, beOf, beOn, List.range, List.range.loop]; omega
theorem be_back_4 (u : Int) (h0 : 0 ≤ u) (h1 : u < 4294967296) : beOf (bytesBe 4 u) = u := by
  simp [bytesBe, beOf, beOn, List.range, List.range.loop]; omega
theorem take_be (n : Nat) (x : Int) (j : Nat) (h : j < n) : (bytesBe n x).take (j + 1) = (bytesBe n x).take j ++ [x / 256 ^ (n - 1 - j) % 256] := by
  rw [take_snoc _ j (by rw [len_be]; exact h), getD_be n x j h]
end Go.Proofs.YtbfdkbdjipiliaaDoor
