import Derived.Test.YtkmljnjikkmdhaaDoorRows
import Derived.Test.YtkmljnjikkmdhaaDoorWalkM
import Derived.Test.YtkmljnjikkmdhaaDoorWalkN
import Derived.WalkKit
import Derived.OpenShut
import Derived.WalkSpells
import Derived.WalkLawsBesides
import Derived.Deep.QuietTactic
import Derived.BigQuiet
/-
  The walk of NumBack: it returns true, and nothing old is changed. Conditions: the table is as the program lays it; at most 2^47 - 4096 bytes.
-/
namespace Go.Proofs.YtkmljnjikkmdhaaDoor
open Go.RowKit
set_option linter.unusedVariables false

theorem row_convN {w : World} {g N k : Nat} {l : List Int} (h : w.rowIs g 5 N (fun i => .int .u8 (l.getD i 0))) (m : List Int) (hm : m.length = k) (hk : k ≤ N) (hml : ∀ i, i < k → l.getD i 0 = m.getD i 0) : ∀ q : Nat, (convert 22 9 (.slice (some ⟨g, 0, none⟩) k N)).run Tryd.prog (w.drewN q) = .ok (.string (strOfNums m)) (w.drewN q) :=
  fun q => run_convert_bytes_arg (w.drewN q) 22 5 Tryd.underlying22 Tryd.underlying5 g 0 k N m hm (fun i hi => by rw [Nat.zero_add, ← hml i hi]; exact h.cell (Nat.lt_of_lt_of_le hi hk)) 9 Tryd.underlying9
theorem bytes_conv {w : World} {a : Option Addr} {cap k : Nat} {l : List Int} (h : Bytes w a l) (hk : l.length = k) : ∀ q : Nat, (convert 22 9 (.slice a k cap)).run Tryd.prog (w.drewN q) = .ok (.string (strOfNums l)) (w.drewN q) := by
  intro q
  subst hk
  by_cases h0 : l.length = 0
  · obtain rfl := List.eq_nil_of_length_eq_zero h0
    cases a with
    | none => exact run_convert_bytes_nil (w.drewN q) 22 5 Tryd.underlying22 Tryd.underlying5 0 cap 9 Tryd.underlying9
    | some a =>
      show (convert 22 9 (.slice (some a) 0 cap)).run Tryd.prog (w.drewN q) = _
      rw [run_convert_bytes_string (w.drewN q) 22 9 5 _ _ cap Tryd.underlying22 Tryd.underlying5 Tryd.underlying9, run_bytesToString (w.drewN q) a 0 cap [] (by simpa using run_loadCells_list (P := Tryd.prog) (w.drewN q) a [] (fun j v hj => by simp at hj))]
      rfl
  · obtain ⟨b, off, rfl, hc⟩ := h.open_ (by omega)
    exact run_convert_bytes_arg (w.drewN q) 22 5 Tryd.underlying22 Tryd.underlying5 b off l.length cap l rfl (fun i hi => hc i hi) 9 Tryd.underlying9
theorem putLe_at2 (a a2 : Option Addr) (cap cap2 k n : Nat) (b l : List Int) (w : World) (hk : b.length = k) (hb : b.length ≤ 140737488351232) (hl : l.length ≤ 1099511627776) (h : Bytes w a b) (h2 : Words w a2 l) (hn : widB n = true) (hf : fitsB n l = true) :
    Calls Tryd.prog 16 #[.slice a k cap, .int .i64 n, .slice a2 l.length cap2] w fun e w' => e = .returned (.tuple #[.slice (some ⟨w.heap.size, 0, none⟩) (k + n * l.length) (k + n * l.length), .int .i64 0]) ∧
      Below w.heap.size w w' ∧ w'.heap.size = w.heap.size + 1 ∧ w'.rowIs w.heap.size 5 (k + n * l.length) (fun i => .int .u8 ((outLe b n l).getD i 0)) := by
  subst hk; exact putLe_yes a a2 cap cap2 n b l w hb hl h h2 hn hf
theorem outLe_two (r : List Int) (n : Nat) (v : Int) : outLe r n [v, v] = r ++ (bytesLe n v ++ bytesLe n v) := by simp [outLe]
theorem outBe_uno (r : List Int) (n : Nat) (v : Int) : outBe r n [v] = r ++ bytesBe n v := by simp [outBe]
theorem le_isB (n : Nat) (v : Int) : ∀ x ∈ bytesLe n v, IsB x := by
  intro x hx
  simp [bytesLe] at hx
  obtain ⟨i, _, rfl⟩ := hx
  unfold IsB; omega
theorem be_isB (n : Nat) (v : Int) : ∀ x ∈ bytesBe n v, IsB x := by
  intro x hx
  simp [bytesBe] at hx
  obtain ⟨i, _, rfl⟩ := hx
  unfold IsB; omega
theorem wrap_small (j : Int) (h0 : 0 ≤ j) (h1 : j < 9223372036854775808) : IntKind.i64.wrap j = j := by
  simp [IntKind.wrap, IntKind.bits, IntKind.signed]; omega
theorem cut_run (g N k : Nat) (h : k ≤ N) (W : World) : (Instr.slice 22 (.slice (some ⟨g, 0, none⟩) N N) none (some (.int .i64 k)) none).run Tryd.prog W = .ok (.slice (some ⟨g, 0, none⟩) k N) W := by
  have hz : (sizeOf 5).run Tryd.prog W = .ok 1 W := by kernel_rfl
  rw [run_slice_h (P := Tryd.prog) W 22 (some ⟨g, 0, none⟩) N N Tryd.underlying22 .i64 k (by omega) (by omega)]
  have e : Tryd.prog.elem 22 = 5 := by kernel_rfl
  rw [e, hz]
  simp [sliced, Addr.add]
theorem numLe_at (a : Option Addr) (k cap : Nat) (l : List Int) (at_ n : Int) (w : World) (hk : l.length = k) (hl : l.length ≤ maxLen) (hc : k ≤ cap) (h : Bytes w a l) :
    Calls Tryd.prog 10 #[.slice a k cap, .int .i64 at_, .int .i64 n] w fun e w' => e = .returned (.tuple #[.int .u64 (rdLe l at_ n), .int .i64 (rdErr k at_ n)]) ∧ ∃ q, w' = w.drewN q := by
  subst hk; exact numLe_any a cap l at_ n w hl hc h
theorem numBe_at (a : Option Addr) (k cap : Nat) (l : List Int) (at_ n : Int) (w : World) (hk : l.length = k) (hl : l.length ≤ maxLen) (hc : k ≤ cap) (h : Bytes w a l) :
    Calls Tryd.prog 11 #[.slice a k cap, .int .i64 at_, .int .i64 n] w fun e w' => e = .returned (.tuple #[.int .u64 (rdBe l at_ n), .int .i64 (rdErr k at_ n)]) ∧ ∃ q, w' = w.drewN q := by
  subst hk; exact numBe_any a cap l at_ n w hl hc h
theorem getD_mid (r m t : List Int) (i : Nat) (hi : i < m.length) : (r ++ (m ++ t)).getD (r.length + i) 0 = m.getD i 0 := by
  rw [getD_app, if_neg (by omega), Nat.add_sub_cancel_left, getD_app, if_pos hi]
theorem cut_mid (r m t : List Int) : cutOf (r ++ (m ++ t)) r.length m.length = m := by
  unfold cutOf; simp

theorem le_back_1 (u : Int) (h0 : 0 ≤ u) (h1 : u < 256) : leOf (bytesLe 1 u) = u := by
  simp [bytesLe, leOf, List.range, List.range.loop]; omega
theorem be_back_1 (u : Int) (h0 : 0 ≤ u) (h1 : u < 256) : beOf (bytesBe 1 u) = u := by
  simp [bytesBe, beOf, beOn, List.range, List.range.loop]; omega
set_option maxRecDepth 100000 in
set_option maxHeartbeats 1000000 in
theorem numBack_1 (a : Option Addr) (cap : Nat) (l : List Int) (v size : Int) (w : World) (hl : l.length ≤ 140737488351232) (hc : l.length ≤ cap) (h : Bytes w a l) (hT : Tab w) (hv : IsW v) (hs : (IntKind.u64.wrap size).tmod 4 = 0) :
    Calls Tryd.prog 6 #[.slice a l.length cap, .int .u64 v, .int .i64 size] w fun e w' => e = .returned (.bool true) ∧ Below w.heap.size w w' := by
  have HT := hid hT
  have HB := hid h
  clear h hT
  unfold IsW at hv
  obtain ⟨u, hu⟩ : ∃ u, bits .and .u64 v 255 = u := ⟨_, rfl⟩
  have hu2 : u = v % 256 := by
    rw [← hu, u64_and v 255 hv.1 hv.2 (by decide) (by decide)]
    have : v.toNat &&& (255 : Int).toNat = v.toNat % 256 := Nat.and_two_pow_sub_one_eq_mod v.toNat 8
    rw [this]; omega
  have hu0 : 0 ≤ u := by omega
  have hu1 : u < 256 := by omega
  clear hu2
  obtain ⟨len, hlen⟩ : ∃ len, l.length = len := ⟨_, rfl⟩
  have HL := hid hlen
  rw [hlen] at hl hc ⊢
  clear hlen
  go_enter Tryd.func6, Tryd.ntmps6
  go_wp2_with fail
  refine (known_any _ HT.out).mono ?_
  rintro e w1 ⟨rfl, hb1⟩
  have HB1 := hid hb1
  have HBy := hid (HB.out.later hb1)
  clear hb1
  go_wp2_with fail
  refine (putLe_at2 a (some ⟨w1.heap.size + 1, 0, none⟩) cap 2 len 1 l [u, u] _ HL.out ?_ ?_ ?_ ?_ ?_ ?_).mono ?_
  · rw [HL.out]; exact hl
  · simp
  · exact HBy.out.later (((Below.refl _ _).alloc (Nat.le_refl _) _).alloc (by simp) _)
  · have hw := words_new (w1.alloc (Obj.cells #[Value.int IntKind.i64 1, Value.int IntKind.i64 2, Value.int IntKind.i64 4, Value.int IntKind.i64 8] 3)) [u, u] (by simp [IsW]; omega)
    simpa using hw
  · decide
  · simp [fitsB, fitB]; omega
  rintro e w3 ⟨rfl, hb3, hs3, hr3⟩
  have hgz : ((w1.alloc (Obj.cells #[Value.int IntKind.i64 1, Value.int IntKind.i64 2, Value.int IntKind.i64 4, Value.int IntKind.i64 8] 3)).alloc (Obj.cells #[Value.int IntKind.u64 u, Value.int IntKind.u64 u] 24)).heap.size = w1.heap.size + 1 + 1 := by simp
  rw [hgz] at hb3 hs3 hr3
  have HB13 := hid ((((Below.refl w1.heap.size w1).alloc (Nat.le_refl _) (Obj.cells #[Value.int IntKind.i64 1, Value.int IntKind.i64 2, Value.int IntKind.i64 4, Value.int IntKind.i64 8] 3)).alloc (by simp) (Obj.cells #[Value.int IntKind.u64 u, Value.int IntKind.u64 u] 24)).trans (hb3.mono (by omega)))
  have hz3 : w1.heap.size ≤ w3.heap.size := HB13.out.size
  rw [outLe_two] at hr3
  have HR3 := hid hr3
  clear hgz hb3 hs3 hr3
  go_wp2_with fail
  refine (putBe_at2 a (some ⟨w3.heap.size, 0, none⟩) cap 1 len 1 l [u] _ HL.out ?_ ?_ ?_ ?_ ?_ ?_).mono ?_
  · rw [HL.out]; exact hl
  · simp
  · exact (HBy.out.later HB13.out).later ((Below.refl _ _).alloc (Nat.le_refl _) _)
  · have hw := words_new w3 [u] (by simp [IsW]; omega)
    simpa using hw
  · decide
  · simp [fitsB, fitB]; omega
  rintro e w4 ⟨rfl, hb4, hs4, hr4⟩
  have hgz : (w3.alloc (Obj.cells (List.map (fun x => Value.int IntKind.u64 x) [u]).toArray 24)).heap.size = w3.heap.size + 1 := by simp
  have hgz2 : (w3.alloc (Obj.cells #[Value.int IntKind.u64 u] 24)).heap.size = w3.heap.size + 1 := by simp
  rw [hgz2] at hb4 hs4 hr4
  have HB34 := hid (((Below.refl w3.heap.size w3).alloc (Nat.le_refl _) (Obj.cells #[Value.int IntKind.u64 u] 24)).trans (hb4.mono (by omega)))
  rw [outBe_uno] at hr4
  have HR4 := hid hr4
  have HR34 := hid (rowIs_later HR3.out HB34.out)
  have HB14 := hid (HB13.out.trans (HB34.out.mono hz3))
  have cv1 : ∀ q : Nat, (convert 22 9 (.slice (some ⟨w1.heap.size + 1 + 1, 0, none⟩) len (len + 2))).run Tryd.prog (w4.drewN q) = .ok (.string (strOfNums l)) (w4.drewN q) := row_convN HR34.out l HL.out (by omega) (fun i hi => by rw [getD_app, if_pos (by rw [HL.out]; exact hi)])
  have cv2 := bytes_conv (cap := cap) (HBy.out.later HB14.out) HL.out
  clear hgz hgz2 hb4 hs4 hr4
  have hcut := cut_run (w1.heap.size + 1 + 1) (len + 2) len (by omega)
  have q1 : IntKind.i64.wrap 2 = 2 := by decide
  have q2 : IntKind.i64.wrap (↑len + 2) = ↑len + 2 := wrap_small _ (by omega) (by omega)
  have q3 : IntKind.i64.wrap (↑len + 1) = ↑len + 1 := wrap_small _ (by omega) (by omega)
  go_wp2_with fail
  go_quiet (fail)
  go_wp2_with fail
  clear hcut cv1 cv2 q1 q2
  go_loopw [12] (fun i wr => ∃ k q : Nat, k ≤ 1 ∧ i = .int .i64 k ∧ wr = w4.drewN q) (fun i _ => 1 - (intOf i).toNat)
  case atStart => exact ⟨0, _, Nat.zero_le _, rfl, rfl⟩
  case round =>
    obtain ⟨k, q, hk, rfl, rfl⟩ := hrel
    by_cases hlt : k < 1
    · obtain ⟨z, hz⟩ : ∃ z, (bytesLe 1 u).getD k 0 = z := ⟨_, rfl⟩
      have cx : w4.cell? ⟨w1.heap.size + 1 + 1, len + k, none⟩ = some (.int .u8 z) := by
        have := HR34.out.cell (i := len + k) (by simp; omega)
        rw [this, ← hz, ← HL.out, getD_mid l (bytesLe 1 u) _ k (by rw [len_le]; exact hlt)]
      obtain ⟨j, hj⟩ : ∃ j, j + k = 1 - 1 := ⟨1 - 1 - k, by omega⟩
      have cy : w4.cell? ⟨w3.heap.size + 1, len + j, none⟩ = some (.int .u8 z) := by
        have := HR4.out.cell (i := len + j) (by simp; omega)
        rw [this, ← hz, getD_le _ _ _ hlt]
        have e := getD_mid l (bytesBe 1 u) [] j (by rw [len_be]; omega)
        rw [List.append_nil, HL.out] at e
        rw [e, getD_be _ _ _ (by omega), show 1 - 1 - j = k by omega]
      have r1 : IntKind.i64.wrap (↑len + ↑k) = ↑len + ↑k := wrap_small _ (by omega) (by omega)
      have r2 : IntKind.i64.wrap (↑len + 1 - 1) = ↑len + 0 := by rw [wrap_small _ (by omega) (by omega)]; omega
      have r3 : IntKind.i64.wrap (↑len + 0) = ↑len + 0 := wrap_small _ (by omega) (by omega)
      have r4 : IntKind.i64.wrap (↑len + 0 - ↑k) = ↑len + ↑j := by rw [wrap_small _ (by omega) (by omega)]; omega
      have r5 : IntKind.i64.wrap (↑len) = ↑len := wrap_small _ (by omega) (by omega)
      have r6 : IntKind.i64.wrap (↑len - ↑k) = ↑len + ↑j := by rw [wrap_small _ (by omega) (by omega)]; omega
      have b1 : (0 : Int) ≤ ↑len + ↑k := by omega
      have b2 : (k : Int) < 2 := by omega
      have b3 : (↑len : Int) + ↑k < ↑len + 2 := by omega
      have b4 : (0 : Int) ≤ ↑len + ↑j := by omega
      have b5 : (j : Int) < 1 := by omega
      have b6 : (↑len : Int) + ↑j < ↑len + 1 := by omega
      have hkn : (k : Int) < 1 := by omega
      clear hz hj
      go_wp2
      go_quiet (fail)
      go_wp2
      go_roundw
      case rel => exact ⟨k + 1, _, by omega, by go_num, rfl⟩
      case measure => simp [intOf]; omega
    · clear HT HB
      have hXl : (l ++ (bytesLe 1 u ++ bytesLe 1 u)).length = len + 2 := by rw [List.length_append, List.length_append, len_le, HL.out]
      have hYl : (l ++ bytesBe 1 u).length = len + 1 := by rw [List.length_append, len_be, HL.out]
      have hIl : ∀ x ∈ l, IsB x := HBy.out.isB
      have HX := hid (row_bytes HR34.out (by rw [hXl]; simp) (fun x hx => by
        rcases List.mem_append.1 hx with h | h
        · exact hIl x h
        · rcases List.mem_append.1 h with h | h <;> exact le_isB _ _ x h))
      have HY := hid (row_bytes HR4.out (by rw [hYl]; simp) (fun x hx => by
        rcases List.mem_append.1 hx with h | h
        · exact hIl x h
        · exact be_isB _ _ x h))
      have hXm : (l ++ (bytesLe 1 u ++ bytesLe 1 u)).length ≤ maxLen := by rw [hXl]; unfold maxLen; omega
      have hYm : (l ++ bytesBe 1 u).length ≤ maxLen := by rw [hYl]; unfold maxLen; omega
      have E1 := hid (show rdErr (len + 2) (↑len + 1) 1 = 0 by simp [rdErr, widB, insB]; omega)
      have E2 := hid (show rdLe (l ++ (bytesLe 1 u ++ bytesLe 1 u)) (↑len + 1) 1 = u by
        rw [(rd_yes _ _ _ (by decide) (by rw [hXl]; simp [insB]; omega)).2.1]
        have e := cut_mid (l ++ bytesLe 1 u) (bytesLe 1 u) []
        rw [List.append_nil, List.append_assoc, List.length_append, len_le, HL.out] at e
        have e2 : (((len + 1 : Nat)) : Int) = (↑len + 1) := by omega
        rw [e2] at e
        rw [show ((1 : Nat) : Int) = 1 from rfl] at e
        rw [e, le_back_1 _ hu0 hu1])
      have E3 := hid (show rdErr (len + 1) (↑len) 1 = 0 by simp [rdErr, widB, insB])
      have E4 := hid (show rdBe (l ++ bytesBe 1 u) (↑len) 1 = u by
        rw [(rd_yes _ _ _ (by decide) (by rw [hYl]; simp [insB])).2.2]
        have e := cut_mid l (bytesBe 1 u) []
        rw [List.append_nil, len_be, HL.out] at e
        rw [show ((1 : Nat) : Int) = 1 from rfl] at e
        rw [e, be_back_1 _ hu0 hu1])
      have E5 := hid (show rdErr (len + 1) (↑len + 1) 1 = 11 by simp [rdErr, widB, insB]; omega)
      have HXl := hid hXl
      have HYl := hid hYl
      clear hXl hYl hIl
      go_wp2_with fail
      have hcon := numLe_at (some ⟨w1.heap.size + 1 + 1, 0, none⟩) (len + 2) (len + 2) (l ++ (bytesLe 1 u ++ bytesLe 1 u)) ((len : Int) + 1) 1 (w4.drewN q) HXl.out hXm (Nat.le_refl _) (HX.out.drewN _)
      refine hcon.mono ?_
      clear hcon
      rintro e w5 ⟨rfl, q5, rfl⟩
      rw [E1.out, E2.out]
      go_wp2_with fail
      have hcon := fun q => numBe_at (some ⟨w3.heap.size + 1, 0, none⟩) (len + 1) (len + 1) (l ++ bytesBe 1 u) ((len : Int)) 1 (w4.drewN q) HYl.out hYm (Nat.le_refl _) (HY.out.drewN _)
      refine (hcon _).mono ?_
      clear hcon
      rintro e w5 ⟨rfl, q6, rfl⟩
      rw [E3.out, E4.out]
      go_wp2_with fail
      have hcon := fun q => numBe_at (some ⟨w3.heap.size + 1, 0, none⟩) (len + 1) (len + 1) (l ++ bytesBe 1 u) ((len : Int) + 1) 1 (w4.drewN q) HYl.out hYm (Nat.le_refl _) (HY.out.drewN _)
      refine (hcon _).mono ?_
      clear hcon
      rintro e w5 ⟨rfl, q7, rfl⟩
      rw [E5.out]
      go_wp2
      go_ret
      refine ⟨rfl, below_drewN (HB1.out.trans (HB14.out.mono HB1.out.size)) _⟩

theorem le_back_2 (u : Int) (h0 : 0 ≤ u) (h1 : u < 65536) : leOf (bytesLe 2 u) = u := by
  simp [bytesLe, leOf, List.range, List.range.loop]; omega
theorem be_back_2 (u : Int) (h0 : 0 ≤ u) (h1 : u < 65536) : beOf (bytesBe 2 u) = u := by
  simp [bytesBe, beOf, beOn, List.range, List.range.loop]; omega
set_option maxRecDepth 100000 in
set_option maxHeartbeats 1000000 in
theorem numBack_2 (a : Option Addr) (cap : Nat) (l : List Int) (v size : Int) (w : World) (hl : l.length ≤ 140737488351232) (hc : l.length ≤ cap) (h : Bytes w a l) (hT : Tab w) (hv : IsW v) (hs : (IntKind.u64.wrap size).tmod 4 = 1) :
    Calls Tryd.prog 6 #[.slice a l.length cap, .int .u64 v, .int .i64 size] w fun e w' => e = .returned (.bool true) ∧ Below w.heap.size w w' := by
  have HT := hid hT
  have HB := hid h
  clear h hT
  unfold IsW at hv
  obtain ⟨u, hu⟩ : ∃ u, bits .and .u64 v 65535 = u := ⟨_, rfl⟩
  have hu2 : u = v % 65536 := by
    rw [← hu, u64_and v 65535 hv.1 hv.2 (by decide) (by decide)]
    have : v.toNat &&& (65535 : Int).toNat = v.toNat % 65536 := Nat.and_two_pow_sub_one_eq_mod v.toNat 16
    rw [this]; omega
  have hu0 : 0 ≤ u := by omega
  have hu1 : u < 65536 := by omega
  clear hu2
  obtain ⟨len, hlen⟩ : ∃ len, l.length = len := ⟨_, rfl⟩
  have HL := hid hlen
  rw [hlen] at hl hc ⊢
  clear hlen
  go_enter Tryd.func6, Tryd.ntmps6
  go_wp2_with fail
  refine (known_any _ HT.out).mono ?_
  rintro e w1 ⟨rfl, hb1⟩
  have HB1 := hid hb1
  have HBy := hid (HB.out.later hb1)
  clear hb1
  go_wp2_with fail
  refine (putLe_at2 a (some ⟨w1.heap.size + 1, 0, none⟩) cap 2 len 2 l [u, u] _ HL.out ?_ ?_ ?_ ?_ ?_ ?_).mono ?_
  · rw [HL.out]; exact hl
  · simp
  · exact HBy.out.later (((Below.refl _ _).alloc (Nat.le_refl _) _).alloc (by simp) _)
  · have hw := words_new (w1.alloc (Obj.cells #[Value.int IntKind.i64 1, Value.int IntKind.i64 2, Value.int IntKind.i64 4, Value.int IntKind.i64 8] 3)) [u, u] (by simp [IsW]; omega)
    simpa using hw
  · decide
  · simp [fitsB, fitB]; omega
  rintro e w3 ⟨rfl, hb3, hs3, hr3⟩
  have hgz : ((w1.alloc (Obj.cells #[Value.int IntKind.i64 1, Value.int IntKind.i64 2, Value.int IntKind.i64 4, Value.int IntKind.i64 8] 3)).alloc (Obj.cells #[Value.int IntKind.u64 u, Value.int IntKind.u64 u] 24)).heap.size = w1.heap.size + 1 + 1 := by simp
  rw [hgz] at hb3 hs3 hr3
  have HB13 := hid ((((Below.refl w1.heap.size w1).alloc (Nat.le_refl _) (Obj.cells #[Value.int IntKind.i64 1, Value.int IntKind.i64 2, Value.int IntKind.i64 4, Value.int IntKind.i64 8] 3)).alloc (by simp) (Obj.cells #[Value.int IntKind.u64 u, Value.int IntKind.u64 u] 24)).trans (hb3.mono (by omega)))
  have hz3 : w1.heap.size ≤ w3.heap.size := HB13.out.size
  rw [outLe_two] at hr3
  have HR3 := hid hr3
  clear hgz hb3 hs3 hr3
  go_wp2_with fail
  refine (putBe_at2 a (some ⟨w3.heap.size, 0, none⟩) cap 1 len 2 l [u] _ HL.out ?_ ?_ ?_ ?_ ?_ ?_).mono ?_
  · rw [HL.out]; exact hl
  · simp
  · exact (HBy.out.later HB13.out).later ((Below.refl _ _).alloc (Nat.le_refl _) _)
  · have hw := words_new w3 [u] (by simp [IsW]; omega)
    simpa using hw
  · decide
  · simp [fitsB, fitB]; omega
  rintro e w4 ⟨rfl, hb4, hs4, hr4⟩
  have hgz : (w3.alloc (Obj.cells (List.map (fun x => Value.int IntKind.u64 x) [u]).toArray 24)).heap.size = w3.heap.size + 1 := by simp
  have hgz2 : (w3.alloc (Obj.cells #[Value.int IntKind.u64 u] 24)).heap.size = w3.heap.size + 1 := by simp
  rw [hgz2] at hb4 hs4 hr4
  have HB34 := hid (((Below.refl w3.heap.size w3).alloc (Nat.le_refl _) (Obj.cells #[Value.int IntKind.u64 u] 24)).trans (hb4.mono (by omega)))
  rw [outBe_uno] at hr4
  have HR4 := hid hr4
  have HR34 := hid (rowIs_later HR3.out HB34.out)
  have HB14 := hid (HB13.out.trans (HB34.out.mono hz3))
  have cv1 : ∀ q : Nat, (convert 22 9 (.slice (some ⟨w1.heap.size + 1 + 1, 0, none⟩) len (len + 4))).run Tryd.prog (w4.drewN q) = .ok (.string (strOfNums l)) (w4.drewN q) := row_convN HR34.out l HL.out (by omega) (fun i hi => by rw [getD_app, if_pos (by rw [HL.out]; exact hi)])
  have cv2 := bytes_conv (cap := cap) (HBy.out.later HB14.out) HL.out
  clear hgz hgz2 hb4 hs4 hr4
  have hcut := cut_run (w1.heap.size + 1 + 1) (len + 4) len (by omega)
  have q1 : IntKind.i64.wrap 4 = 4 := by decide
  have q2 : IntKind.i64.wrap (↑len + 4) = ↑len + 4 := wrap_small _ (by omega) (by omega)
  have q3 : IntKind.i64.wrap (↑len + 2) = ↑len + 2 := wrap_small _ (by omega) (by omega)
  go_wp2_with fail
  go_quiet (fail)
  go_wp2_with fail
  clear hcut cv1 cv2 q1 q2
  go_loopw [12] (fun i wr => ∃ k q : Nat, k ≤ 2 ∧ i = .int .i64 k ∧ wr = w4.drewN q) (fun i _ => 2 - (intOf i).toNat)
  case atStart => exact ⟨0, _, Nat.zero_le _, rfl, rfl⟩
  case round =>
    obtain ⟨k, q, hk, rfl, rfl⟩ := hrel
    by_cases hlt : k < 2
    · obtain ⟨z, hz⟩ : ∃ z, (bytesLe 2 u).getD k 0 = z := ⟨_, rfl⟩
      have cx : w4.cell? ⟨w1.heap.size + 1 + 1, len + k, none⟩ = some (.int .u8 z) := by
        have := HR34.out.cell (i := len + k) (by simp; omega)
        rw [this, ← hz, ← HL.out, getD_mid l (bytesLe 2 u) _ k (by rw [len_le]; exact hlt)]
      obtain ⟨j, hj⟩ : ∃ j, j + k = 2 - 1 := ⟨2 - 1 - k, by omega⟩
      have cy : w4.cell? ⟨w3.heap.size + 1, len + j, none⟩ = some (.int .u8 z) := by
        have := HR4.out.cell (i := len + j) (by simp; omega)
        rw [this, ← hz, getD_le _ _ _ hlt]
        have e := getD_mid l (bytesBe 2 u) [] j (by rw [len_be]; omega)
        rw [List.append_nil, HL.out] at e
        rw [e, getD_be _ _ _ (by omega), show 2 - 1 - j = k by omega]
      have r1 : IntKind.i64.wrap (↑len + ↑k) = ↑len + ↑k := wrap_small _ (by omega) (by omega)
      have r2 : IntKind.i64.wrap (↑len + 2 - 1) = ↑len + 1 := by rw [wrap_small _ (by omega) (by omega)]; omega
      have r3 : IntKind.i64.wrap (↑len + 1) = ↑len + 1 := wrap_small _ (by omega) (by omega)
      have r4 : IntKind.i64.wrap (↑len + 1 - ↑k) = ↑len + ↑j := by rw [wrap_small _ (by omega) (by omega)]; omega
      have b1 : (0 : Int) ≤ ↑len + ↑k := by omega
      have b2 : (k : Int) < 4 := by omega
      have b3 : (↑len : Int) + ↑k < ↑len + 4 := by omega
      have b4 : (0 : Int) ≤ ↑len + ↑j := by omega
      have b5 : (j : Int) < 2 := by omega
      have b6 : (↑len : Int) + ↑j < ↑len + 2 := by omega
      have hkn : (k : Int) < 2 := by omega
      clear hz hj
      go_wp2
      go_quiet (fail)
      go_wp2
      go_roundw
      case rel => exact ⟨k + 1, _, by omega, by go_num, rfl⟩
      case measure => simp [intOf]; omega
    · clear HT HB
      have hXl : (l ++ (bytesLe 2 u ++ bytesLe 2 u)).length = len + 4 := by rw [List.length_append, List.length_append, len_le, HL.out]
      have hYl : (l ++ bytesBe 2 u).length = len + 2 := by rw [List.length_append, len_be, HL.out]
      have hIl : ∀ x ∈ l, IsB x := HBy.out.isB
      have HX := hid (row_bytes HR34.out (by rw [hXl]; simp) (fun x hx => by
        rcases List.mem_append.1 hx with h | h
        · exact hIl x h
        · rcases List.mem_append.1 h with h | h <;> exact le_isB _ _ x h))
      have HY := hid (row_bytes HR4.out (by rw [hYl]; simp) (fun x hx => by
        rcases List.mem_append.1 hx with h | h
        · exact hIl x h
        · exact be_isB _ _ x h))
      have hXm : (l ++ (bytesLe 2 u ++ bytesLe 2 u)).length ≤ maxLen := by rw [hXl]; unfold maxLen; omega
      have hYm : (l ++ bytesBe 2 u).length ≤ maxLen := by rw [hYl]; unfold maxLen; omega
      have E1 := hid (show rdErr (len + 4) (↑len + 2) 2 = 0 by simp [rdErr, widB, insB]; omega)
      have E2 := hid (show rdLe (l ++ (bytesLe 2 u ++ bytesLe 2 u)) (↑len + 2) 2 = u by
        rw [(rd_yes _ _ _ (by decide) (by rw [hXl]; simp [insB]; omega)).2.1]
        have e := cut_mid (l ++ bytesLe 2 u) (bytesLe 2 u) []
        rw [List.append_nil, List.append_assoc, List.length_append, len_le, HL.out] at e
        have e2 : (((len + 2 : Nat)) : Int) = (↑len + 2) := by omega
        rw [e2] at e
        rw [show ((2 : Nat) : Int) = 2 from rfl] at e
        rw [e, le_back_2 _ hu0 hu1])
      have E3 := hid (show rdErr (len + 2) (↑len) 2 = 0 by simp [rdErr, widB, insB])
      have E4 := hid (show rdBe (l ++ bytesBe 2 u) (↑len) 2 = u by
        rw [(rd_yes _ _ _ (by decide) (by rw [hYl]; simp [insB])).2.2]
        have e := cut_mid l (bytesBe 2 u) []
        rw [List.append_nil, len_be, HL.out] at e
        rw [show ((2 : Nat) : Int) = 2 from rfl] at e
        rw [e, be_back_2 _ hu0 hu1])
      have E5 := hid (show rdErr (len + 2) (↑len + 1) 2 = 11 by simp [rdErr, widB, insB]; omega)
      have HXl := hid hXl
      have HYl := hid hYl
      clear hXl hYl hIl
      go_wp2_with fail
      have hcon := numLe_at (some ⟨w1.heap.size + 1 + 1, 0, none⟩) (len + 4) (len + 4) (l ++ (bytesLe 2 u ++ bytesLe 2 u)) ((len : Int) + 2) 2 (w4.drewN q) HXl.out hXm (Nat.le_refl _) (HX.out.drewN _)
      refine hcon.mono ?_
      clear hcon
      rintro e w5 ⟨rfl, q5, rfl⟩
      rw [E1.out, E2.out]
      go_wp2_with fail
      have hcon := fun q => numBe_at (some ⟨w3.heap.size + 1, 0, none⟩) (len + 2) (len + 2) (l ++ bytesBe 2 u) ((len : Int)) 2 (w4.drewN q) HYl.out hYm (Nat.le_refl _) (HY.out.drewN _)
      refine (hcon _).mono ?_
      clear hcon
      rintro e w5 ⟨rfl, q6, rfl⟩
      rw [E3.out, E4.out]
      go_wp2_with fail
      have hcon := fun q => numBe_at (some ⟨w3.heap.size + 1, 0, none⟩) (len + 2) (len + 2) (l ++ bytesBe 2 u) ((len : Int) + 1) 2 (w4.drewN q) HYl.out hYm (Nat.le_refl _) (HY.out.drewN _)
      refine (hcon _).mono ?_
      clear hcon
      rintro e w5 ⟨rfl, q7, rfl⟩
      rw [E5.out]
      go_wp2
      go_ret
      refine ⟨rfl, below_drewN (HB1.out.trans (HB14.out.mono HB1.out.size)) _⟩

theorem le_back_4 (u : Int) (h0 : 0 ≤ u) (h1 : u < 4294967296) : leOf (bytesLe 4 u) = u := by
  simp [bytesLe, leOf, List.range, List.range.loop]; omega
theorem be_back_4 (u : Int) (h0 : 0 ≤ u) (h1 : u < 4294967296) : beOf (bytesBe 4 u) = u := by
  simp [bytesBe, beOf, beOn, List.range, List.range.loop]; omega
set_option maxRecDepth 100000 in
set_option maxHeartbeats 1000000 in
theorem numBack_4 (a : Option Addr) (cap : Nat) (l : List Int) (v size : Int) (w : World) (hl : l.length ≤ 140737488351232) (hc : l.length ≤ cap) (h : Bytes w a l) (hT : Tab w) (hv : IsW v) (hs : (IntKind.u64.wrap size).tmod 4 = 2) :
    Calls Tryd.prog 6 #[.slice a l.length cap, .int .u64 v, .int .i64 size] w fun e w' => e = .returned (.bool true) ∧ Below w.heap.size w w' := by
  have HT := hid hT
  have HB := hid h
  clear h hT
  unfold IsW at hv
  obtain ⟨u, hu⟩ : ∃ u, bits .and .u64 v 4294967295 = u := ⟨_, rfl⟩
  have hu2 : u = v % 4294967296 := by
    rw [← hu, u64_and v 4294967295 hv.1 hv.2 (by decide) (by decide)]
    have : v.toNat &&& (4294967295 : Int).toNat = v.toNat % 4294967296 := Nat.and_two_pow_sub_one_eq_mod v.toNat 32
    rw [this]; omega
  have hu0 : 0 ≤ u := by omega
  have hu1 : u < 4294967296 := by omega
  clear hu2
  obtain ⟨len, hlen⟩ : ∃ len, l.length = len := ⟨_, rfl⟩
  have HL := hid hlen
  rw [hlen] at hl hc ⊢
  clear hlen
  go_enter Tryd.func6, Tryd.ntmps6
  go_wp2_with fail
  refine (known_any _ HT.out).mono ?_
  rintro e w1 ⟨rfl, hb1⟩
  have HB1 := hid hb1
  have HBy := hid (HB.out.later hb1)
  clear hb1
  go_wp2_with fail
  refine (putLe_at2 a (some ⟨w1.heap.size + 1, 0, none⟩) cap 2 len 4 l [u, u] _ HL.out ?_ ?_ ?_ ?_ ?_ ?_).mono ?_
  · rw [HL.out]; exact hl
  · simp
  · exact HBy.out.later (((Below.refl _ _).alloc (Nat.le_refl _) _).alloc (by simp) _)
  · have hw := words_new (w1.alloc (Obj.cells #[Value.int IntKind.i64 1, Value.int IntKind.i64 2, Value.int IntKind.i64 4, Value.int IntKind.i64 8] 3)) [u, u] (by simp [IsW]; omega)
    simpa using hw
  · decide
  · simp [fitsB, fitB]; omega
  rintro e w3 ⟨rfl, hb3, hs3, hr3⟩
  have hgz : ((w1.alloc (Obj.cells #[Value.int IntKind.i64 1, Value.int IntKind.i64 2, Value.int IntKind.i64 4, Value.int IntKind.i64 8] 3)).alloc (Obj.cells #[Value.int IntKind.u64 u, Value.int IntKind.u64 u] 24)).heap.size = w1.heap.size + 1 + 1 := by simp
  rw [hgz] at hb3 hs3 hr3
  have HB13 := hid ((((Below.refl w1.heap.size w1).alloc (Nat.le_refl _) (Obj.cells #[Value.int IntKind.i64 1, Value.int IntKind.i64 2, Value.int IntKind.i64 4, Value.int IntKind.i64 8] 3)).alloc (by simp) (Obj.cells #[Value.int IntKind.u64 u, Value.int IntKind.u64 u] 24)).trans (hb3.mono (by omega)))
  have hz3 : w1.heap.size ≤ w3.heap.size := HB13.out.size
  rw [outLe_two] at hr3
  have HR3 := hid hr3
  clear hgz hb3 hs3 hr3
  go_wp2_with fail
  refine (putBe_at2 a (some ⟨w3.heap.size, 0, none⟩) cap 1 len 4 l [u] _ HL.out ?_ ?_ ?_ ?_ ?_ ?_).mono ?_
  · rw [HL.out]; exact hl
  · simp
  · exact (HBy.out.later HB13.out).later ((Below.refl _ _).alloc (Nat.le_refl _) _)
  · have hw := words_new w3 [u] (by simp [IsW]; omega)
    simpa using hw
  · decide
  · simp [fitsB, fitB]; omega
  rintro e w4 ⟨rfl, hb4, hs4, hr4⟩
  have hgz : (w3.alloc (Obj.cells (List.map (fun x => Value.int IntKind.u64 x) [u]).toArray 24)).heap.size = w3.heap.size + 1 := by simp
  have hgz2 : (w3.alloc (Obj.cells #[Value.int IntKind.u64 u] 24)).heap.size = w3.heap.size + 1 := by simp
  rw [hgz2] at hb4 hs4 hr4
  have HB34 := hid (((Below.refl w3.heap.size w3).alloc (Nat.le_refl _) (Obj.cells #[Value.int IntKind.u64 u] 24)).trans (hb4.mono (by omega)))
  rw [outBe_uno] at hr4
  have HR4 := hid hr4
  have HR34 := hid (rowIs_later HR3.out HB34.out)
  have HB14 := hid (HB13.out.trans (HB34.out.mono hz3))
  have cv1 : ∀ q : Nat, (convert 22 9 (.slice (some ⟨w1.heap.size + 1 + 1, 0, none⟩) len (len + 8))).run Tryd.prog (w4.drewN q) = .ok (.string (strOfNums l)) (w4.drewN q) := row_convN HR34.out l HL.out (by omega) (fun i hi => by rw [getD_app, if_pos (by rw [HL.out]; exact hi)])
  have cv2 := bytes_conv (cap := cap) (HBy.out.later HB14.out) HL.out
  clear hgz hgz2 hb4 hs4 hr4
  have hcut := cut_run (w1.heap.size + 1 + 1) (len + 8) len (by omega)
  have q1 : IntKind.i64.wrap 8 = 8 := by decide
  have q2 : IntKind.i64.wrap (↑len + 8) = ↑len + 8 := wrap_small _ (by omega) (by omega)
  have q3 : IntKind.i64.wrap (↑len + 4) = ↑len + 4 := wrap_small _ (by omega) (by omega)
  go_wp2_with fail
  go_quiet (fail)
  go_wp2_with fail
  clear hcut cv1 cv2 q1 q2
  go_loopw [12] (fun i wr => ∃ k q : Nat, k ≤ 4 ∧ i = .int .i64 k ∧ wr = w4.drewN q) (fun i _ => 4 - (intOf i).toNat)
  case atStart => exact ⟨0, _, Nat.zero_le _, rfl, rfl⟩
  case round =>
    obtain ⟨k, q, hk, rfl, rfl⟩ := hrel
    by_cases hlt : k < 4
    · obtain ⟨z, hz⟩ : ∃ z, (bytesLe 4 u).getD k 0 = z := ⟨_, rfl⟩
      have cx : w4.cell? ⟨w1.heap.size + 1 + 1, len + k, none⟩ = some (.int .u8 z) := by
        have := HR34.out.cell (i := len + k) (by simp; omega)
        rw [this, ← hz, ← HL.out, getD_mid l (bytesLe 4 u) _ k (by rw [len_le]; exact hlt)]
      obtain ⟨j, hj⟩ : ∃ j, j + k = 4 - 1 := ⟨4 - 1 - k, by omega⟩
      have cy : w4.cell? ⟨w3.heap.size + 1, len + j, none⟩ = some (.int .u8 z) := by
        have := HR4.out.cell (i := len + j) (by simp; omega)
        rw [this, ← hz, getD_le _ _ _ hlt]
        have e := getD_mid l (bytesBe 4 u) [] j (by rw [len_be]; omega)
        rw [List.append_nil, HL.out] at e
        rw [e, getD_be _ _ _ (by omega), show 4 - 1 - j = k by omega]
      have r1 : IntKind.i64.wrap (↑len + ↑k) = ↑len + ↑k := wrap_small _ (by omega) (by omega)
      have r2 : IntKind.i64.wrap (↑len + 4 - 1) = ↑len + 3 := by rw [wrap_small _ (by omega) (by omega)]; omega
      have r3 : IntKind.i64.wrap (↑len + 3) = ↑len + 3 := wrap_small _ (by omega) (by omega)
      have r4 : IntKind.i64.wrap (↑len + 3 - ↑k) = ↑len + ↑j := by rw [wrap_small _ (by omega) (by omega)]; omega
      have b1 : (0 : Int) ≤ ↑len + ↑k := by omega
      have b2 : (k : Int) < 8 := by omega
      have b3 : (↑len : Int) + ↑k < ↑len + 8 := by omega
      have b4 : (0 : Int) ≤ ↑len + ↑j := by omega
      have b5 : (j : Int) < 4 := by omega
      have b6 : (↑len : Int) + ↑j < ↑len + 4 := by omega
      have hkn : (k : Int) < 4 := by omega
      clear hz hj
      go_wp2
      go_quiet (fail)
      go_wp2
      go_roundw
      case rel => exact ⟨k + 1, _, by omega, by go_num, rfl⟩
      case measure => simp [intOf]; omega
    · clear HT HB
      have hXl : (l ++ (bytesLe 4 u ++ bytesLe 4 u)).length = len + 8 := by rw [List.length_append, List.length_append, len_le, HL.out]
      have hYl : (l ++ bytesBe 4 u).length = len + 4 := by rw [List.length_append, len_be, HL.out]
      have hIl : ∀ x ∈ l, IsB x := HBy.out.isB
      have HX := hid (row_bytes HR34.out (by rw [hXl]; simp) (fun x hx => by
        rcases List.mem_append.1 hx with h | h
        · exact hIl x h
        · rcases List.mem_append.1 h with h | h <;> exact le_isB _ _ x h))
      have HY := hid (row_bytes HR4.out (by rw [hYl]; simp) (fun x hx => by
        rcases List.mem_append.1 hx with h | h
        · exact hIl x h
        · exact be_isB _ _ x h))
      have hXm : (l ++ (bytesLe 4 u ++ bytesLe 4 u)).length ≤ maxLen := by rw [hXl]; unfold maxLen; omega
      have hYm : (l ++ bytesBe 4 u).length ≤ maxLen := by rw [hYl]; unfold maxLen; omega
      have E1 := hid (show rdErr (len + 8) (↑len + 4) 4 = 0 by simp [rdErr, widB, insB]; omega)
      have E2 := hid (show rdLe (l ++ (bytesLe 4 u ++ bytesLe 4 u)) (↑len + 4) 4 = u by
        rw [(rd_yes _ _ _ (by decide) (by rw [hXl]; simp [insB]; omega)).2.1]
        have e := cut_mid (l ++ bytesLe 4 u) (bytesLe 4 u) []
        rw [List.append_nil, List.append_assoc, List.length_append, len_le, HL.out] at e
        have e2 : (((len + 4 : Nat)) : Int) = (↑len + 4) := by omega
        rw [e2] at e
        rw [show ((4 : Nat) : Int) = 4 from rfl] at e
        rw [e, le_back_4 _ hu0 hu1])
      have E3 := hid (show rdErr (len + 4) (↑len) 4 = 0 by simp [rdErr, widB, insB])
      have E4 := hid (show rdBe (l ++ bytesBe 4 u) (↑len) 4 = u by
        rw [(rd_yes _ _ _ (by decide) (by rw [hYl]; simp [insB])).2.2]
        have e := cut_mid l (bytesBe 4 u) []
        rw [List.append_nil, len_be, HL.out] at e
        rw [show ((4 : Nat) : Int) = 4 from rfl] at e
        rw [e, be_back_4 _ hu0 hu1])
      have E5 := hid (show rdErr (len + 4) (↑len + 1) 4 = 11 by simp [rdErr, widB, insB]; omega)
      have HXl := hid hXl
      have HYl := hid hYl
      clear hXl hYl hIl
      go_wp2_with fail
      have hcon := numLe_at (some ⟨w1.heap.size + 1 + 1, 0, none⟩) (len + 8) (len + 8) (l ++ (bytesLe 4 u ++ bytesLe 4 u)) ((len : Int) + 4) 4 (w4.drewN q) HXl.out hXm (Nat.le_refl _) (HX.out.drewN _)
      refine hcon.mono ?_
      clear hcon
      rintro e w5 ⟨rfl, q5, rfl⟩
      rw [E1.out, E2.out]
      go_wp2_with fail
      have hcon := fun q => numBe_at (some ⟨w3.heap.size + 1, 0, none⟩) (len + 4) (len + 4) (l ++ bytesBe 4 u) ((len : Int)) 4 (w4.drewN q) HYl.out hYm (Nat.le_refl _) (HY.out.drewN _)
      refine (hcon _).mono ?_
      clear hcon
      rintro e w5 ⟨rfl, q6, rfl⟩
      rw [E3.out, E4.out]
      go_wp2_with fail
      have hcon := fun q => numBe_at (some ⟨w3.heap.size + 1, 0, none⟩) (len + 4) (len + 4) (l ++ bytesBe 4 u) ((len : Int) + 1) 4 (w4.drewN q) HYl.out hYm (Nat.le_refl _) (HY.out.drewN _)
      refine (hcon _).mono ?_
      clear hcon
      rintro e w5 ⟨rfl, q7, rfl⟩
      rw [E5.out]
      go_wp2
      go_ret
      refine ⟨rfl, below_drewN (HB1.out.trans (HB14.out.mono HB1.out.size)) _⟩

theorem le_back_8 (u : Int) (h0 : 0 ≤ u) (h1 : u < 18446744073709551616) : leOf (bytesLe 8 u) = u := by
  simp [bytesLe, leOf, List.range, List.range.loop]; omega
theorem be_back_8 (u : Int) (h0 : 0 ≤ u) (h1 : u < 18446744073709551616) : beOf (bytesBe 8 u) = u := by
  simp [bytesBe, beOf, beOn, List.range, List.range.loop]; omega
set_option maxRecDepth 100000 in
set_option maxHeartbeats 1000000 in
theorem numBack_8 (a : Option Addr) (cap : Nat) (l : List Int) (v size : Int) (w : World) (hl : l.length ≤ 140737488351232) (hc : l.length ≤ cap) (h : Bytes w a l) (hT : Tab w) (hv : IsW v) (hs : (IntKind.u64.wrap size).tmod 4 = 3) :
    Calls Tryd.prog 6 #[.slice a l.length cap, .int .u64 v, .int .i64 size] w fun e w' => e = .returned (.bool true) ∧ Below w.heap.size w w' := by
  have HT := hid hT
  have HB := hid h
  clear h hT
  unfold IsW at hv
  obtain ⟨u, hu⟩ : ∃ u, v = u := ⟨_, rfl⟩
  subst hu
  have hu0 : 0 ≤ v := hv.1
  have hu1 : v < 18446744073709551616 := hv.2
  obtain ⟨len, hlen⟩ : ∃ len, l.length = len := ⟨_, rfl⟩
  have HL := hid hlen
  rw [hlen] at hl hc ⊢
  clear hlen
  go_enter Tryd.func6, Tryd.ntmps6
  go_wp2_with fail
  refine (known_any _ HT.out).mono ?_
  rintro e w1 ⟨rfl, hb1⟩
  have HB1 := hid hb1
  have HBy := hid (HB.out.later hb1)
  clear hb1
  go_wp2_with fail
  refine (putLe_at2 a (some ⟨w1.heap.size + 1, 0, none⟩) cap 2 len 8 l [v, v] _ HL.out ?_ ?_ ?_ ?_ ?_ ?_).mono ?_
  · rw [HL.out]; exact hl
  · simp
  · exact HBy.out.later (((Below.refl _ _).alloc (Nat.le_refl _) _).alloc (by simp) _)
  · have hw := words_new (w1.alloc (Obj.cells #[Value.int IntKind.i64 1, Value.int IntKind.i64 2, Value.int IntKind.i64 4, Value.int IntKind.i64 8] 3)) [v, v] (by simp [IsW]; omega)
    simpa using hw
  · decide
  · simp [fitsB, fitB]; omega
  rintro e w3 ⟨rfl, hb3, hs3, hr3⟩
  have hgz : ((w1.alloc (Obj.cells #[Value.int IntKind.i64 1, Value.int IntKind.i64 2, Value.int IntKind.i64 4, Value.int IntKind.i64 8] 3)).alloc (Obj.cells #[Value.int IntKind.u64 v, Value.int IntKind.u64 v] 24)).heap.size = w1.heap.size + 1 + 1 := by simp
  rw [hgz] at hb3 hs3 hr3
  have HB13 := hid ((((Below.refl w1.heap.size w1).alloc (Nat.le_refl _) (Obj.cells #[Value.int IntKind.i64 1, Value.int IntKind.i64 2, Value.int IntKind.i64 4, Value.int IntKind.i64 8] 3)).alloc (by simp) (Obj.cells #[Value.int IntKind.u64 v, Value.int IntKind.u64 v] 24)).trans (hb3.mono (by omega)))
  have hz3 : w1.heap.size ≤ w3.heap.size := HB13.out.size
  rw [outLe_two] at hr3
  have HR3 := hid hr3
  clear hgz hb3 hs3 hr3
  go_wp2_with fail
  refine (putBe_at2 a (some ⟨w3.heap.size, 0, none⟩) cap 1 len 8 l [v] _ HL.out ?_ ?_ ?_ ?_ ?_ ?_).mono ?_
  · rw [HL.out]; exact hl
  · simp
  · exact (HBy.out.later HB13.out).later ((Below.refl _ _).alloc (Nat.le_refl _) _)
  · have hw := words_new w3 [v] (by simp [IsW]; omega)
    simpa using hw
  · decide
  · simp [fitsB, fitB]; omega
  rintro e w4 ⟨rfl, hb4, hs4, hr4⟩
  have hgz : (w3.alloc (Obj.cells (List.map (fun x => Value.int IntKind.u64 x) [v]).toArray 24)).heap.size = w3.heap.size + 1 := by simp
  have hgz2 : (w3.alloc (Obj.cells #[Value.int IntKind.u64 v] 24)).heap.size = w3.heap.size + 1 := by simp
  rw [hgz2] at hb4 hs4 hr4
  have HB34 := hid (((Below.refl w3.heap.size w3).alloc (Nat.le_refl _) (Obj.cells #[Value.int IntKind.u64 v] 24)).trans (hb4.mono (by omega)))
  rw [outBe_uno] at hr4
  have HR4 := hid hr4
  have HR34 := hid (rowIs_later HR3.out HB34.out)
  have HB14 := hid (HB13.out.trans (HB34.out.mono hz3))
  have cv1 : ∀ q : Nat, (convert 22 9 (.slice (some ⟨w1.heap.size + 1 + 1, 0, none⟩) len (len + 16))).run Tryd.prog (w4.drewN q) = .ok (.string (strOfNums l)) (w4.drewN q) := row_convN HR34.out l HL.out (by omega) (fun i hi => by rw [getD_app, if_pos (by rw [HL.out]; exact hi)])
  have cv2 := bytes_conv (cap := cap) (HBy.out.later HB14.out) HL.out
  clear hgz hgz2 hb4 hs4 hr4
  have hcut := cut_run (w1.heap.size + 1 + 1) (len + 16) len (by omega)
  have q1 : IntKind.i64.wrap 16 = 16 := by decide
  have q2 : IntKind.i64.wrap (↑len + 16) = ↑len + 16 := wrap_small _ (by omega) (by omega)
  have q3 : IntKind.i64.wrap (↑len + 8) = ↑len + 8 := wrap_small _ (by omega) (by omega)
  go_wp2_with fail
  go_quiet (fail)
  go_wp2_with fail
  clear hcut cv1 cv2 q1 q2
  go_loopw [12] (fun i wr => ∃ k q : Nat, k ≤ 8 ∧ i = .int .i64 k ∧ wr = w4.drewN q) (fun i _ => 8 - (intOf i).toNat)
  case atStart => exact ⟨0, _, Nat.zero_le _, rfl, rfl⟩
  case round =>
    obtain ⟨k, q, hk, rfl, rfl⟩ := hrel
    by_cases hlt : k < 8
    · obtain ⟨z, hz⟩ : ∃ z, (bytesLe 8 v).getD k 0 = z := ⟨_, rfl⟩
      have cx : w4.cell? ⟨w1.heap.size + 1 + 1, len + k, none⟩ = some (.int .u8 z) := by
        have := HR34.out.cell (i := len + k) (by simp; omega)
        rw [this, ← hz, ← HL.out, getD_mid l (bytesLe 8 v) _ k (by rw [len_le]; exact hlt)]
      obtain ⟨j, hj⟩ : ∃ j, j + k = 8 - 1 := ⟨8 - 1 - k, by omega⟩
      have cy : w4.cell? ⟨w3.heap.size + 1, len + j, none⟩ = some (.int .u8 z) := by
        have := HR4.out.cell (i := len + j) (by simp; omega)
        rw [this, ← hz, getD_le _ _ _ hlt]
        have e := getD_mid l (bytesBe 8 v) [] j (by rw [len_be]; omega)
        rw [List.append_nil, HL.out] at e
        rw [e, getD_be _ _ _ (by omega), show 8 - 1 - j = k by omega]
      have r1 : IntKind.i64.wrap (↑len + ↑k) = ↑len + ↑k := wrap_small _ (by omega) (by omega)
      have r2 : IntKind.i64.wrap (↑len + 8 - 1) = ↑len + 7 := by rw [wrap_small _ (by omega) (by omega)]; omega
      have r3 : IntKind.i64.wrap (↑len + 7) = ↑len + 7 := wrap_small _ (by omega) (by omega)
      have r4 : IntKind.i64.wrap (↑len + 7 - ↑k) = ↑len + ↑j := by rw [wrap_small _ (by omega) (by omega)]; omega
      have b1 : (0 : Int) ≤ ↑len + ↑k := by omega
      have b2 : (k : Int) < 16 := by omega
      have b3 : (↑len : Int) + ↑k < ↑len + 16 := by omega
      have b4 : (0 : Int) ≤ ↑len + ↑j := by omega
      have b5 : (j : Int) < 8 := by omega
      have b6 : (↑len : Int) + ↑j < ↑len + 8 := by omega
      have hkn : (k : Int) < 8 := by omega
      clear hz hj
      go_wp2
      go_quiet (fail)
      go_wp2
      go_roundw
      case rel => exact ⟨k + 1, _, by omega, by go_num, rfl⟩
      case measure => simp [intOf]; omega
    · clear HT HB
      have hXl : (l ++ (bytesLe 8 v ++ bytesLe 8 v)).length = len + 16 := by rw [List.length_append, List.length_append, len_le, HL.out]
      have hYl : (l ++ bytesBe 8 v).length = len + 8 := by rw [List.length_append, len_be, HL.out]
      have hIl : ∀ x ∈ l, IsB x := HBy.out.isB
      have HX := hid (row_bytes HR34.out (by rw [hXl]; simp) (fun x hx => by
        rcases List.mem_append.1 hx with h | h
        · exact hIl x h
        · rcases List.mem_append.1 h with h | h <;> exact le_isB _ _ x h))
      have HY := hid (row_bytes HR4.out (by rw [hYl]; simp) (fun x hx => by
        rcases List.mem_append.1 hx with h | h
        · exact hIl x h
        · exact be_isB _ _ x h))
      have hXm : (l ++ (bytesLe 8 v ++ bytesLe 8 v)).length ≤ maxLen := by rw [hXl]; unfold maxLen; omega
      have hYm : (l ++ bytesBe 8 v).length ≤ maxLen := by rw [hYl]; unfold maxLen; omega
      have E1 := hid (show rdErr (len + 16) (↑len + 8) 8 = 0 by simp [rdErr, widB, insB]; omega)
      have E2 := hid (show rdLe (l ++ (bytesLe 8 v ++ bytesLe 8 v)) (↑len + 8) 8 = v by
        rw [(rd_yes _ _ _ (by decide) (by rw [hXl]; simp [insB]; omega)).2.1]
        have e := cut_mid (l ++ bytesLe 8 v) (bytesLe 8 v) []
        rw [List.append_nil, List.append_assoc, List.length_append, len_le, HL.out] at e
        have e2 : (((len + 8 : Nat)) : Int) = (↑len + 8) := by omega
        rw [e2] at e
        rw [show ((8 : Nat) : Int) = 8 from rfl] at e
        rw [e, le_back_8 _ hu0 hu1])
      have E3 := hid (show rdErr (len + 8) (↑len) 8 = 0 by simp [rdErr, widB, insB])
      have E4 := hid (show rdBe (l ++ bytesBe 8 v) (↑len) 8 = v by
        rw [(rd_yes _ _ _ (by decide) (by rw [hYl]; simp [insB])).2.2]
        have e := cut_mid l (bytesBe 8 v) []
        rw [List.append_nil, len_be, HL.out] at e
        rw [show ((8 : Nat) : Int) = 8 from rfl] at e
        rw [e, be_back_8 _ hu0 hu1])
      have E5 := hid (show rdErr (len + 8) (↑len + 1) 8 = 11 by simp [rdErr, widB, insB]; omega)
      have HXl := hid hXl
      have HYl := hid hYl
      clear hXl hYl hIl
      go_wp2_with fail
      have hcon := numLe_at (some ⟨w1.heap.size + 1 + 1, 0, none⟩) (len + 16) (len + 16) (l ++ (bytesLe 8 v ++ bytesLe 8 v)) ((len : Int) + 8) 8 (w4.drewN q) HXl.out hXm (Nat.le_refl _) (HX.out.drewN _)
      refine hcon.mono ?_
      clear hcon
      rintro e w5 ⟨rfl, q5, rfl⟩
      rw [E1.out, E2.out]
      go_wp2_with fail
      have hcon := fun q => numBe_at (some ⟨w3.heap.size + 1, 0, none⟩) (len + 8) (len + 8) (l ++ bytesBe 8 v) ((len : Int)) 8 (w4.drewN q) HYl.out hYm (Nat.le_refl _) (HY.out.drewN _)
      refine (hcon _).mono ?_
      clear hcon
      rintro e w5 ⟨rfl, q6, rfl⟩
      rw [E3.out, E4.out]
      go_wp2_with fail
      have hcon := fun q => numBe_at (some ⟨w3.heap.size + 1, 0, none⟩) (len + 8) (len + 8) (l ++ bytesBe 8 v) ((len : Int) + 1) 8 (w4.drewN q) HYl.out hYm (Nat.le_refl _) (HY.out.drewN _)
      refine (hcon _).mono ?_
      clear hcon
      rintro e w5 ⟨rfl, q7, rfl⟩
      rw [E5.out]
      go_wp2
      go_ret
      refine ⟨rfl, below_drewN (HB1.out.trans (HB14.out.mono HB1.out.size)) _⟩

theorem numBack_walk (a : Option Addr) (cap : Nat) (l : List Int) (v size : Int) (w : World) (hl : l.length ≤ 140737488351232) (hc : l.length ≤ cap) (h : Bytes w a l) (hT : Tab w) (hv : (Lit.int .u64 v).wf = true) :
    Calls Tryd.prog 6 #[.slice a l.length cap, .int .u64 v, .int .i64 size] w fun e w' => e = .returned (.bool true) ∧ Below w.heap.size w w' := by
  have hb := bounds_u64 hv
  have hw : IsW v := ⟨by omega, by omega⟩
  have h0 : (IntKind.u64.wrap size).tmod 4 = IntKind.u64.wrap size % 4 := by
    rw [IntKind.wrap_u64]
    exact Int.tmod_eq_emod_of_nonneg (Int.emod_nonneg _ (by decide))
  rcases (show IntKind.u64.wrap size % 4 = 0 ∨ IntKind.u64.wrap size % 4 = 1 ∨ IntKind.u64.wrap size % 4 = 2 ∨ IntKind.u64.wrap size % 4 = 3 by omega) with e | e | e | e <;> rw [e] at h0
  · exact numBack_1 a cap l v size w hl hc h hT hw h0
  · exact numBack_2 a cap l v size w hl hc h hT hw h0
  · exact numBack_4 a cap l v size w hl hc h hT hw h0
  · exact numBack_8 a cap l v size w hl hc h hT hw h0
end Go.Proofs.YtkmljnjikkmdhaaDoor
