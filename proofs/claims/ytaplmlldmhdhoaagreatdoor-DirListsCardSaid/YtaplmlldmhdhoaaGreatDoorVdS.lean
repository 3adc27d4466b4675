/- VwA, VaA, VaB, VbS, VdS in one text. -/
import Derived.Test.YtaplmlldmhdhoaaGreatDoorWbB
import Derived.ArgAppend
import Derived.Deep.RegionHeld
import Derived.Deep.RegionHeld3
/- The document's numbers as bytes: Low, Noughts. -/
namespace Go.Proofs.YtaplmlldmhdhoaaGreatDoor
open Go.RowKit Go.Maps
set_option linter.unusedVariables false

theorem by_const (w : World) (l : List Int) (fr : Nat × Nat) (hl : ∀ x ∈ l, IsB x) : By (w.alloc (.cells (u8s l).toArray 5 fr)) (New w) (some ⟨w.heap.size, 0, none⟩) l :=
  ⟨hl, fun _ => ⟨w.heap.size, 0, _, fr, rfl, Nat.le_refl _, alloc_new w _, fun i hi => by rw [Nat.zero_add, List.getElem?_toArray, u8s_get hi]⟩⟩
/-- Bytes that may be appended to: a row of one's own, or one that is full. -/
def Gr (w : World) (B : Nat) (v : Value) (l : List Int) : Prop :=
  (∀ x ∈ l, IsB x) ∧ (w.ownsRow B 5 1 v l.length (u8s l) ∨ ∃ b off, v = .slice (some ⟨b, off, none⟩) l.length l.length ∧ By w (fun _ => True) (some ⟨b, off, none⟩) l)
theorem Gr.slice {w : World} {B : Nat} {v : Value} {l : List Int} (h : Gr w B v l) : ∃ a c, v = .slice a l.length c := by
  rcases h.2 with h1 | ⟨b, off, e, _⟩
  · exact owns_slice h1
  · exact ⟨_, _, e⟩
theorem Gr.by_ {w : World} {B : Nat} {v : Value} {l : List Int} (h : Gr w B v l) : ∃ a c, v = .slice a l.length c ∧ l.length ≤ c ∧ By w (fun _ => True) a l := by
  rcases h.2 with h1 | ⟨b, off, e, h2⟩
  · obtain ⟨a, c, e, h3, _, h4⟩ := By.of_owns (S := fun _ => True) h1 h.1 (fun _ _ => trivial)
    exact ⟨a, c, e, h3, h4⟩
  · exact ⟨_, _, e, Nat.le_refl _, h2⟩
theorem Gr.later {w w' : World} {B : Nat} {v : Value} {l : List Int} (h : Gr w B v l) (hb : Below w.heap.size w w') : Gr w' B v l :=
  ⟨h.1, h.2.imp (fun h1 => owns_keep h1 (fun g hg => hb.block g (owns_lt h1 hg).1)) (fun ⟨b, off, e, h2⟩ => ⟨b, off, e, h2.later hb⟩)⟩
theorem u8s_app (l m : List Int) : u8s (l ++ m) = u8s l ++ u8s m := by simp
/-- 'append' of bytes. -/
theorem Gr.push {w : World} {B : Nat} {v : Value} {l : List Int} (h : Gr w B v l) (hB : B ≤ w.heap.size) (m : List Int) (hm : ∀ x ∈ m, IsB x) (hp : 0 < m.length) (ad : Addr) (n c : Nat) (hn : m.length = n) (hc : ∀ j u, (u8s m)[j]? = some u → w.cell? (ad.add j) = some u) (hl : l.length + n ≤ 1000000) (ty : TypeId) :
    ∃ a c' w', (Builtin.append_ #[59, 59] ty #[v, .slice (some ad) n c]).run Tryz.prog w = .ok (.slice a (l.length + n) c') w' ∧ Gr w' B (.slice a (l.length + n) c') (l ++ m) ∧ w'.ownsRow B 5 1 (.slice a (l.length + n) c') (l.length + n) (u8s (l ++ m)) ∧ Below B w w' ∧ Mods (fun b => v.ownBlock = some b) w w' ∧ ((Value.slice a (l.length + n) c').ownBlock = v.ownBlock ∨ ∃ g, w.heap.size ≤ g ∧ (Value.slice a (l.length + n) c').ownBlock = some g) := by
  have hI : ∀ x ∈ l ++ m, IsB x := fun x hx => by rcases List.mem_append.1 hx with h1 | h1; exact h.1 x h1; exact hm x h1
  rcases h.2 with h1 | ⟨b, off, rfl, h2⟩
  · obtain ⟨v', w', hap, ho, hmo, hob⟩ := app_gen w 59 ty 5 _ 1 Tryz.underlying59 info5b rfl (by omega) v (u8s l) l.length (by simp) (owns_zero h1) ad n c (u8s m) (by simp [hn]) hc (u8s_one m) (by omega)
    obtain ⟨a, c', rfl⟩ := owns_slice ho
    have ho' : w'.ownsRow B 5 1 (.slice a (l.length + n) c') (l.length + n) (u8s (l ++ m)) := by
      rw [u8s_app]
      exact owns_base ho (fun g hg => by
        rcases hob with e | e
        · rw [e] at hg; exact (owns_lt h1 hg).2
        · rw [e] at hg; simp at hg; omega)
    refine ⟨a, c', w', hap, ⟨hI, .inl (by rw [List.length_append, hn]; exact ho')⟩, ho', hmo.to_below (Below.refl B w) hB (fun g hg => (owns_lt h1 hg).2), hmo, hob.imp id (fun e => ⟨_, Nat.le_refl _, e⟩)⟩
  · obtain ⟨i0, hi, hz0, hz1, hz2⟩ := info5b
    have hcl : ∀ j u, (u8s l)[j]? = some u → w.cell? ((⟨b, off, none⟩ : Addr).add j) = some u := fun j u hj => by
      have hj2 : j < l.length := by have := (List.getElem?_eq_some_iff.1 hj).1; simpa using this
      obtain ⟨b', off', cur, fr, ea, _, hh, hcur⟩ := h2.2 (by omega)
      simp only [Option.some.injEq, Addr.mk.injEq, and_true] at ea
      obtain ⟨rfl, rfl⟩ := ea
      rw [u8s_get hj2] at hj
      rw [add_addr]
      simp [World.cell?, hh, hcur j hj2]
      simpa using hj
    obtain ⟨v', w', hr, ho, hg⟩ := run_append_arg_grows (P := Tryz.prog) w 59 ty 5 i0 _ 1 1 Tryz.underlying59 hi hz0 hz1 hz2 rfl (by decide) ⟨b, off, none⟩ l.length l.length (u8s l) (by simp) hcl ad n c (u8s m) (by simp [hn]) hc (by omega) (by unfold maxLen; omega) (by omega)
    obtain ⟨a, c', rfl⟩ := owns_slice ho
    have ho' : w'.ownsRow B 5 1 (.slice a (l.length + n) c') (l.length + n) (u8s (l ++ m)) := by
      rw [u8s_app]
      exact owns_base ho (fun g hg => Nat.le_trans hB (owns_lt ho hg).2)
    exact ⟨a, c', w', hr, ⟨hI, .inl (by rw [List.length_append, hn]; exact ho')⟩, ho', ⟨hg.os, hg.tape, hg.output, hg.size, fun x hx => hg.block x (Nat.lt_of_lt_of_le hx hB) (by simp)⟩, ⟨hg.os, hg.tape, hg.output, hg.size, fun x hx _ => hg.block x hx (by simp)⟩, .inr (by
      cases ho3 : (Value.slice a (l.length + n) c').ownBlock with
      | none =>
        rcases ho.2 with ⟨e, h0⟩ | ⟨g, cap, cur, e, _⟩
        · omega
        · rw [e] at ho3; simp [Value.ownBlock] at ho3
      | some g => exact ⟨g, (owns_lt ho ho3).2, rfl⟩)⟩
theorem pow256 (k : Nat) : (2 : Int) ^ (8 * k) = 256 ^ k := by rw [Int.pow_mul]; rfl
theorem bytesLe_take (n : Nat) (x : Int) (j : Nat) (h : j < n) : (bytesLe n x).take (j + 1) = (bytesLe n x).take j ++ [x / 256 ^ j % 256] := by
  rw [take_snoc _ j (by rw [len_le]; exact h), getD_le n x j h]
set_option maxRecDepth 100000 in
set_option maxHeartbeats 1000000 in
theorem Low_any (w : World) (B : Nat) (v : Value) (l : List Int) (h : Gr w B v l) (hB : B ≤ w.heap.size) (n : Nat) (N x : Int) (hN : N = n) (hn : 0 < n ∧ n ≤ 8) (h0 : 0 ≤ x) (h1 : x < 18446744073709551616) (hl : l.length ≤ 900000) :
    Calls Tryz.prog 91 #[v, .int .i64 N, .int .u64 x] w fun e w' => ∃ a c, e = .returned (.slice a (l.length + n) c) ∧ Gr w' B (.slice a (l.length + n) c) (l ++ bytesLe n x) ∧ w'.ownsRow B 5 1 (.slice a (l.length + n) c) (l.length + n) (u8s (l ++ bytesLe n x)) ∧ Below B w w' := by
  obtain ⟨a0, c0, rfl⟩ := h.slice
  have HG := hid h
  have hn8 : n ≤ 8 := by omega
  subst hN
  clear h
  go_enter Tryz.func91, Tryz.ntmps91
  go_wp2
  go_loopw [0, 7] (fun u z wr => ∃ (k : Nat), k ≤ n ∧ z = .int .i64 k ∧ Gr wr B u (l ++ (bytesLe n x).take k) ∧ (0 < k → wr.ownsRow B 5 1 u (l.length + k) (u8s (l ++ (bytesLe n x).take k))) ∧ Below B w wr ∧ B ≤ wr.heap.size) (fun _ z _ => n - (RowKit.intOf z).toNat)
  case atStart => exact ⟨0, Nat.zero_le _, rfl, by simpa using HG.out, fun h => by omega, Below.refl _ _, hB⟩
  case round =>
    obtain ⟨k, hk, rfl, hg, how, hb, hBr⟩ := hrel
    have hlk : (l ++ (bytesLe n x).take k).length = l.length + k := by rw [List.length_append, List.length_take, len_le, Nat.min_eq_left hk]
    obtain ⟨a1, c1, e1⟩ := hg.slice
    rw [hlk] at e1
    subst e1
    have HG1 := hid hg
    have HOW := hid how
    have HB := hid hb
    have HLK := hid hlk
    clear hg how hb hlk
    by_cases hlt : k < n
    · have hki : (k : Int) < n := by omega
      have HBT := hid (bytesLe_take n x k hlt)
      obtain ⟨y, hy⟩ : ∃ y, y = x / 2 ^ (8 * k) % 256 := ⟨_, rfl⟩
      rw [← pow256, ← hy] at HBT
      have hyB : IsB y := by unfold IsB; omega
      obtain ⟨W1, hW1⟩ : ∃ W1, W1 = wr.alloc (.cells #[.int .u8 y] 5) := ⟨_, rfl⟩
      have hb1 : Below wr.heap.size wr W1 := by rw [hW1]; exact (Below.refl _ _).alloc (Nat.le_refl _) _
      have hc1 : W1.cell? ⟨wr.heap.size, 0, none⟩ = some (.int .u8 y) := by rw [hW1, new_cell _ _ _ _ 0 (by simp)]; rfl
      obtain ⟨a2, c2, w2, hap, hg2, ho2, hb2, _, _⟩ := (HG1.out.later hb1).push (Nat.le_trans hBr hb1.size) [y] (by simpa using hyB) (by simp) ⟨wr.heap.size, 0, none⟩ 1 1 rfl (fun j u hj => by
        have hj2 : j < 1 := (List.getElem?_eq_some_iff.1 hj).1
        obtain rfl : j = 0 := by omega
        rw [add_addr, hc1]; simpa using hj) (by rw [HLK.out]; omega) 59
      rw [HLK.out] at hap hg2 ho2
      rw [List.append_assoc, ← HBT.out] at hg2 ho2
      have HG2 := hid hg2
      have HO2 := hid ho2
      have HB2 : Hid (Below B w w2) := hid ((HB.out.trans (hb1.mono hBr)).trans hb2)
      have HS2 : Hid (B ≤ w2.heap.size) := hid (Nat.le_trans (Nat.le_trans hBr hb1.size) hb2.size)
      clear hb1 hc1 hg2 ho2 hb2
      have hWW : W1 = wr.alloc (.cells #[.int .u8 (x / 2 ^ (8 * k) % 256)] 5) := by rw [hW1, hy]
      clear hW1 hy
      go_wp2_with (at_builtin; rw [← hWW]; refine wpList_append_run rfl _ _ 59 rfl rfl rfl hap ?_)
      go_roundw
      case rel => exact ⟨k + 1, by omega, by go_num, HG2.out, fun _ => HO2.out, HB2.out, HS2.out⟩
      case measure => simp [RowKit.intOf]; omega
    · have hki : ¬ ((k : Int) < n) := by omega
      obtain rfl : k = n := by omega
      go_wp2
      go_ret
      have e : (bytesLe k x).take k = bytesLe k x := List.take_of_length_le (by rw [len_le]; exact Nat.le_refl _)
      have g1 := HG1.out
      have g2 := HOW.out (by omega)
      rw [e] at g1 g2
      exact ⟨a1, c1, rfl, g1, by rw [u8s_app] at g2; exact g2, HB.out⟩
/-- 'append([]byte{}, d...)'. -/
theorem twinB (W : World) (T : Nat → Prop) (a : Option Addr) (n c : Nat) (d : List Int) (hn : d.length = n) (hp : 0 < n) (hl : n ≤ 900000) (h : By W T a d) (ty : TypeId) :
    ∃ a2 c2 w2, (Builtin.append_ #[59, 59] ty #[.slice (some ⟨W.heap.size, 0, none⟩) 0 0, .slice a n c]).run Tryz.prog (W.alloc (.cells #[] 5)) = .ok (.slice a2 n c2) w2 ∧ By w2 (New W) a2 d ∧ n ≤ c2 ∧ Below W.heap.size W w2 ∧ w2.ownsRow W.heap.size 5 1 (.slice a2 n c2) n (u8s d) := by
  have hb1 : Below W.heap.size W (W.alloc (.cells #[] 5)) := (Below.refl _ _).alloc (Nat.le_refl _) _
  have hg : Gr (W.alloc (.cells #[] 5)) W.heap.size (.slice (some ⟨W.heap.size, 0, none⟩) 0 0) [] := by
    refine ⟨fun x hx => by simp at hx, .inl ⟨by simp, .inr ⟨W.heap.size, 0, #[], rfl, Nat.le_refl _, alloc_new W _, by simp, by simp, by simp, by simp⟩⟩⟩
  obtain ⟨b, off, cur, fr, rfl, _, hh, hcur⟩ := h.2 (by omega)
  obtain ⟨a2, c2, w2, hap, hg2, ho2, hb2, _, _⟩ := hg.push (by simp) d h.isB (by omega) ⟨b, off, none⟩ n c hn (fun j u hj => by
    have hj2 : j < d.length := by have := (List.getElem?_eq_some_iff.1 hj).1; simpa using this
    rw [u8s_get hj2] at hj
    rw [add_addr]
    refine cell_later hb1 ?_
    simp [World.cell?, hh, hcur j hj2]
    simpa using hj) (by simp; omega) ty
  simp only [List.length_nil, Nat.zero_add, List.nil_append] at hap hg2 ho2
  obtain ⟨a3, c3, e3, h3, _, h4⟩ := By.of_owns (S := New W) ho2 h.isB (fun g hg => (owns_lt ho2 hg).2)
  simp only [Value.slice.injEq, true_and] at e3
  obtain ⟨rfl, rfl⟩ := e3
  exact ⟨a2, c2, w2, hap, h4, h3, hb1.trans hb2, ho2⟩
theorem repl_snoc (k : Nat) : List.replicate (k + 1) (0 : Int) = List.replicate k 0 ++ [0] := List.replicate_succ'
set_option maxRecDepth 100000 in
set_option maxHeartbeats 1000000 in
theorem Noughts_any (w : World) (B : Nat) (v : Value) (l : List Int) (h : Gr w B v l) (hB : B ≤ w.heap.size) (n : Nat) (N : Int) (hN : N = n) (hn : 0 < n) (hl : l.length + n ≤ 900000) :
    Calls Tryz.prog 75 #[v, .int .i64 N] w fun e w' => ∃ a c, e = .returned (.slice a (l.length + n) c) ∧ Gr w' B (.slice a (l.length + n) c) (l ++ List.replicate n 0) ∧ w'.ownsRow B 5 1 (.slice a (l.length + n) c) (l.length + n) (u8s (l ++ List.replicate n 0)) ∧ Below B w w' := by
  obtain ⟨a0, c0, rfl⟩ := h.slice
  have HG := hid h
  subst hN
  clear h
  obtain ⟨Z, hZ⟩ : ∃ Z : Nat → List Int, Z = fun k => List.replicate k 0 := ⟨_, rfl⟩
  have HZ0 : Hid (Z 0 = []) := hid (by rw [hZ]; rfl)
  have HZs : Hid (∀ k, Z (k + 1) = Z k ++ [0]) := hid (fun k => by rw [hZ]; exact repl_snoc k)
  have HZl : Hid (∀ k, (Z k).length = k) := hid (fun k => by rw [hZ]; simp)
  have HZn : Hid (List.replicate n 0 = Z n) := hid (by rw [hZ])
  clear hZ
  go_enter Tryz.func75, Tryz.ntmps75
  go_wp2
  go_loopw [0, 5] (fun u z wr => ∃ (k : Nat), k ≤ n ∧ z = .int .i64 k ∧ Gr wr B u (l ++ Z k) ∧ (0 < k → wr.ownsRow B 5 1 u (l.length + k) (u8s (l ++ Z k))) ∧ Below B w wr ∧ B ≤ wr.heap.size) (fun _ z _ => n - (RowKit.intOf z).toNat)
  case atStart => exact ⟨0, Nat.zero_le _, rfl, by rw [HZ0.out]; simpa using HG.out, fun h => by omega, Below.refl _ _, hB⟩
  case round =>
    obtain ⟨k, hk, rfl, hg, how, hb, hBr⟩ := hrel
    have hlk : (l ++ Z k).length = l.length + k := by rw [List.length_append, HZl.out]
    obtain ⟨a1, c1, e1⟩ := hg.slice
    rw [hlk] at e1
    subst e1
    have HG1 := hid hg
    have HOW := hid how
    have HB := hid hb
    have HLK := hid hlk
    clear hg how hb hlk
    by_cases hlt : k < n
    · have hki : (k : Int) < n := by omega
      obtain ⟨W1, hW1⟩ : ∃ W1, W1 = wr.alloc (.cells #[.int .u8 0] 5) := ⟨_, rfl⟩
      have hb1 : Below wr.heap.size wr W1 := by rw [hW1]; exact (Below.refl _ _).alloc (Nat.le_refl _) _
      have hc1 : W1.cell? ⟨wr.heap.size, 0, none⟩ = some (.int .u8 0) := by rw [hW1, new_cell _ _ _ _ 0 (by simp)]; rfl
      obtain ⟨a2, c2, w2, hap, hg2, ho2, hb2, _, _⟩ := (HG1.out.later hb1).push (Nat.le_trans hBr hb1.size) [0] (by simp [IsB]) (by simp) ⟨wr.heap.size, 0, none⟩ 1 1 rfl (fun j u hj => by
        have hj2 : j < 1 := (List.getElem?_eq_some_iff.1 hj).1
        obtain rfl : j = 0 := by omega
        rw [add_addr, hc1]; simpa using hj) (by rw [HLK.out]; omega) 59
      rw [HLK.out] at hap hg2 ho2
      rw [List.append_assoc, ← HZs.out] at hg2 ho2
      have HG2 := hid hg2
      have HO2 := hid ho2
      have HB2 : Hid (Below B w w2) := hid ((HB.out.trans (hb1.mono hBr)).trans hb2)
      have HS2 : Hid (B ≤ w2.heap.size) := hid (Nat.le_trans (Nat.le_trans hBr hb1.size) hb2.size)
      clear hb1 hc1 hg2 ho2 hb2
      go_wp2_with (at_builtin; rw [← hW1]; refine wpList_append_run rfl _ _ 59 rfl rfl rfl hap ?_)
      go_roundw
      case rel => exact ⟨k + 1, by omega, by go_num, HG2.out, fun _ => HO2.out, HB2.out, HS2.out⟩
      case measure => simp [RowKit.intOf]; omega
    · have hki : ¬ ((k : Int) < n) := by omega
      obtain rfl : k = n := by omega
      go_wp2
      go_ret
      have g2 := HOW.out (by omega)
      exact ⟨a1, c1, rfl, by rw [HZn.out]; exact HG1.out, by first | (rw [HZn.out]; exact g2) | (rw [HZn.out, ← u8s_app]; exact g2) | (have e := u8s_app l (Z k); rw [← HZn.out] at g2 e; rw [e] at g2; simpa using g2), HB.out⟩
theorem Gr.of_const (w : World) (B : Nat) (l : List Int) (n : Nat) (fr : Nat × Nat) (hn : l.length = n) (hl : ∀ x ∈ l, IsB x) : Gr (w.alloc (.cells (u8s l).toArray 5 fr)) B (.slice (some ⟨w.heap.size, 0, none⟩) n n) l := by
  subst hn
  exact ⟨hl, .inr ⟨w.heap.size, 0, rfl, (by_const w l fr hl).weak (fun _ _ _ => trivial)⟩⟩
theorem By.cells {w : World} {S : Nat → Prop} {b off : Nat} {d : List Int} (h : By w S (some ⟨b, off, none⟩) d) : ∀ j u, (u8s d)[j]? = some u → w.cell? ((⟨b, off, none⟩ : Addr).add j) = some u := fun j u hj => by
  have hj2 : j < d.length := by have := (List.getElem?_eq_some_iff.1 hj).1; simpa using this
  obtain ⟨b', off', cur, fr, ea, _, hh, hcur⟩ := h.2 (by omega)
  simp only [Option.some.injEq, Addr.mk.injEq, and_true] at ea
  obtain ⟨rfl, rfl⟩ := ea
  rw [u8s_get hj2] at hj
  rw [add_addr]
  simp [World.cell?, hh, hcur j hj2]
  simpa using hj
theorem Low' (w : World) (B : Nat) (v : Value) (l : List Int) (h : Gr w B v l) (hB : B ≤ w.heap.size) (n : Nat) (N x : Int) (hN : N = n) (hn : 0 < n ∧ n ≤ 8) (h0 : 0 ≤ x) (h1 : x < 18446744073709551616) (hl : l.length ≤ 900000) (m : Nat) (hm : l.length + n = m) (K : List Int) (hK : l ++ bytesLe n x = K) :
    Calls Tryz.prog 91 #[v, .int .i64 N, .int .u64 x] w fun e w' => ∃ a c, e = .returned (.slice a m c) ∧ Gr w' B (.slice a m c) K ∧ w'.ownsRow B 5 1 (.slice a m c) m (u8s K) ∧ Below B w w' := by
  subst hm hK
  exact Low_any w B v l h hB n N x hN hn h0 h1 hl
theorem Noughts' (w : World) (B : Nat) (v : Value) (l : List Int) (h : Gr w B v l) (hB : B ≤ w.heap.size) (n : Nat) (N : Int) (hN : N = n) (hn : 0 < n) (hl : l.length + n ≤ 900000) (m : Nat) (hm : l.length + n = m) (K : List Int) (hK : l ++ List.replicate n 0 = K) :
    Calls Tryz.prog 75 #[v, .int .i64 N] w fun e w' => ∃ a c, e = .returned (.slice a m c) ∧ Gr w' B (.slice a m c) K ∧ w'.ownsRow B 5 1 (.slice a m c) m (u8s K) ∧ Below B w w' := by
  subst hm hK
  exact Noughts_any w B v l h hB n N hN hn hl
end Go.Proofs.YtaplmlldmhdhoaaGreatDoor

/- Rows of bits: a block of 512 bytes as 4096 answers yes or no. -/
namespace Go.Proofs.YtaplmlldmhdhoaaGreatDoor
open Go.RowKit Go.Maps
set_option linter.unusedVariables false

def b2 (b : Bool) : Int := if b then 1 else 0
def eight (c0 c1 c2 c3 c4 c5 c6 c7 : Bool) : Int := b2 c0 + 2 * b2 c1 + 4 * b2 c2 + 8 * b2 c3 + 16 * b2 c4 + 32 * b2 c5 + 64 * b2 c6 + 128 * b2 c7
def by8 (f : Nat → Bool) (k : Nat) : Int := eight (f (8 * k)) (f (8 * k + 1)) (f (8 * k + 2)) (f (8 * k + 3)) (f (8 * k + 4)) (f (8 * k + 5)) (f (8 * k + 6)) (f (8 * k + 7))
/-- A block of bits. -/
def bitB (f : Nat → Bool) : List Int := (List.range 512).map (by8 f)
theorem bitB_len (f : Nat → Bool) : (bitB f).length = 512 := by simp [bitB]
theorem bitB_get (f : Nat → Bool) {k : Nat} (h : k < 512) : (bitB f).getD k 0 = by8 f k := by simp [bitB, List.getD, h]
theorem eight_bd (c0 c1 c2 c3 c4 c5 c6 c7 : Bool) : 0 ≤ eight c0 c1 c2 c3 c4 c5 c6 c7 ∧ eight c0 c1 c2 c3 c4 c5 c6 c7 < 256 := by
  cases c0 <;> cases c1 <;> cases c2 <;> cases c3 <;> cases c4 <;> cases c5 <;> cases c6 <;> cases c7 <;> decide
theorem by8_bd (f : Nat → Bool) (k : Nat) : 0 ≤ by8 f k ∧ by8 f k < 256 := eight_bd _ _ _ _ _ _ _ _
theorem bitB_isB (f : Nat → Bool) : ∀ x ∈ bitB f, IsB x := by
  intro x hx
  obtain ⟨k, _, rfl⟩ := List.mem_map.1 hx
  exact by8_bd f k
theorem eight_cases (P : Bool → Bool → Bool → Bool → Bool → Bool → Bool → Bool → Prop) (h : ∀ c0 c1 c2 c3 c4 c5 c6 c7, P c0 c1 c2 c3 c4 c5 c6 c7) (f : Nat → Bool) (k : Nat) : P (f (8 * k)) (f (8 * k + 1)) (f (8 * k + 2)) (f (8 * k + 3)) (f (8 * k + 4)) (f (8 * k + 5)) (f (8 * k + 6)) (f (8 * k + 7)) := h _ _ _ _ _ _ _ _
theorem fin8 {j : Nat} (h : j < 8) : j = 0 ∨ j = 1 ∨ j = 2 ∨ j = 3 ∨ j = 4 ∨ j = 5 ∨ j = 6 ∨ j = 7 := by omega

theorem or_eight : ∀ c0 c1 c2 c3 c4 c5 c6 c7 : Bool,
    bits .or .u8 (eight c0 c1 c2 c3 c4 c5 c6 c7) 1 = eight true c1 c2 c3 c4 c5 c6 c7 ∧ bits .or .u8 (eight c0 c1 c2 c3 c4 c5 c6 c7) 2 = eight c0 true c2 c3 c4 c5 c6 c7 ∧
    bits .or .u8 (eight c0 c1 c2 c3 c4 c5 c6 c7) 4 = eight c0 c1 true c3 c4 c5 c6 c7 ∧ bits .or .u8 (eight c0 c1 c2 c3 c4 c5 c6 c7) 8 = eight c0 c1 c2 true c4 c5 c6 c7 ∧
    bits .or .u8 (eight c0 c1 c2 c3 c4 c5 c6 c7) 16 = eight c0 c1 c2 c3 true c5 c6 c7 ∧ bits .or .u8 (eight c0 c1 c2 c3 c4 c5 c6 c7) 32 = eight c0 c1 c2 c3 c4 true c6 c7 ∧
    bits .or .u8 (eight c0 c1 c2 c3 c4 c5 c6 c7) 64 = eight c0 c1 c2 c3 c4 c5 true c7 ∧ bits .or .u8 (eight c0 c1 c2 c3 c4 c5 c6 c7) 128 = eight c0 c1 c2 c3 c4 c5 c6 true := by decide +kernel
theorem xor_eight : ∀ c0 c1 c2 c3 c4 c5 c6 c7 : Bool,
    bits .xor .u8 (eight c0 c1 c2 c3 c4 c5 c6 c7) 1 = eight (!c0) c1 c2 c3 c4 c5 c6 c7 ∧ bits .xor .u8 (eight c0 c1 c2 c3 c4 c5 c6 c7) 2 = eight c0 (!c1) c2 c3 c4 c5 c6 c7 ∧
    bits .xor .u8 (eight c0 c1 c2 c3 c4 c5 c6 c7) 4 = eight c0 c1 (!c2) c3 c4 c5 c6 c7 ∧ bits .xor .u8 (eight c0 c1 c2 c3 c4 c5 c6 c7) 8 = eight c0 c1 c2 (!c3) c4 c5 c6 c7 ∧
    bits .xor .u8 (eight c0 c1 c2 c3 c4 c5 c6 c7) 16 = eight c0 c1 c2 c3 (!c4) c5 c6 c7 ∧ bits .xor .u8 (eight c0 c1 c2 c3 c4 c5 c6 c7) 32 = eight c0 c1 c2 c3 c4 (!c5) c6 c7 ∧
    bits .xor .u8 (eight c0 c1 c2 c3 c4 c5 c6 c7) 64 = eight c0 c1 c2 c3 c4 c5 (!c6) c7 ∧ bits .xor .u8 (eight c0 c1 c2 c3 c4 c5 c6 c7) 128 = eight c0 c1 c2 c3 c4 c5 c6 (!c7) := by decide +kernel
theorem div_eight : ∀ c0 c1 c2 c3 c4 c5 c6 c7 : Bool,
    (eight c0 c1 c2 c3 c4 c5 c6 c7 / 1 % 2 = b2 c0 ∧ eight c0 c1 c2 c3 c4 c5 c6 c7 / 2 % 2 = b2 c1 ∧ eight c0 c1 c2 c3 c4 c5 c6 c7 / 4 % 2 = b2 c2 ∧ eight c0 c1 c2 c3 c4 c5 c6 c7 / 8 % 2 = b2 c3 ∧
    eight c0 c1 c2 c3 c4 c5 c6 c7 / 16 % 2 = b2 c4 ∧ eight c0 c1 c2 c3 c4 c5 c6 c7 / 32 % 2 = b2 c5 ∧ eight c0 c1 c2 c3 c4 c5 c6 c7 / 64 % 2 = b2 c6 ∧ eight c0 c1 c2 c3 c4 c5 c6 c7 / 128 % 2 = b2 c7) ∧
    (eight c0 c1 c2 c3 c4 c5 c6 c7 = 255 ↔ (c0 && c1 && c2 && c3 && c4 && c5 && c6 && c7) = true) := by decide +kernel
theorem and1_u8 : ∀ x : Fin 256, bits .and .u8 (x.val : Int) 1 = (x.val : Int) % 2 := by decide +kernel
/-- A bit is set. -/
theorem by8_or (f : Nat → Bool) (k j : Nat) (h : j < 8) : bits .or .u8 (by8 f k) (2 ^ j) = by8 (fun i => f i || decide (i = 8 * k + j)) k := by
  have e : ∀ a b : Nat, decide (8 * k + a = 8 * k + b) = decide (a = b) := fun a b => by simp
  have e0 : ∀ b : Nat, decide (8 * k = 8 * k + b) = decide (b = 0) := fun b => by simp
  have z := eight_cases _ or_eight f k
  obtain ⟨z0, z1, z2, z3, z4, z5, z6, z7⟩ := z
  rcases fin8 h with rfl | rfl | rfl | rfl | rfl | rfl | rfl | rfl
  · simpa [by8, e, e0] using z0
  · simpa [by8, e, e0] using z1
  · simpa [by8, e, e0] using z2
  · simpa [by8, e, e0] using z3
  · simpa [by8, e, e0] using z4
  · simpa [by8, e, e0] using z5
  · simpa [by8, e, e0] using z6
  · simpa [by8, e, e0] using z7
def flip1 (f : Nat → Bool) (i : Nat) : Nat → Bool := fun j => if j = i then !f j else f j
/-- A bit is turned. -/
theorem by8_xor (f : Nat → Bool) (k j : Nat) (h : j < 8) : bits .xor .u8 (by8 f k) (2 ^ j) = by8 (flip1 f (8 * k + j)) k := by
  have z := eight_cases _ xor_eight f k
  obtain ⟨z0, z1, z2, z3, z4, z5, z6, z7⟩ := z
  rcases fin8 h with rfl | rfl | rfl | rfl | rfl | rfl | rfl | rfl
  · simpa [by8, flip1] using z0
  · simpa [by8, flip1] using z1
  · simpa [by8, flip1] using z2
  · simpa [by8, flip1] using z3
  · simpa [by8, flip1] using z4
  · simpa [by8, flip1] using z5
  · simpa [by8, flip1] using z6
  · simpa [by8, flip1] using z7
/-- A bit is asked. -/
theorem by8_at (f : Nat → Bool) (k j : Nat) (h : j < 8) : by8 f k / 2 ^ j % 2 = b2 (f (8 * k + j)) := by
  have z := (eight_cases _ div_eight f k).1
  obtain ⟨z0, z1, z2, z3, z4, z5, z6, z7⟩ := z
  rcases fin8 h with rfl | rfl | rfl | rfl | rfl | rfl | rfl | rfl
  · simpa [by8] using z0
  · simpa [by8] using z1
  · simpa [by8] using z2
  · simpa [by8] using z3
  · simpa [by8] using z4
  · simpa [by8] using z5
  · simpa [by8] using z6
  · simpa [by8] using z7
theorem by8_full (f : Nat → Bool) (k : Nat) : by8 f k = 255 ↔ ∀ j, j < 8 → f (8 * k + j) = true := by
  have z := (eight_cases _ div_eight f k).2
  refine z.trans ?_
  simp only [Bool.and_eq_true]
  constructor
  · rintro ⟨⟨⟨⟨⟨⟨⟨h0, h1⟩, h2⟩, h3⟩, h4⟩, h5⟩, h6⟩, h7⟩ j hj
    rcases fin8 hj with rfl | rfl | rfl | rfl | rfl | rfl | rfl | rfl <;> assumption
  · intro h
    exact ⟨⟨⟨⟨⟨⟨⟨h 0 (by omega), h 1 (by omega)⟩, h 2 (by omega)⟩, h 3 (by omega)⟩, h 4 (by omega)⟩, h 5 (by omega)⟩, h 6 (by omega)⟩, h 7 (by omega)⟩
theorem by8_other {f g : Nat → Bool} {k : Nat} (h : ∀ j, j < 8 → f (8 * k + j) = g (8 * k + j)) : by8 f k = by8 g k := by
  have h0 := h 0 (by omega)
  rw [Nat.add_zero] at h0
  simp only [by8, h0, h 1 (by omega), h 2 (by omega), h 3 (by omega), h 4 (by omega), h 5 (by omega), h 6 (by omega), h 7 (by omega)]
theorem bitB_congr {f g : Nat → Bool} (h : ∀ i, i < 4096 → f i = g i) : bitB f = bitB g := by
  unfold bitB
  refine List.map_congr_left fun k hk => by8_other fun j hj => h _ ?_
  have := List.mem_range.1 hk
  omega
theorem bitB_set_gen (f g : Nat → Bool) (i : Nat) (hi : i < 4096) (x : Int) (hx : x = by8 g (i / 8)) (ho : ∀ j, j ≠ i → g j = f j) : (bitB f).set (i / 8) x = bitB g := by
  refine List.ext_getElem (by simp [bitB_len]) fun n h1 h2 => ?_
  simp only [List.length_set, bitB_len] at h1 h2
  rw [List.getElem_set]
  by_cases e : i / 8 = n
  · subst e
    simp [bitB, hx]
  · rw [if_neg e]
    simp only [bitB, List.getElem_map, List.getElem_range]
    exact by8_other fun j hj => (ho _ (by omega)).symm
theorem bitB_or (f : Nat → Bool) (i : Nat) (hi : i < 4096) : (bitB f).set (i / 8) (bits .or .u8 (by8 f (i / 8)) (2 ^ (i % 8))) = bitB (fun j => f j || decide (j = i)) := by
  refine bitB_set_gen _ _ i hi _ ?_ (fun j hj => by simp [hj])
  rw [by8_or f (i / 8) (i % 8) (Nat.mod_lt _ (by decide)), Nat.div_add_mod]
theorem bitB_flip (f : Nat → Bool) (i : Nat) (hi : i < 4096) : (bitB f).set (i / 8) (bits .xor .u8 (by8 f (i / 8)) (2 ^ (i % 8))) = bitB (flip1 f i) := by
  refine bitB_set_gen _ _ i hi _ ?_ (fun j hj => by simp [flip1, hj])
  rw [by8_xor f (i / 8) (i % 8) (Nat.mod_lt _ (by decide)), Nat.div_add_mod]
theorem bitB_at (f : Nat → Bool) (i : Nat) : by8 f (i / 8) / 2 ^ (i % 8) % 2 = b2 (f i) := by
  rw [by8_at f (i / 8) (i % 8) (Nat.mod_lt _ (by decide)), Nat.div_add_mod]
theorem bitB_none : bitB (fun _ => false) = List.replicate 512 0 := by
  refine List.ext_getElem (by rw [bitB_len, List.length_replicate]) fun n h1 h2 => ?_
  rw [List.getElem_replicate]
  simp only [bitB, List.getElem_map]
  rfl
end Go.Proofs.YtaplmlldmhdhoaaGreatDoor

/- What the chapter says of numbers: where what lies, block 0, a new volume. -/
namespace Go.Proofs.YtaplmlldmhdhoaaGreatDoor
open Go.RowKit Go.Maps
set_option linter.unusedVariables false

def planT (b : Int) : Int := 69 + (b + 4095) / 4096
def planD (b i : Int) : Int := planT b + i / 4
def planE (b i : Int) : Int := if b < 128 ∨ 65536 < b ∨ i < 8 ∨ 4096 < i ∨ i % 4 ≠ 0 then 1 else if b < planD b i + 8 then 14 else 0
theorem planE_cases (b i : Int) : (planE b i = 1 ∧ (b < 128 ∨ 65536 < b ∨ i < 8 ∨ 4096 < i ∨ i % 4 ≠ 0)) ∨ (128 ≤ b ∧ b ≤ 65536 ∧ 8 ≤ i ∧ i ≤ 4096 ∧ i % 4 = 0 ∧ ((planE b i = 14 ∧ b < planD b i + 8) ∨ (planE b i = 0 ∧ planD b i + 8 ≤ b))) := by
  unfold planE
  split
  · exact .inl ⟨rfl, by assumption⟩
  · right
    refine ⟨by omega, by omega, by omega, by omega, by omega, ?_⟩
    split
    · exact .inl ⟨rfl, by assumption⟩
    · exact .inr ⟨rfl, by omega⟩
structure PlanOk (b i : Int) : Prop where
  b0 : 128 ≤ b
  b1 : b ≤ 65536
  i0 : 8 ≤ i
  i1 : i ≤ 4096
  i4 : i % 4 = 0
  d : planD b i + 8 ≤ b
theorem PlanOk.of {b i : Int} (h : planE b i = 0) : PlanOk b i := by
  rcases planE_cases b i with ⟨e, _⟩ | ⟨h1, h2, h3, h4, h5, ⟨e, _⟩ | ⟨_, h6⟩⟩
  · omega
  · omega
  · exact ⟨h1, h2, h3, h4, h5, h6⟩
theorem PlanOk.e {b i : Int} (h : PlanOk b i) : planE b i = 0 := by
  rcases planE_cases b i with ⟨_, h'⟩ | ⟨h1, h2, h3, h4, h5, ⟨e, h'⟩ | ⟨e, h6⟩⟩
  · have := h.b0; have := h.b1; have := h.i0; have := h.i1; have := h.i4; omega
  · have := h.d; omega
  · exact e
abbrev n64 (x : Int) : Value := .int .i64 x
def supC (b i : Int) : Array Value := #[n64 b, n64 i, n64 1, n64 2, n64 68, n64 69, n64 (planT b), n64 (planD b i)]
def sup0 : Array Value := #[n64 0, n64 0, n64 0, n64 0, n64 0, n64 0, n64 0, n64 0]
def supA (b i : Int) : Array Value := if planE b i = 0 then supC b i else sup0
theorem supA_ok {b i : Int} (h : planE b i = 0) : supA b i = supC b i := by unfold supA; rw [if_pos h]
theorem supA_no {b i : Int} (h : planE b i ≠ 0) : supA b i = sup0 := by unfold supA; rw [if_neg h]

/-! ### block 0 -/
def supW : List Int := [85, 78, 68, 67, 82, 79, 70, 49]
def supB (b i : Int) : List Int := supW ++ bytesLe 4 b ++ bytesLe 4 i
def encP (b i : Int) : List Int := pad (supB b i) 508
def encL (b i : Int) : List Int := encP b i ++ bytesLe 4 (crcL (encP b i))
theorem supW_isB : ∀ x ∈ supW, IsB x := by intro x hx; simp [supW] at hx; unfold IsB; omega
theorem app_isB {l m : List Int} (h : ∀ x ∈ l, IsB x) (h' : ∀ x ∈ m, IsB x) : ∀ x ∈ l ++ m, IsB x := fun x hx => by rcases List.mem_append.1 hx with h1 | h1; exact h x h1; exact h' x h1
theorem supB_isB (b i : Int) : ∀ x ∈ supB b i, IsB x := app_isB (app_isB supW_isB (bytesLe_isB _ _)) (bytesLe_isB _ _)
theorem supB_len (b i : Int) : (supB b i).length = 16 := by simp [supB, supW, len_le]
theorem encP_len (b i : Int) : (encP b i).length = 508 := pad_len _ _ (by rw [supB_len]; omega)
theorem encP_isB (b i : Int) : ∀ x ∈ encP b i, IsB x := pad_isB _ _ (supB_isB _ _)
theorem encL_len (b i : Int) : (encL b i).length = 512 := by unfold encL; rw [List.length_append, encP_len, len_le]
theorem encL_isB (b i : Int) : ∀ x ∈ encL b i, IsB x := app_isB (encP_isB _ _) (bytesLe_isB _ _)
def le4 (l : List Int) (k : Nat) : Int := leOf ((l.drop k).take 4)
def decE (l : List Int) : Int := if l.length ≠ 512 then 14 else if l.take 8 ≠ supW ∨ planE (le4 l 8) (le4 l 12) ≠ 0 then 15 else if le4 l 508 ≠ crcL (l.take 508) then 13 else 0
def decA (l : List Int) : Array Value := if decE l = 0 then supC (le4 l 8) (le4 l 12) else sup0

/-! ### a new volume -/
def noughts (n : Nat) : List Int := List.replicate n 0
def imB (i : Int) : Nat → Bool := fun k => decide ((k : Int) < 2) || decide (i ≤ (k : Int))
def bmB (b d : Int) (r : Nat) : Nat → Bool := fun k => decide (((r * 4096 + k : Nat) : Int) ≤ d) || decide (b ≤ ((r * 4096 + k : Nat) : Int))
def rootA : List Int := [2, 0] ++ bytesLe 2 493 ++ bytesLe 2 2 ++ bytesLe 2 0 ++ bytesLe 4 0 ++ bytesLe 4 0 ++ bytesLe 4 1 ++ bytesLe 4 0 ++ bytesLe 8 64 ++ bytesLe 8 0
def timesL (s ns : Int) : Nat → List Int
  | 0 => []
  | k + 1 => timesL s ns k ++ bytesLe 4 s ++ bytesLe 4 ns
theorem timesL_len (s ns : Int) (k : Nat) : (timesL s ns k).length = 8 * k := by
  induction k with
  | zero => rfl
  | succ k ih => simp only [timesL, List.length_append, ih, len_le]; omega
def rootB (d s ns : Int) : List Int := rootA ++ timesL s ns 3 ++ bytesLe 4 d
theorem rootA_len : rootA.length = 40 := by simp [rootA, len_le]
theorem rootB_len (d s ns : Int) : (rootB d s ns).length = 68 := by simp [rootB, rootA_len, timesL_len, len_le]
def rootL (d s ns : Int) : List Int := rootB d s ns ++ List.replicate 60 0
theorem rootL_len (d s ns : Int) : (rootL d s ns).length = 128 := by unfold rootL; rw [List.length_append, rootB_len, List.length_replicate]
def entB (l : List Int) : List Int := bytesLe 4 1 ++ [(l.length : Int)] ++ l
theorem entB_len (l : List Int) : (entB l).length = 5 + l.length := by simp [entB, len_le]; omega
def entL (l : List Int) : List Int := entB l ++ List.replicate (27 - l.length) 0
theorem entL_len (l : List Int) (h : l.length ≤ 27) : (entL l).length = 32 := by unfold entL; rw [List.length_append, entB_len, List.length_replicate]; omega
/-- The table's first block; the root's lines. -/
def nodeL (d s ns : Int) : List Int := List.replicate 128 0 ++ rootL d s ns ++ List.replicate 256 0
def linesL : List Int := entL [46] ++ entL [46, 46] ++ List.replicate 448 0
/-- The bits of the blocks: each row that has some. -/
def bmRows (b d : Int) : Nat → List Pt
  | 0 => []
  | r + 1 => bmRows b d r ++ (if (List.range 4096).any (bmB b d r) then [⟨69 + (r : Int), bitB (bmB b d r)⟩] else [])
def mkfsL (b i s ns : Int) : List Pt := [⟨0, encL b i⟩, ⟨68, bitB (imB i)⟩] ++ bmRows b (planD b i) ((b + 4095) / 4096).toNat ++ [⟨planT b, nodeL (planD b i) s ns⟩, ⟨planD b i, linesL⟩]
end Go.Proofs.YtaplmlldmhdhoaaGreatDoor

/- Set: a bit of a block of bits. -/
namespace Go.Proofs.YtaplmlldmhdhoaaGreatDoor
open Go.RowKit Go.Maps
set_option linter.unusedVariables false

/-- A row of 512 bytes that holds bits. -/
def BitR (w : World) (g : Nat) (f : Nat → Bool) : Prop := w.heap[g]? = some (.cells (u8s (bitB f)).toArray 5 (0, 0))
theorem BitR.cell {w : World} {g : Nat} {f : Nat → Bool} (h : BitR w g f) {k : Nat} (hk : k < 512) : w.cell? ⟨g, k, none⟩ = some (.int .u8 (by8 f k)) := by
  refine cell_of h ?_
  rw [List.getElem?_toArray, u8s_get (by rw [bitB_len]; exact hk), bitB_get f hk]
theorem BitR.set {w : World} {g : Nat} {f : Nat → Bool} (h : BitR w g f) {k : Nat} (v : Int) {f' : Nat → Bool} (e : (bitB f).set k v = bitB f') : BitR (w.setCell ⟨g, k, none⟩ (.int .u8 v)) g f' := by
  unfold BitR
  rw [setc h k (.int .u8 v), ← e, List.setIfInBounds_toArray]
  simp
theorem BitR.by_ {w : World} {g : Nat} {f : Nat → Bool} (h : BitR w g f) {S : Nat → Prop} (hS : S g) : By w S (some ⟨g, 0, none⟩) (bitB f) :=
  ⟨bitB_isB f, fun _ => ⟨g, 0, _, _, rfl, hS, h, fun i hi => by rw [Nat.zero_add, List.getElem?_toArray, u8s_get hi]⟩⟩
theorem BitR.row {w : World} {g : Nat} {f : Nat → Bool} (h : BitR w g f) {B : Nat} (hB : B ≤ g) : w.ownsRow B 5 1 (.slice (some ⟨g, 0, none⟩) 512 512) 512 (u8s (bitB f)) := by
  refine ⟨by simp [bitB_len], .inr ⟨g, 512, _, rfl, hB, h, Nat.le_refl _, by decide, by simp [bitB_len], ?_⟩⟩
  simp [List.take_of_length_le, bitB_len]
set_option maxRecDepth 100000 in
set_option maxHeartbeats 1000000 in
theorem Set_any (w : World) (g : Nat) (f : Nat → Bool) (h : BitR w g f) (i : Nat) (hi : i < 4096) :
    Calls Tryz.prog 74 #[.slice (some ⟨g, 0, none⟩) 512 512, n64 i] w fun e w' => e = .returned (.tuple #[]) ∧ BitR w' g (fun j => f j || decide (j = i)) ∧ Mods (fun b => b = g) w w' := by
  have hk : i / 8 < 512 := by omega
  have hc := h.cell hk
  have hf := froz_of h (i / 8)
  have ed : ((i : Int) / 8).toNat = i / 8 := by omega
  have ep : (2 : Int) ^ (i % 8) % 256 = 2 ^ (i % 8) := by
    rcases fin8 (Nat.mod_lt i (show 0 < 8 by decide)) with e | e | e | e | e | e | e | e <;> rw [e] <;> decide
  have HE := hid (h.set _ (bitB_or f i hi))
  have HEP := hid ep
  clear ep
  go_enter Tryz.func74, Tryz.ntmps74
  go_region
  go_end0
  rw [HEP.out]
  exact ⟨rfl, HE.out, ((Mods.refl (fun b => b = g) w).setCell g _ _ rfl).drew⟩
end Go.Proofs.YtaplmlldmhdhoaaGreatDoor

/- One operation of a region that draws its order. -/
namespace Go.Proofs.YtaplmlldmhdhoaaGreatDoor
open Go.RowKit

section
variable {P : Program} {ops : Array Oper} {Q : Exit → Act → World → Prop} {i : Nat} {o : Oper} {a : Act} {w : World} {K : Act → World → Prop}
theorem nop_value (ho : ops[i]? = some o) (hg : Region.wanted o (yielded ops a.tmps) = true) {v : Value} {w' : World} (hrun : (execOp a.eval o).run P w = .ok (.value v) w') (h : K (a.put o.dst v) w') : wpOp P ops Q i K a w := by
  unfold wpOp
  simp only [ho]
  rw [if_pos hg]
  left
  unfold Oper.wp
  rw [hrun]
  exact h
end
theorem nany_one {P : Program} {md : Region.Mode} {ops : Array Oper} {Q : Exit → Act → World → Prop} {S : World → Prop} {fuel : Nat} {listed : Array Bool} {a : Act} {w : World} (i : Nat) (hr : Region.ready md ops listed = [i])
    (h : wpOp P ops Q i (fun a' w' => S w' ∧ wpAnyH P md ops Q S fuel (listed.setIfInBounds i true) a' w') a w) : wpAnyH P md ops Q S (fuel + 1) listed a w :=
  wpAnyH_all hr (by simp) (fun j hj => by simp at hj; subst hj; exact h)
theorem nany_two {P : Program} {md : Region.Mode} {ops : Array Oper} {Q : Exit → Act → World → Prop} {S : World → Prop} {fuel : Nat} {listed : Array Bool} {a : Act} {w : World} (i j : Nat) (hr : Region.ready md ops listed = [i, j])
    (h : wpOp P ops Q i (fun a' w' => S w' ∧ wpAnyH P md ops Q S fuel (listed.setIfInBounds i true) a' w') a w) (h' : wpOp P ops Q j (fun a' w' => S w' ∧ wpAnyH P md ops Q S fuel (listed.setIfInBounds j true) a' w') a w) : wpAnyH P md ops Q S (fuel + 1) listed a w :=
  wpAnyH_all hr (by simp) (fun k hk => by simp at hk; rcases hk with rfl | rfl; exact h; exact h')

theorem nput_some {o : Oper} {dd : Nat} (hd : o.dst = some dd) (a : Act) (v : Value) : a.put o.dst v = { a with tmps := a.tmps.setIfInBounds dd v } := by rw [hd]; rfl
theorem nput_none {o : Oper} (hd : o.dst = none) (a : Act) (v : Value) : a.put o.dst v = a := by rw [hd]; rfl
theorem nany_take {P : Program} {md : Region.Mode} {ops : Array Oper} {Q : Exit → Act → World → Prop} {S : World → Prop} {fuel : Nat} {listed : Array Bool} {a : Act} {w : World} (i dd : Nat) (v : Value) {oi : Oper} (hi : ops[i]? = some oi) (hd : oi.dst = some dd)
    (hs : Region.noSelect ops = true) (hf : Region.free md ops listed i = true) (hr : (Region.ready md ops listed).contains i = true)
    (hQ : ∀ c a w, Q (.panic c) (a.put oi.dst v) w → Q (.panic c) a w) (hy : YieldsIf P ops S oi v a) (hS : S w)
    (h : wpAnyH P md ops Q S fuel (listed.setIfInBounds i true) { a with tmps := a.tmps.setIfInBounds dd v } w) : wpAnyH P md ops Q S (fuel + 1) listed a w :=
  wpAnyH_take hi hs hf hr hQ hy hS (by rw [nput_some hd]; exact h)
theorem nany_skip {P : Program} {md : Region.Mode} {ops : Array Oper} {Q : Exit → Act → World → Prop} {S : World → Prop} {fuel : Nat} {listed : Array Bool} {a : Act} {w : World} (i dd : Nat) {oi : Oper} (hi : ops[i]? = some oi) (hd : oi.dst = some dd)
    (hs : Region.noSelect ops = true) (hf : Region.free md ops listed i = true) (hr : (Region.ready md ops listed).contains i = true)
    (hQ : ∀ c a w, Q (.panic c) (a.put oi.dst undef) w → Q (.panic c) a w) (hw : Region.wanted oi (yielded ops a.tmps) = false) (hS : S w)
    (h : wpAnyH P md ops Q S fuel (listed.setIfInBounds i true) { a with tmps := a.tmps.setIfInBounds dd undef } w) : wpAnyH P md ops Q S (fuel + 1) listed a w :=
  wpAnyH_take hi hs hf hr hQ (Or.inr ⟨hw, rfl⟩) hS (by rw [nput_some hd]; exact h)
section
variable {P : Program} {ops : Array Oper} {Q : Exit → Act → World → Prop} {i : Nat} {o : Oper} {a : Act} {w : World} {K : Act → World → Prop}
theorem nop_value' (dd : Nat) (ho : ops[i]? = some o) (hg : Region.wanted o (yielded ops a.tmps) = true) (hd : o.dst = some dd) {v : Value} {w' : World} (hrun : (execOp a.eval o).run P w = .ok (.value v) w') (h : K { a with tmps := a.tmps.setIfInBounds dd v } w') : wpOp P ops Q i K a w :=
  nop_value ho hg hrun (by rw [nput_some hd]; exact h)
theorem nop_callE (dd : Nat) (ho : ops[i]? = some o) (hg : Region.wanted o (yielded ops a.tmps) = true) (hd : o.dst = some dd) {f : FuncId} {args : Array Value} {R : Value → World → Prop} (hrun : (execOp a.eval o).run P w = .ok (.enter f args) w) (hc : Calls P f args w fun e w' => ∃ v, e = .returned v ∧ R v w')
    (h : ∀ v w', R v w' → K { a with tmps := a.tmps.setIfInBounds dd v } w') : wpOp P ops Q i K a w := by
  unfold wpOp
  simp only [ho]
  rw [if_pos hg]
  left
  unfold Oper.wp
  rw [hrun]
  refine hc.mono fun e w' hr => ?_
  obtain ⟨v, rfl, hk⟩ := hr
  have := h v w' hk
  rw [← nput_some hd] at this
  exact this
end
section
variable {P : Program} {md : Region.Mode} {ops : Array Oper} {Q : Exit → Act → World → Prop} {S S' : World → Prop}
theorem nwpAnyH_strong (hS : ∀ w, S' w → S w) : ∀ (fuel : Nat) (listed : Array Bool) (a : Act) (w : World), wpAnyH P md ops Q S' fuel listed a w → wpAnyH P md ops Q S fuel listed a w
  | 0, _, _, _, h => h
  | fuel + 1, _, _, _, h => ⟨h.1, fun i hi => wpOp_mono (fun a' w' h' => ⟨hS w' h'.1, nwpAnyH_strong hS fuel _ a' w' h'.2⟩) (h.2 i hi)⟩
end
theorem nop_skip {P : Program} {ops : Array Oper} {Q : Exit → Act → World → Prop} {i : Nat} {o : Oper} {a : Act} {w : World} {K : Act → World → Prop} (ho : ops[i]? = some o) (hg : Region.wanted o (yielded ops a.tmps) = true) (hd : o.dst = none) {w' : World} (hrun : (execOp a.eval o).run P w = .ok .skip w') (h : K a w') : wpOp P ops Q i K a w := by
  unfold wpOp
  simp only [ho]
  rw [if_pos hg]
  left
  unfold Oper.wp
  rw [hrun]
  rw [← nput_none hd a undef] at h
  exact h
end Go.Proofs.YtaplmlldmhdhoaaGreatDoor
