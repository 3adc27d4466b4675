/- Bytes of one's own that are stored into; the document's Echo. -/
import Derived.Test.YtgdajplloamjcaaPbF
namespace Go.Proofs.Ytgdajplloamjcaa
open Go.RowKit Go.Maps
set_option linter.unusedVariables false
/-- Cells that are these bytes. -/
def BC (cur : Array Value) (l : List Int) : Prop := ∀ i, i < l.length → cur[i]? = some (.int .u8 (l.getD i 0))
theorem BC.set {cur : Array Value} {l : List Int} (h : BC cur l) (k : Nat) (x : Int) (hk : k < l.length) : BC (cur.setIfInBounds k (.int .u8 x)) (l.set k x) := fun i hi => by
  rw [List.length_set] at hi
  have hc := h i hi
  have hs : i < cur.size := by
    rcases Nat.lt_or_ge i cur.size with h1 | h1
    · exact h1
    · rw [Array.getElem?_eq_none h1] at hc; simp at hc
  rw [Array.getElem?_setIfInBounds]
  by_cases e : k = i
  · subst e
    rw [if_pos rfl, if_pos hs]
    simp [List.getD, hk]
  · rw [if_neg e, hc]
    simp [List.getD, e]
theorem GO.cells {w : World} {B n c : Nat} {a : Option Addr} {l : List Int} (h : GO w B (.slice a n c) l) (hn : l.length = n) (hp : 0 < n) : ∃ g cur, a = some ⟨g, 0, none⟩ ∧ B ≤ g ∧ w.heap[g]? = some (.cells cur 5 (0, 0)) ∧ n ≤ c ∧ n ≤ cur.size ∧ BC cur l := by
  obtain ⟨hI, h1, h2⟩ := h
  rcases h2 with ⟨e, h0⟩ | ⟨g, cap, cur, e, hg, hh, hc1, hc2, hcs, ht⟩
  · omega
  · simp only [Value.slice.injEq] at e
    obtain ⟨rfl, _, rfl⟩ := e
    refine ⟨g, cur, rfl, hg, hh, by omega, by omega, fun i hi => ?_⟩
    have e : (cur.toList.take (l.length * 1))[i]? = (u8s l)[i]? := by rw [ht]
    rw [List.getElem?_take, if_pos (by omega), Array.getElem?_toList, u8s_get hi] at e
    exact e
theorem BC.bytes {w : World} {g : Nat} {cur : Array Value} {l : List Int} {S : Nat → Prop} (h : BC cur l) (hh : w.heap[g]? = some (.cells cur 5 (0, 0))) (hI : ∀ x ∈ l, IsB x) (hS : S g) : By w S (some ⟨g, 0, none⟩) l :=
  ⟨hI, fun _ => ⟨g, 0, cur, (0, 0), rfl, hS, hh, fun i hi => by rw [Nat.zero_add]; exact h i hi⟩⟩
theorem isB_set {l : List Int} (h : ∀ x ∈ l, IsB x) (k : Nat) {y : Int} (hy : IsB y) : ∀ x ∈ l.set k y, IsB x := by
  intro x hx
  rcases List.mem_or_eq_of_mem_set hx with h1 | h1
  · exact h x h1
  · rw [h1]; exact hy
theorem zero4 (w : World) : GO (w.alloc (.cells #[.int .u8 0, .int .u8 0, .int .u8 0, .int .u8 0] 5)) w.heap.size (.slice (some ⟨w.heap.size, 0, none⟩) 4 4) [0, 0, 0, 0] :=
  ⟨fun x hx => by simp at hx; subst hx; unfold IsB; omega, rfl, .inr ⟨w.heap.size, 4, _, rfl, Nat.le_refl _, alloc_new w _, Nat.le_refl _, by unfold maxLen; omega, by simp, by simp [u8s]⟩⟩
theorem inet_four (l : List Int) : inetL ([0, 0, 0, 0] ++ l) = inetL (bytesBe 2 0 ++ l) := by
  have e : bytesBe 2 0 = [0, 0] := by decide
  rw [e]
  unfold inetL
  simp only [List.cons_append, List.nil_append, wsum]
  rw [show (0 + 1 + 1 + 1 + 1 : Nat) = 2 + 2 by rfl, wsum_par 2]
  simp
theorem be2 (S : Int) : bytesBe 2 S = [S / 256 % 256, S % 256] := by
  simp [bytesBe, List.range, List.range.loop]
theorem kind_be (l : List Int) (h : ∀ x ∈ l, IsB x) (hl : 2 ≤ l.length) : beOf ((l.drop 0).take 2) = l.getD 0 0 * 256 + l.getD 1 0 := by
  match l, hl with
  | x :: y :: l, _ => simp [beOf, beOn]
set_option maxRecDepth 100000 in
set_option maxHeartbeats 4000000 in
theorem rEcho_any (w : World) (a : Option Addr) (n c : Nat) (l : List Int) (hn : l.length = n) (hl : n ≤ 70000) (hc : n ≤ c) (hb : Bytes w a l) :
    Calls Try.prog 19 #[.slice a n c] w fun e w' => ∃ a2 c2, e = .returned (.tuple #[.slice a2 (ecL l).length c2, .int .i64 (ecE l)]) ∧ By w' (New w) a2 (ecL l) ∧ (ecL l).length ≤ c2 ∧ Below w.heap.size w w' := by
  have hdef : ecL l = if ecE l = 0 then ecR l else [] := rfl
  by_cases h8 : n < 8
  · have e0 : ecE l = 11 := by unfold ecE; rw [if_pos (by omega)]
    rw [hdef, e0, if_neg (by omega)]
    have h8i : (n : Int) < 8 := by omega
    clear hdef hb hn e0
    go_enter Try.func19, Try.ntmps19
    go_wp2
    go_ret2
    exact ⟨none, 0, rfl, By.nil _ _ _, Nat.le_refl _, Below.refl _ _⟩
  · have h8i : ¬ ((n : Int) < 8) := by omega
    have HI1 : Calls Try.prog 26 #[.slice a n c] w fun e w' => e = .returned (.int .u16 (inetL l)) ∧ w' = w := refInet_at a n c l w hn (by omega) hb
    by_cases hs : inetL l = 0
    · rw [hs] at HI1
      have hkb := kind_be l hb.isB (by omega)
      have hx0 := mem_getD l IsB hb.isB 0 (by omega)
      have hx1 := mem_getD l IsB hb.isB 1 (by omega)
      obtain ⟨b, off, rfl, hcell⟩ := hb.open_ (by omega)
      have c0 := hcell 0 (by omega)
      have c1 := hcell 1 (by omega)
      rw [Nat.add_zero] at c0
      by_cases hk : beOf ((l.drop 0).take 2) = 2048
      · have e0 : ecE l = 0 := by unfold ecE; rw [if_neg (by omega), if_neg (by simpa using hs), if_neg (by simpa using hk)]
        rw [hdef, e0, if_pos rfl, ecR_len l (by omega), hn]
        obtain ⟨a4, hcut, hcb⟩ := cut_l (some ⟨b, off, none⟩) n c 4 (by omega) hc
        have hcut' : ∀ W : World, (Instr.slice 22 (.slice (some ⟨b, off, none⟩) n c) (some (.int .i64 4)) none none).run Try.prog W = .ok (.slice a4 (n - 4) (c - 4)) W := hcut
        obtain ⟨W1, hW1, b1⟩ := newW w (.cells #[.int .u8 0, .int .u8 0, .int .u8 0, .int .u8 0] 5)
        have hz := zero4 w
        rw [← hW1] at hz
        obtain ⟨a2, c2, w2, hap, hg2, hb2⟩ := hz.push rfl b1.size (l.drop 4) a4 (n - 4) (c - 4) (by simp; omega) (hcb W1 l hn (hb.later b1)) (by omega) 22
        have hlen : ([0, 0, 0, 0] ++ l.drop 4).length = 4 + (n - 4) := by simp; omega
        obtain ⟨g, cur, rfl, hgB, hh, hcc, hcs, hbc⟩ := hg2.cells hlen (by omega)
        obtain ⟨S, hS⟩ : ∃ S, S = inetL ([0, 0, 0, 0] ++ l.drop 4) := ⟨_, rfl⟩
        have hib := inetL_bd _ hg2.1
        rw [← hS] at hib
        have b02 := b1.trans hb2
        have hI2 : Calls Try.prog 26 #[.slice (some ⟨g, 0, none⟩) (4 + (n - 4)) c2] w2 fun e w' => e = .returned (.int .u16 S) ∧ w' = w2 := by
          rw [hS]; exact refInet_at _ _ c2 _ w2 hlen (by omega) (hbc.bytes (S := fun _ => True) hh hg2.1 trivial).bytes
        obtain ⟨W3, hW3, h3, b3, k3, s3⟩ := setP hh 2 (.int .u8 (S / 256)) w.heap.size w b02 hgB
        obtain ⟨W4, hW4, h4, b4, k4, s4⟩ := setP h3 3 (.int .u8 (S % 256)) w.heap.size w b3 hgB
        have hbc3 := hbc.set 2 (S / 256) (by omega)
        have hbc4 := hbc3.set 3 (S % 256) (by rw [List.length_set]; omega)
        have hfin : (([0, 0, 0, 0] ++ l.drop 4).set 2 (S / 256)).set 3 (S % 256) = ecR l := by
          unfold ecR
          rw [← inet_four, ← hS, be2 S, show bytesBe 2 0 = [0, 0] by decide, show S / 256 % 256 = S / 256 by omega]
          rfl
        rw [hfin] at hbc4
        have hIr : ∀ x ∈ ecR l, IsB x := by
          rw [← hfin]; exact isB_set (isB_set hg2.1 2 (by unfold IsB; omega)) 3 (by unfold IsB; omega)
        have f2 := froz_of hh 2
        have c22 := cell_of hh (hbc 2 (by omega))
        have f3 := froz_of h3 3
        have c33 := cell_of h3 (hbc3 3 (by rw [List.length_set]; omega))
        have hw8 : IntKind.u8.wrap (S / 256) = S / 256 := IntWalk.u8_in _ (by omega)
        have hw9 : IntKind.u8.wrap S = S % 256 := IntKind.wrap_u8 S
        have hx8 : l.getD 0 0 = 8 ∧ l.getD 1 0 = 0 := by rw [hk] at hkb; unfold IsB at hx0 hx1; omega
        have hd0 : (l.getD 0 0 != 8) = false := by rw [hx8.1]; rfl
        have hd1 : (l.getD 1 0 != 0) = false := by rw [hx8.2]; rfl
        have HY4 := hid (hbc4.bytes (S := New w) h4 hIr hgB)
        have HB4 := hid b4
        have HI := hid HI1
        have HI2 := hid hI2
        have HCC := hid hcc
        have HW1 := hW1.symm
        have HW3 := hW3.symm
        have HW4 := hW4.symm
        have hin2 : (2 : Int) < ((4 + (n - 4) : Nat) : Int) := by omega
        have hin3 : (3 : Int) < ((4 + (n - 4) : Nat) : Int) := by omega
        have h0n : (0 : Int) < n := by omega
        have h1n : (1 : Int) < n := by omega
        clear hx8
        generalize l.getD 0 0 = x0 at *
        generalize l.getD 1 0 = x1 at *
        clear hdef e0 hn hb hcb HI1 hs hk hkb hx0 hx1 hcut hW1 hW3 hW4 hz hg2 hlen hh hcs hbc hib hS b02 hI2 h3 b3 k3 s3 h4 b4 k4 s4 hbc3 hbc4 hfin hIr hb2 b1 hcell
        go_enter Try.func19, Try.ntmps19
        go_wp2_with (first
          | (go_at_call 26; refine HI.out.mono ?_; rintro e w9 ⟨rfl, rfl⟩; clear HI)
          | (go_at_call 26; refine HI2.out.mono ?_; rintro e w9 ⟨rfl, rfl⟩; clear HI2)
          | (at_builtin; refine wpList_append_run rfl _ _ 22 rfl rfl rfl hap ?_))
        go_ret2
        exact ⟨_, _, congrArg (fun k => Ending.returned (.tuple #[.slice (some ⟨g, 0, none⟩) k c2, .int .i64 0])) (show 4 + (n - 4) = n by omega), HY4.out, by have := HCC.out; omega, HB4.out⟩
      · have e0 : ecE l = 3 := by unfold ecE; rw [if_neg (by omega), if_neg (by simpa using hs), if_pos (by simpa using hk)]
        rw [hdef, e0, if_neg (by omega)]
        have HI := hid HI1
        have h0n : (0 : Int) < n := by omega
        have h1n : (1 : Int) < n := by omega
        by_cases h0 : l.getD 0 0 = 8
        · have h1 : ¬ l.getD 1 0 = 0 := by omega
          have hd0 : (l.getD 0 0 != 8) = false := by rw [h0]; rfl
          have hd1 : (l.getD 1 0 != 0) = true := bne_iff_ne.2 h1
          generalize l.getD 0 0 = x0 at *
          generalize l.getD 1 0 = x1 at *
          clear hdef e0 hn hb HI1 hs hk hkb hcell h0 h1 hx0 hx1
          go_enter Try.func19, Try.ntmps19
          go_wp2_with (go_at_call 26; refine HI.out.mono ?_; rintro e w9 ⟨rfl, rfl⟩; clear HI)
          go_ret2
          exact ⟨none, 0, rfl, By.nil _ _ _, Nat.le_refl _, Below.refl _ _⟩
        · have hd0 : (l.getD 0 0 != 8) = true := bne_iff_ne.2 h0
          generalize l.getD 0 0 = x0 at *
          generalize l.getD 1 0 = x1 at *
          clear hdef e0 hn hb HI1 hs hk hkb hcell h0 hx0 hx1
          go_enter Try.func19, Try.ntmps19
          go_wp2_with (go_at_call 26; refine HI.out.mono ?_; rintro e w9 ⟨rfl, rfl⟩; clear HI)
          go_ret2
          exact ⟨none, 0, rfl, By.nil _ _ _, Nat.le_refl _, Below.refl _ _⟩
    · have e0 : ecE l = 13 := by unfold ecE; rw [if_neg (by omega), if_pos (by simpa using hs)]
      rw [hdef, e0, if_neg (by omega)]
      have hkb : (inetL l != 0) = true := by simpa using hs
      generalize inetL l = kd at *
      have HI := hid HI1
      clear hdef e0 hn hb HI1 hs
      go_enter Try.func19, Try.ntmps19
      go_wp2_with (go_at_call 26; refine HI.out.mono ?_; rintro e w2 ⟨rfl, rfl⟩; clear HI)
      go_ret2
      exact ⟨none, 0, rfl, By.nil _ _ _, Nat.le_refl _, Below.refl _ _⟩
end Go.Proofs.Ytgdajplloamjcaa
