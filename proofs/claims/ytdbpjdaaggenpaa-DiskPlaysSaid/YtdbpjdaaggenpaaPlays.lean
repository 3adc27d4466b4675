/- DiskPlays: for all numbers of blocks and all calls it returns true: whatever is written, flushed and lost, a disk tells, and keeps, what the document says. No condition. -/
import Derived.Test.YtdbpjdaaggenpaaRefO
namespace Go.Proofs.Ytdbpjdaaggenpaa.diskPlays
open Go.RowKit

theorem done_any (w : World) (pd px : Nat) (A : Abs) (n : Nat) (ald alx : Nat → Prop) (hp : Pair w pd px A n ald alx) (hn : n ≤ 274877906944) (c : Cl) (hi : Ints w c.pa c.pl) (hl : c.pl.length * 8 ≤ 140737488355328) (ho : Off (fun b => ald b ∨ alx b) w c.pa c.pl) :
    Calls Try.prog 11 #[.pointer (some ⟨pd, 0, none⟩), .pointer (some ⟨px, 0, none⟩), clV c] w fun e w' => e = .returned (.bool true) ∧ ∃ A', A'.N = A.N ∧ PStep w w' pd px A' (n + 65536) ald alx := by
  by_cases h1 : c.kind = 1
  · exact done_write w pd px A n ald alx hp hn c h1
  · by_cases h3 : c.kind = 3
    · exact done_flush w pd px A n ald alx hp hn c h3
    · by_cases h4 : c.kind = 4
      · exact done_crash w pd px A n ald alx hp hn c h4 hi hl ho
      · refine (done_read w pd px A n ald alx hp hn c h1 h3 h4).mono ?_
        rintro e w' ⟨rfl, hb⟩
        exact ⟨rfl, A, rfl, (PStep.of_below hp hb).mono (by omega)⟩

/-- Both disks, as the law holds them. -/
def Held2 (w w' : World) (pd px : Nat) (N : Int) (k : Nat) : Prop := ∃ A n ald alx, A.N = N ∧ n ≤ k * 65536 ∧ Pair w' pd px A n ald alx ∧ (∀ b, ald b ∨ alx b → w.heap.size ≤ b) ∧ Below w.heap.size w w' ∧ w.heap.size ≤ w'.heap.size
theorem Held2.below {w w1 w2 : World} {pd px : Nat} {N : Int} {k : Nat} (h : Held2 w w1 pd px N k) (hb : Below w1.heap.size w1 w2) : Held2 w w2 pd px N k :=
  let ⟨A, n, ald, alx, h1, h2, h3, h4, h5, h6⟩ := h; ⟨A, n, ald, alx, h1, h2, h3.below hb, h4, h5.trans (hb.mono h6), Nat.le_trans h6 hb.size⟩
theorem Held2.cell0 {w w1 : World} {pd px : Nat} {N : Int} {k : Nat} (h : Held2 w w1 pd px N k) : w1.cell? ⟨px, 0, none⟩ = some (.int .i64 N) := by
  obtain ⟨A, n, ald, alx, rfl, _, ⟨_, ⟨vL, es, d, _, _⟩, _⟩, _⟩ := h
  simp [World.cell?, d.box]
theorem Held2.alike {w w1 : World} {pd px : Nat} {N : Int} {k : Nat} (h : Held2 w w1 pd px N k) (hk : k ≤ 60) :
    Calls Try.prog 12 #[.pointer (some ⟨pd, 0, none⟩), .pointer (some ⟨px, 0, none⟩)] w1 fun e w' => e = .returned (.bool true) ∧ Below w1.heap.size w1 w' :=
  let ⟨A, n, ald, alx, _, h2, h3, _⟩ := h; alike_any w1 pd px A n ald alx h3.1 h3.2.1 (by omega)
theorem Held2.done {w w1 : World} {pd px : Nat} {N : Int} {k : Nat} (h : Held2 w w1 pd px N k) (hk : k < 60) (c : Cl) (hi : Ints w c.pa c.pl) (hl : c.pl.length * 8 ≤ 140737488355328) :
    Calls Try.prog 11 #[.pointer (some ⟨pd, 0, none⟩), .pointer (some ⟨px, 0, none⟩), clV c] w1 fun e w' => e = .returned (.bool true) ∧ Held2 w w' pd px N (k + 1) := by
  obtain ⟨A, n, ald, alx, h1, h2, h3, h4, h5, h6⟩ := h
  refine (done_any w1 pd px A n ald alx h3 (by omega) c (hi.below h5) hl (hi.off h6 h4)).mono ?_
  rintro e w' ⟨rfl, A', hA', ald', alx', hp, hsub, hmo⟩
  refine ⟨rfl, A', n + 65536, ald', alx', hA'.trans h1, by omega, hp, fun b hb => ?_, hmo.below h5 h6 h4, Nat.le_trans h6 hmo.size⟩
  rcases hsub b hb with h | h
  · exact h4 b h
  · omega

set_option maxRecDepth 100000 in
set_option maxHeartbeats 4000000 in
theorem walkB (N : Int) (a0 : Option Addr) (c0 : Nat) (cs : List Cl) (w : World) (hcl : ClAt w a0 cs) (hpl : ∀ i, i < cs.length → (cs.getD i default).pl.length * 8 ≤ 140737488355328) :
    Calls Try.prog 3 #[.int .i64 N, .slice a0 cs.length c0] w fun e w' => e = .returned (.bool true) ∧ Below w.heap.size w w' := by
  have HC := hid hcl
  have HPl := hid hpl
  clear hcl hpl
  go_enter Try.func3, Try.ntmps3
  go_wp2_with fail
  refine (known_any w).mono ?_
  rintro e w1 ⟨rfl, hb1⟩
  have HB1 := hid hb1
  clear hb1
  by_cases hN : 1 ≤ N ∧ N ≤ 65536
  · go_wp2_with fail
    refine (New_any N hN w1).mono ?_
    rintro e w2 ⟨pd, ald, rfl, hb2, hd2, ha2⟩
    have HB2 := hid hb2
    have HD2 := hid hd2
    have HA2 := hid ha2
    clear hb2 hd2 ha2
    go_wp2_with fail
    refine (RNew_any N hN w2).mono ?_
    rintro e w3 ⟨px, alx, rfl, hb3, hx3, ha3⟩
    have H3 : Hid (Held2 w w3 pd px N 0) := hid ⟨noDisk N, 0, ald, alx, rfl, by omega, ⟨HD2.out.below hb3, hx3, fun b hb hb' => by have := HD2.out.lt b hb; have := ha3 b hb'; omega⟩, fun b hb => by
      have h1 := HB1.out.size
      have h2 := HB2.out.size
      rcases hb with hb | hb
      · have := HA2.out b hb; omega
      · have := ha3 b hb; omega, (HB1.out.trans (HB2.out.mono HB1.out.size)).trans (hb3.mono (Nat.le_trans HB1.out.size HB2.out.size)), Nat.le_trans HB1.out.size (Nat.le_trans HB2.out.size hb3.size)⟩
    clear hb3 hx3 ha3 HB2 HD2 HA2 HB1
    by_cases h300 : N ≤ 300
    · have h300' : ¬ (300 < N) := by omega
      go_wp2_with fail
      go_loopw [9] (fun i wr => ∃ k : Nat, k ≤ cs.length ∧ k ≤ 60 ∧ i = .int .i64 k ∧ Held2 w wr pd px N k) (fun i _ => 60 - (RowKit.intOf i).toNat)
      case atStart => exact ⟨0, Nat.zero_le _, Nat.zero_le _, rfl, H3.out⟩
      case round =>
        obtain ⟨k, hk1, hk2, rfl, hh⟩ := hrel
        have H := hid hh
        have hc0 := hh.cell0
        clear hh H3
        by_cases hlt : k < cs.length ∧ k < 60
        · obtain ⟨hlt, hl2⟩ := hlt
          have hki : (k : Int) < (cs.length : Int) := by omega
          have hki2 : (k : Int) < 60 := by omega
          obtain ⟨cb, co, ha0, hc_0, hc_1, hc_2, hc_3, hc_4, _, _, _, _, hints⟩ := HC.out k hlt
          subst ha0
          have hbe : Below w.heap.size w wr := let ⟨_, _, _, _, _, _, _, _, h, _⟩ := H.out; h
          have hd_0 := cell_later hbe hc_0
          have hd_1 := cell_later hbe hc_1
          have hd_2 := cell_later hbe hc_2
          have hd_3 := cell_later hbe hc_3
          have hd_4 := cell_later hbe hc_4
          rw [Nat.add_zero] at hd_0
          have hdone := hid (H.out.done hl2 (cs.getD k default) hints (HPl.out k hlt))
          unfold clV at hdone
          generalize cs.getD k default = c at hd_0 hd_1 hd_2 hd_3 hd_4 hdone
          clear hc_0 hc_1 hc_2 hc_3 hc_4 hbe hints
          go_wp2_with fail
          refine hdone.out.mono ?_
          rintro e w4 ⟨rfl, hh4⟩
          have hc04 := hh4.cell0
          have H4 := hid hh4
          clear hh4 H hdone hd_0 hd_1 hd_2 hd_3 hd_4 hc0
          by_cases hm4 : (k : Int).tmod 4 = 3
          · have hm4d : ((k : Int).tmod 4 == 3) = true := by rw [hm4]; rfl
            go_wp2_with (go_at_call 12; refine (H4.out.alike (by omega)).mono ?_; rintro e w5 ⟨rfl, hb5⟩; have H5 := hid (H4.out.below hb5); clear hb5)
            go_roundw
            case rel => exact ⟨k + 1, by omega, by omega, by go_num, H5.out⟩
            case measure => simp [RowKit.intOf]; omega
          · have hm4d : ((k : Int).tmod 4 == 3) = false := by simpa using hm4
            go_wp2
            go_roundw
            case rel => exact ⟨k + 1, by omega, by omega, by go_num, H4.out⟩
            case measure => simp [RowKit.intOf]; omega
        · have hcc2 : ¬ ((k : Int) < (cs.length : Int) ∧ (k : Int) < 60) := by omega
          clear hlt
          go_wp2_with (go_at_call 12; refine (H.out.alike hk2).mono ?_; rintro e w5 ⟨rfl, hb5⟩; have H5 := hid (H.out.below hb5); clear hb5)
          all_goals
            go_ret
            exact ⟨rfl, (let ⟨_, _, _, _, _, _, _, _, h, _⟩ := H5.out; h)⟩
    · have h300' : 300 < N := by omega
      go_wp2_with fail
      go_loopw [9] (fun i wr => ∃ k : Nat, k ≤ cs.length ∧ k ≤ 60 ∧ i = .int .i64 k ∧ Held2 w wr pd px N k) (fun i _ => 60 - (RowKit.intOf i).toNat)
      case atStart => exact ⟨0, Nat.zero_le _, Nat.zero_le _, rfl, H3.out⟩
      case round =>
        obtain ⟨k, hk1, hk2, rfl, hh⟩ := hrel
        have H := hid hh
        have hc0 := hh.cell0
        clear hh H3
        by_cases hlt : k < cs.length ∧ k < 60
        · obtain ⟨hlt, hl2⟩ := hlt
          have hki : (k : Int) < (cs.length : Int) := by omega
          have hki2 : (k : Int) < 60 := by omega
          obtain ⟨cb, co, ha0, hc_0, hc_1, hc_2, hc_3, hc_4, _, _, _, _, hints⟩ := HC.out k hlt
          subst ha0
          have hbe : Below w.heap.size w wr := let ⟨_, _, _, _, _, _, _, _, h, _⟩ := H.out; h
          have hd_0 := cell_later hbe hc_0
          have hd_1 := cell_later hbe hc_1
          have hd_2 := cell_later hbe hc_2
          have hd_3 := cell_later hbe hc_3
          have hd_4 := cell_later hbe hc_4
          rw [Nat.add_zero] at hd_0
          have hdone := hid (H.out.done hl2 (cs.getD k default) hints (HPl.out k hlt))
          unfold clV at hdone
          generalize cs.getD k default = c at hd_0 hd_1 hd_2 hd_3 hd_4 hdone
          clear hc_0 hc_1 hc_2 hc_3 hc_4 hbe hints
          go_wp2_with fail
          refine hdone.out.mono ?_
          rintro e w4 ⟨rfl, hh4⟩
          have hc04 := hh4.cell0
          have H4 := hid hh4
          clear hh4 H hdone hd_0 hd_1 hd_2 hd_3 hd_4 hc0
          by_cases hm4 : (k : Int).tmod 4 = 3
          · have hm4d : ((k : Int).tmod 4 == 3) = true := by rw [hm4]; rfl
            go_wp2
            go_roundw
            case rel => exact ⟨k + 1, by omega, by omega, by go_num, H4.out⟩
            case measure => simp [RowKit.intOf]; omega
          · have hm4d : ((k : Int).tmod 4 == 3) = false := by simpa using hm4
            go_wp2
            go_roundw
            case rel => exact ⟨k + 1, by omega, by omega, by go_num, H4.out⟩
            case measure => simp [RowKit.intOf]; omega
        · have hcc2 : ¬ ((k : Int) < (cs.length : Int) ∧ (k : Int) < 60) := by omega
          clear hlt
          go_wp2
          all_goals
            go_ret
            exact ⟨rfl, (let ⟨_, _, _, _, _, _, _, _, h, _⟩ := H.out; h)⟩
  · go_wp2_with fail
    refine (New_err N hN w1).mono ?_
    rintro e w2 ⟨rfl, hw⟩
    rw [hw]
    clear hw w2
    go_wp2_with fail
    refine (RNew_err N hN w1).mono ?_
    rintro e w2 ⟨rfl, hw⟩
    rw [hw]
    clear hw w2
    go_wp2
    go_ret
    exact ⟨rfl, HB1.out⟩
end Go.Proofs.Ytdbpjdaaggenpaa.diskPlays
