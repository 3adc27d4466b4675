/- NetC, NetD in one text. -/
import Derived.Test.YtdjghkngiicncaaGreatNetB
/- vnet: the card's side of a queue. -/
namespace Go.Proofs.YtdjghkngiicncaaGreat
open Go.RowKit

theorem Step.trans {w w' w'' : World} {pd : Nat} {q : Qu} {A' : Abs} {c' : Nat} {al al' : Nat → Prop} (h1 : ∀ b, al' b → al b ∨ w.heap.size ≤ b) (h2 : Mods (fun b => al b ∨ b = q.g) w w') (h : Step w' w'' pd q A' c' al') : Step w w'' pd q A' c' al := by
  obtain ⟨al2, hd, ha, hm⟩ := h
  refine ⟨al2, hd, fun b hb => ?_, ?_⟩
  · rcases ha b hb with h3 | h3
    · exact h1 b h3
    · exact .inr (Nat.le_trans h2.size h3)
  · refine h2.trans hm (fun b hb => ?_)
    rcases hb with hb | hb
    · rcases h1 b hb with h3 | h3
      · exact .inl (.inl h3)
      · exact .inr h3
    · exact .inl (.inr hb)
theorem Step.after {w w' w'' : World} {pd : Nat} {q : Qu} {A : Abs} {c : Nat} {al : Nat → Prop} (h : Step w w' pd q A c al) (hb : Below w'.heap.size w' w'') : Step w w'' pd q A c al := by
  obtain ⟨al2, hd, ha, hm⟩ := h
  exact ⟨al2, hd.below hb, ha, hm.below hb⟩
theorem Step.ahead {w w' w'' : World} {pd : Nat} {q : Qu} {A : Abs} {c : Nat} {al : Nat → Prop} (hb : Below w.heap.size w w') (h : Step w' w'' pd q A c al) : Step w w'' pd q A c al :=
  Step.trans (fun _ hb => .inl hb) (Mods.of_below hb) h
theorem Step.size {w w' : World} {pd : Nat} {q : Qu} {A : Abs} {c : Nat} {al : Nat → Prop} (h : Step w w' pd q A c al) : w.heap.size ≤ w'.heap.size := by
  obtain ⟨_, _, _, hm⟩ := h; exact hm.size

theorem one_buf (w : World) (x y : Int) (t : Bool) (g : Nat) (hg : g < w.heap.size) : Bufs (w.alloc (.cells #[.int .i64 x, .int .i64 y, .bool t] 88)) (some ⟨w.heap.size, 0, none⟩) [⟨x, y, t⟩] g := fun i hi => by
  obtain rfl : i = 0 := by simpa using hi
  exact ⟨w.heap.size, 0, rfl, by omega, new_cell w _ _ _ 0 (by simp), new_cell w _ _ _ 1 (by simp), new_cell w _ _ _ 2 (by simp)⟩
set_option maxRecDepth 100000 in
set_option maxHeartbeats 1000000 in
theorem offerRoom_any (w : World) (pd : Nat) (q : Qu) (S : Sd) (c : Nat) (al : Nat → Prop) (first place z : Nat) (hd : Drv w pd q S.A c al) (hm : Mem w q.g q.N S.f) (hp : place ≤ 256) (hz : first + place * 1528 = z) (hf : z + 1526 ≤ q.N) (hfr : 0 < S.A.free.length) (hc : c < 1099511627776) :
    Calls Tryz.prog 25 #[sideV pd q.g q.N first, .int .i64 place] w fun e w' => e = .returned (.int .i64 0) ∧ Step w w' pd q (addS q S ⟨z, 1526, true⟩).A (c + 1) al ∧ Mem w' q.g q.N (addS q S ⟨z, 1526, true⟩).f := by
  have hbig := q.geo.big
  have hcon : ∀ W : World, Calls Tryz.prog 55 #[sideV pd q.g q.N first, .int .i64 place, .int .i64 1526] W fun e w' => e = .returned (.agg #[.int .i64 z, .int .i64 1526, .bool false]) ∧ Below W.heap.size W w' := fun W => piece_any W pd q.g q.N first place 1526 z (by omega) (by omega) (by omega)
  have HC := hid hcon
  have HD := hid hd
  have HM := hid hm
  have HZ := hid hz
  have HF := hid hf
  have hgl : q.g < w.heap.size := hm.lt
  clear hcon hd hm hz hf
  unfold sideV at *
  obtain ⟨c0, c1, c2⟩ := side_cells w pd q.g q.N first
  obtain ⟨W, hW⟩ : ∃ W, W = w.alloc (.cells #[.pointer (some ⟨pd, 0, none⟩), .slice (some ⟨q.g, 0, none⟩) q.N q.N, .int .i64 first] 51) := ⟨_, rfl⟩
  have HB0 : Hid (Below w.heap.size w W) := hid (by rw [hW]; exact (Below.refl _ _).alloc (Nat.le_refl _) _)
  rw [← hW] at c0 c1 c2
  go_enter Tryz.func25, Tryz.ntmps25
  go_wp2_with fail
  rw [← hW]
  clear hW
  refine (HC.out W).mono ?_
  rintro e w5 ⟨rfl, hb5⟩
  have HB5 := hid (HB0.out.trans (hb5.mono HB0.out.size))
  replace c0 := cell_later (hb5.alloc hb5.size (.cells #[.int .i64 z, .int .i64 1526, .bool true] 88)) c0
  clear hb5 c1 c2
  have HB6 : Hid (Below w.heap.size w (w5.alloc (.cells #[.int .i64 z, .int .i64 1526, .bool true] 88))) := hid (HB5.out.alloc HB5.out.size _)
  have hcon : Hid (Calls Tryz.prog 56 #[.pointer (some ⟨pd, 0, none⟩), .slice (some ⟨w5.heap.size + 1, 0, none⟩) 1 1] ((w5.alloc (.cells #[.int .i64 z, .int .i64 1526, .bool true] 88)).alloc (.cells #[.int .i64 z, .int .i64 1526, .bool true] 88)) fun e w' => e = .returned (.tuple #[.int .i64 (S.A.free.getD 0 0 : Nat), .int .i64 0]) ∧ Step ((w5.alloc (.cells #[.int .i64 z, .int .i64 1526, .bool true] 88)).alloc (.cells #[.int .i64 z, .int .i64 1526, .bool true] 88)) w' pd q (AddA S.A 1) (c + 1) al ∧ Mem w' q.g q.N (addF S.f q S.A [⟨z, 1526, true⟩])) := by
    have hb : Below w.heap.size w ((w5.alloc (.cells #[.int .i64 z, .int .i64 1526, .bool true] 88)).alloc (.cells #[.int .i64 z, .int .i64 1526, .bool true] 88)) := HB6.out.alloc HB6.out.size _
    have hsz : (w5.alloc (.cells #[.int .i64 z, .int .i64 1526, .bool true] 88)).heap.size = w5.heap.size + 1 := by simp
    refine hid (Add_ok _ pd q S.A c al S.f (HD.out.below hb) (HM.out.below hb) (some ⟨w5.heap.size + 1, 0, none⟩) 1 1 [⟨z, 1526, true⟩] rfl (hsz ▸ one_buf (w5.alloc (.cells #[.int .i64 z, .int .i64 1526, .bool true] 88)) z 1526 true q.g (Nat.lt_of_lt_of_le hgl HB6.out.size)) (fun b off e hb2 => ?_) (fun b hb2 => ?_) (by omega) hfr hc)
    · have h1 := HD.out.lt b hb2
      have h2 := HB5.out.size
      simp at e
      try omega
    · simp at hb2
      subst hb2
      have := HF.out
      exact ⟨by simp, by simp; omega, by simp, by simp⟩
  go_wp2_with fail
  refine hcon.out.mono ?_
  rintro e w8 ⟨rfl, hs8, hm8⟩
  have HS8 := hid hs8
  have HM8 := hid hm8
  clear hs8 hm8
  generalize ((S.A.free.getD 0 0 : Nat) : Int) = hx at *
  go_wp2
  go_ret
  exact ⟨rfl, HS8.out.ahead (HB6.out.alloc HB6.out.size _), HM8.out⟩

/-- The number in a cell. -/
def cellN (w : World) (b k : Nat) : Nat := match w.cell? ⟨b, k, none⟩ with | some (.int _ u) => u.toNat | _ => 0
theorem Drv.uses {w : World} {pd : Nat} {q : Qu} {A : Abs} {c : Nat} {al : Nat → Prop} (h : Drv w pd q A c al) : cellN w pd 9 = A.uses := by
  obtain ⟨vf, bm, M, d⟩ := h
  obtain ⟨g, base, n, N, po, pu, Ld, Lo, Lu, geo⟩ := q
  obtain ⟨_, _, _, _, _, _, _, _, _, h9, _⟩ := d.cells
  unfold cellN
  rw [h9]
  simp
theorem Dev.offs {w : World} {pv : Nat} {q : Qu} {o u : Nat} (h : Dev w pv q o u) : cellN w pv 8 = o := by
  obtain ⟨g, base, n, N, po, pu, Ld, Lo, Lu, geo⟩ := q
  obtain ⟨_, _, _, _, _, _, _, _, h8, _⟩ := h.cells
  unfold cellN
  rw [h8]
  simp
set_option maxRecDepth 100000 in
set_option maxHeartbeats 1000000 in
theorem takeBack_any (w : World) (pd : Nat) (q : Qu) (S : Sd) (c : Nat) (al : Nat → Prop) (first : Int) (hd : Drv w pd q S.A c al) (hm : Mem w q.g q.N S.f) (hok : Ok q S) :
    Calls Tryz.prog 32 #[sideV pd q.g q.N first] w fun e w' => e = .returned (.tuple #[]) ∧ Step w w' pd q (backS q S).A c al ∧ Mem w' q.g q.N (backS q S).f := by
  have HD := hid hd
  have HM := hid hm
  have HOK := hid hok
  have hlt := hid hd.lt
  have hgl := hid hm.lt
  clear hd hm hok
  unfold sideV
  obtain ⟨c0, _, _⟩ := side_cells w pd q.g q.N first
  obtain ⟨W, hW⟩ : ∃ W, W = w.alloc (.cells #[.pointer (some ⟨pd, 0, none⟩), .slice (some ⟨q.g, 0, none⟩) q.N q.N, .int .i64 first] 51) := ⟨_, rfl⟩
  have HB0 : Hid (Below w.heap.size w W) := hid (by rw [hW]; exact (Below.refl _ _).alloc (Nat.le_refl _) _)
  have hBn : Hid (w.heap.size < W.heap.size) := hid (by rw [hW]; simp)
  rw [← hW] at c0
  generalize hR : backS q S = R
  have HR := hid hR
  clear hR
  go_enter Tryz.func32, Tryz.ntmps32
  go_wp2_with fail
  rw [← hW]
  clear hW
  go_loopw [2] (fun v w1 => ∃ (S1 : Sd) (k : Int), v = .int .i64 k ∧ (k = 2 → S1 = R) ∧ backS q S1 = R ∧ Ok q S1 ∧ S1.f = S.f ∧ Mem w1 q.g q.N S1.f ∧ Step W w1 pd q S1.A c al ∧ w1.cell? ⟨w.heap.size, 0, none⟩ = some (.pointer (some ⟨pd, 0, none⟩)))
    (fun v w1 => if RowKit.intOf v = 2 then 0 else 1 + ((rd S.f (q.pu + 2) 2 - (cellN w1 pd 9 : Int)) % 65536).toNat)
  case atStart => exact ⟨S, 0, rfl, fun h => by omega, HR.out, HOK.out, rfl, HM.out.below HB0.out, Step.of_below (HD.out.below HB0.out) (Below.refl _ _), c0⟩
  case round =>
    obtain ⟨S1, k, rfl, hk2, hbk, hok, hf, hm, hst, hc0⟩ := hrel
    have HST := hid hst
    have HBK := hid hbk
    have HM1 := hid hm
    have HOK1 := hid hok
    have HK2 := hid hk2
    have HF1 := hid hf
    clear hst hbk hm hok hk2 c0 hf
    by_cases hk : k = 2
    · have g1 : (k != 2) = false := by simp [hk]
      have HE := hid (HK2.out hk)
      clear hk
      go_wp2
      go_end0
      exact ⟨rfl, (HE.out ▸ HST.out).ahead HB0.out, HE.out ▸ HM1.out⟩
    · have g1 : (k != 2) = true := by simpa using hk
      obtain ⟨al1, hd1, ha1, hmo1⟩ := HST.out
      have hcon := hid (Used_S wr pd q S1 c al1 hd1 HM1.out)
      have HCN := hid hd1.uses
      have HKR := hid (usedR_kind q S1)
      have HBN := hid (@back_none q S1 HOK1.out)
      have HBM := hid (@back_more q S1 HOK1.out)
      have HUS := hid (@usedS_step q S1 HOK1.out)
      have HUN := hid (@usedR_none q S1)
      have HUF := hid (usedS_f q S1)
      have HOU := hid HOK1.out.used
      have HA1 := hid ha1
      have HMO1 := hid hmo1
      have HKK := hid hk
      have HCL : Hid (w.heap.size < wr.heap.size) := hid (cell_lt hc0)
      have HNA : Hid (¬ al1 w.heap.size) := hid (fun h => by
        rcases ha1 _ h with h1 | h1
        · exact Nat.lt_irrefl _ (hlt.out _ h1)
        · have := hBn.out; omega)
      clear hd1 ha1 hmo1 hk
      generalize hu0 : (usedR q S1).1 = u0 at *
      generalize hu1 : (usedR q S1).2.1 = u1 at *
      generalize hu2 : (usedR q S1).2.2 = u2 at *
      clear hu0 hu1 hu2
      go_wp2_with (go_at_call 40; refine hcon.out.mono ?_; rintro e w3 ⟨rfl, hs3, hm3⟩; have HS3 := hid hs3; have HM3 := hid hm3; clear hs3 hm3)
      go_roundw
      case rel =>
        refine ⟨usedS q S1, u2, rfl, fun h => ?_, ?_, HOU.out, HUF.out.trans HF1.out, HM3.out, Step.trans HA1.out HMO1.out HS3.out, ?_⟩
        · have h1 := HUN.out.1 h
          have h2 : usedS q S1 = S1 := by unfold usedS; rw [if_pos h1]
          rw [h2, ← HBN.out h]
          exact HBK.out
        · by_cases h : u2 = 2
          · have h1 := HUN.out.1 h
            have h2 : usedS q S1 = S1 := by unfold usedS; rw [if_pos h1]
            rw [h2]
            exact HBK.out
          · rw [← HBM.out h]
            exact HBK.out
        · obtain ⟨_, _, _, hmo3⟩ := HS3.out
          refine hmo3.cell hc0 (fun h => ?_)
          rcases h with h | h
          · exact HNA.out h
          · have := hgl.out; omega
      case measure =>
        obtain ⟨_, hd3, _, _⟩ := HS3.out
        have h1 := hd3.uses
        have h2 := HCN.out
        have h3 := HKK.out
        simp only [RowKit.intOf, h1, h2]
        rw [if_neg h3]
        by_cases h : u2 = 2
        · rw [if_pos h]; omega
        · rw [if_neg h]
          have h4 := HUS.out (fun e => h (HUN.out.2 e))
          unfold more at h4
          rw [HUF.out, HF1.out] at h4
          omega

/-- Each chain in flight is one piece. -/
def One (A : Abs) : Prop := ∀ p ∈ A.fl, p.2 = [p.1]
theorem sorted_ge (L : List Int) (hs : L.Pairwise (· < ·)) (h0 : ∀ k ∈ L, 0 ≤ k) : ∀ j (h : j < L.length), (j : Int) ≤ L[j]
  | 0, h => h0 _ (List.getElem_mem h)
  | j + 1, h => by
    have h1 := sorted_ge L hs h0 j (by omega)
    have h2 := List.pairwise_iff_getElem.1 hs j (j + 1) (by omega) h (by omega)
    omega
theorem lowest (L : List Int) (hs : L.Pairwise (· < ·)) (h0 : ∀ k ∈ L, 0 ≤ k) (x : Nat) (hin : ∀ i : Nat, i < x → (i : Int) ∈ L) (i : Nat) (hi : i < x) : ∃ h : i < L.length, L[i] = (i : Int) := by
  induction i using Nat.strongRecOn with
  | ind i ih =>
    obtain ⟨j, hj, hji⟩ := List.getElem_of_mem (hin i hi)
    have h1 := sorted_ge L hs h0 j hj
    by_cases e : j = i
    · subst e; exact ⟨hj, hji⟩
    · obtain ⟨_, h2⟩ := ih j (by omega) (by omega)
      omega
theorem look_one {A : Abs} (h : One A) {x : Nat} (hx : x ∈ A.fl.flatMap (·.2)) : (look A.fl (x : Int)).isSome = true := by
  obtain ⟨p, hp1, hp2⟩ := List.mem_flatMap.1 hx
  rw [h p hp1] at hp2
  simp at hp2
  cases hl : look A.fl (x : Int) with
  | some _ => rfl
  | none => exact absurd (by rw [hp2]) (look_none hl p hp1)
theorem free_low {n : Nat} {A : Abs} (hw : Wf n A) (h1 : One A) (hf : 0 < A.free.length) {L : List Int} (hL : Flies A L) :
    (∀ i, i < A.free.getD 0 0 → L.getD i 0 = (i : Int)) ∧ A.free.getD 0 0 ≤ L.length ∧ (A.free.getD 0 0 < L.length → L.getD (A.free.getD 0 0) 0 ≠ (A.free.getD 0 0 : Nat)) := by
  obtain ⟨hs, hm⟩ := hL
  have hx : A.free.getD 0 0 ∈ A.free := getD_mem A.free 0 0 hf
  have hlt := hw.free_lt hx
  generalize hxx : A.free.getD 0 0 = x at *
  have h0 : ∀ k ∈ L, 0 ≤ k := fun k hk => by
    obtain ⟨l, hl⟩ := Option.isSome_iff_exists.1 ((hm k).1 hk)
    obtain ⟨y, _, _, _, hy, _⟩ := look_some hl
    omega
  have hin : ∀ i : Nat, i < x → (i : Int) ∈ L := fun i hi => by
    rw [hm]
    apply look_one h1
    have h2 : i ∈ A.free ++ A.fl.flatMap (·.2) := hw.perm.mem_iff.2 (by simp; omega)
    rcases List.mem_append.1 h2 with h3 | h3
    · exfalso
      obtain ⟨j, hj, hji⟩ := List.getElem_of_mem h3
      have h4 : A.free[0] = x := by rw [← hxx]; simp [List.getD, hf]
      by_cases e : j = 0
      · subst e; omega
      · have := List.pairwise_iff_getElem.1 hw.srt 0 j hf hj (by omega)
        omega
    · exact h3
  have hlow := lowest L hs h0 x hin
  refine ⟨fun i hi => ?_, ?_, fun hl e => ?_⟩
  · obtain ⟨h2, h3⟩ := hlow i hi
    simp [List.getD, h2, h3]
  · by_cases e : x = 0
    · omega
    · obtain ⟨h2, _⟩ := hlow (x - 1) (by omega)
      omega
  · have h2 : (x : Int) ∈ L := by rw [← e]; exact getD_mem L 0 x hl
    rw [hm, hw.free_not hx] at h2
    cases h2

theorem ints_at {w : World} {base : Nat} {a : Option Addr} {n c : Nat} {L : List Int} (h : w.ownsRow base 3 1 (.slice a n c) L.length (L.map encZ)) (i : Nat) (hi : i < L.length) : ∃ b, a = some ⟨b, 0, none⟩ ∧ w.cell? ⟨b, i, none⟩ = some (.int .i64 (L.getD i 0)) := by
  rcases h.2 with ⟨_, h0⟩ | ⟨g, cap, cur, e, hb, hh, hc1, hc2, hcs, ht⟩
  · omega
  · simp only [Value.slice.injEq] at e
    refine ⟨g, e.1, ?_⟩
    have e2 : (cur.toList.take (L.length * 1))[i]? = (L.map encZ)[i]? := by rw [ht]
    rw [List.getElem?_take] at e2
    simp [hi] at e2
    unfold World.cell?
    simp [hh, e2, encZ, List.getD, hi]
set_option maxRecDepth 100000 in
set_option maxHeartbeats 1000000 in
theorem lowestFree_any (w : World) (pd : Nat) (q : Qu) (A : Abs) (c : Nat) (al : Nat → Prop) (first : Int) (g N : Nat) (hd : Drv w pd q A c al) (hc : c ≤ 1099511627776) (h1 : One A) (hf : 0 < A.free.length) :
    Calls Tryz.prog 35 #[sideV pd g N first] w fun e w' => e = .returned (.int .i64 (A.free.getD 0 0 : Nat)) ∧ Below w.heap.size w w' := by
  have HFL : Hid (∀ L, Flies A L → (∀ i, i < A.free.getD 0 0 → L.getD i 0 = (i : Int)) ∧ A.free.getD 0 0 ≤ L.length ∧ (A.free.getD 0 0 < L.length → L.getD (A.free.getD 0 0) 0 ≠ (A.free.getD 0 0 : Nat))) := hid (fun L hL => free_low (let ⟨_, _, _, d⟩ := hd; d.wf) h1 hf hL)
  have hx256 : A.free.getD 0 0 < 256 := by
    have h2 : Wf q.n A := (let ⟨_, _, _, d⟩ := hd; d.wf)
    have := h2.free_lt (getD_mem A.free 0 0 hf)
    have := q.geo.n2
    omega
  unfold sideV
  obtain ⟨c0, _, _⟩ := side_cells w pd g N first
  obtain ⟨W, hW⟩ : ∃ W, W = w.alloc (.cells #[.pointer (some ⟨pd, 0, none⟩), .slice (some ⟨g, 0, none⟩) N N, .int .i64 first] 51) := ⟨_, rfl⟩
  have HB0 : Hid (Below w.heap.size w W) := hid (by rw [hW]; exact (Below.refl _ _).alloc (Nat.le_refl _) _)
  rw [← hW] at c0
  have hcon := hid (Flying_any W pd q A c al (hd.below HB0.out) hc)
  clear hd h1 hf
  generalize A.free.getD 0 0 = x at *
  go_enter Tryz.func35, Tryz.ntmps35
  go_wp2_with fail
  rw [← hW]
  clear hW
  refine hcon.out.mono ?_
  rintro e w2 ⟨v, L, rfl, hfl, hown, hb2⟩
  obtain ⟨h4, h5, h6⟩ := HFL.out L hfl
  have HB2 := hid (HB0.out.trans (hb2.mono HB0.out.size))
  have HOW := hid hown
  have H4 := hid h4
  have H6 := hid h6
  obtain ⟨va, vc, hv⟩ := owns_slice hown
  subst hv
  have HCE : Hid (∀ i, i < L.length → ∃ b, va = some ⟨b, 0, none⟩ ∧ w2.cell? ⟨b, i, none⟩ = some (.int .i64 (L.getD i 0))) := hid (fun i hi => ints_at hown i hi)
  clear hfl hown hb2 h4 h6 c0
  generalize hln : L.length = len at *
  clear hln
  go_wp2_with fail
  go_loopw [11] (fun z wx => ∃ i : Nat, i ≤ x ∧ z = .int .i64 i ∧ wx = w2) (fun z _ => x + 1 - (RowKit.intOf z).toNat)
  case atStart => exact ⟨0, Nat.zero_le _, rfl, rfl⟩
  case round =>
    obtain ⟨i, hi, rfl, rfl⟩ := hrel
    by_cases hil : i < len
    · have g1 : (i : Int) < len := by omega
      obtain ⟨b, hva, hce⟩ := HCE.out i hil
      subst hva
      by_cases hix : i < x
      · rw [H4.out i hix] at hce
        go_wp2
        go_roundw
        case rel => exact ⟨i + 1, by omega, by go_num, by trivial⟩
        case measure => simp [RowKit.intOf]; omega
      · obtain rfl : i = x := by omega
        have h7 := H6.out hil
        generalize L.getD i 0 = y at *
        have g2 : (y != (i : Int)) = true := by simpa using h7
        clear h7
        go_wp2
        go_ret
        exact ⟨rfl, HB2.out⟩
    · have g1 : ¬ ((i : Int) < len) := by omega
      obtain rfl : len = x := by omega
      go_wp2
      go_ret
      exact ⟨rfl, HB2.out⟩
end Go.Proofs.YtdjghkngiicncaaGreat

/- vnet: a frame is put into a place and offered. -/
namespace Go.Proofs.YtdjghkngiicncaaGreat
open Go.RowKit

/-- The bytes L laid at a. -/
def puts (f : Nat → Int) (a : Nat) (L : List Int) : Nat → Int := fun i => if a ≤ i ∧ i < a + L.length then L.getD (i - a) 0 else f i
theorem puts_isB {f : Nat → Int} {N a : Nat} {L : List Int} (h : ∀ i, i < N → IsB (f i)) (hL : ∀ x ∈ L, IsB x) : ∀ i, i < N → IsB (puts f a L i) := by
  intro i hi
  unfold puts
  split
  · exact mem_getD L IsB hL _ (by omega)
  · exact h i hi
/-- 'copy' of a row of bytes into memory that is longer. -/
theorem wpList_copy_row {w : World} {ops : Array Oper} {rest : List Oper} {o : Oper} {a : Act} {Q : Exit → Act → World → Prop} (hgd : o.guard = none) (d s : Operand)
    (ho : o.op = .call { callee := .builtin .copy, args := #[d, s], argTypes := #[25, 25] })
    (g N p n m dCap r sCap : Nat) (f : Nat → Int) (L : List Int) (hd : a.eval d = .slice (some ⟨g, p, none⟩) n dCap) (hs : a.eval s = .slice (some ⟨r, 0, none⟩) m sCap)
    (hm : Mem w g N f) (hr : Blk w r L) (hL : L.length = m) (hmn : m ≤ n) (hp : p + m ≤ N) (hB : ∀ x ∈ L, IsB x)
    (h : ∀ w', Hid (Mem w' g N (puts f p L)) → Hid (Mods (fun b => b = g) w w') → wpList Tryz.prog ops Q rest (a.put o.dst (goInt m)) w') :
    wpList Tryz.prog ops Q (o :: rest) a w := by
  obtain ⟨⟨cur, hg, hcn, hcur⟩, hBf⟩ := hm
  have hlen : (L.map fun x => Value.int .u8 x).length = m := by rw [List.length_map, hL]
  refine wpList_copy_own hgd d s 25 25 ho 5 Tryz.underlying25 size5 g p n dCap ⟨r, 0, none⟩ m sCap hd hs cur 5 hg (L.map fun x => Value.int .u8 x) (by rw [hlen]; first | exact (Nat.min_eq_right hmn).symm | exact (Nat.min_eq_left hmn).symm) (fun j u hj => ?_) (by rw [hlen]; omega) (fun u hu => by simp only [List.mem_map] at hu; obtain ⟨y, _, rfl⟩ := hu; rfl) ?_
  · have hj2 : j < m := by have := (List.getElem?_eq_some_iff.1 hj).1; rwa [hlen] at this
    have e : (⟨r, 0, none⟩ : Addr).add j = ⟨r, 0 + j, none⟩ := by unfold Addr.add; split <;> simp_all
    rw [e, Nat.zero_add, Mem.cell hr (by rw [hL]; exact hj2)]
    rw [List.getElem?_map] at hj
    simp only [Option.map_eq_some_iff] at hj
    obtain ⟨x, hx, rfl⟩ := hj
    simp [List.getD, hx]
  · rw [hlen]
    refine h _ (hid ⟨⟨_, setRow_heap w g _ _ 5 _ hg, by simp [hL]; omega, fun i hi => ?_⟩, puts_isB hBf hB⟩) (hid ⟨rfl, rfl, rfl, by simp [World.setRow], fun b _ hb => setRow_other w g b _ hb⟩)
    have h5 := hcur i hi
    simp only [List.getElem?_toArray]
    unfold puts
    rw [hL]
    by_cases h6 : p ≤ i
    · by_cases h7 : i < p + m
      · rw [if_pos ⟨h6, h7⟩, List.getElem?_append_right (by simp; omega), List.getElem?_append_left (by simp [hL]; omega)]
        have : min p cur.size = p := by omega
        simp only [List.length_take, Array.length_toList, this, List.getElem?_map]
        rw [show L[i - p]? = some (L.getD (i - p) 0) by simp [List.getD, hL, show i - p < m by omega]]
        rfl
      · rw [if_neg (by omega), List.getElem?_append_right (by simp; omega), List.getElem?_append_right (by simp [hL]; omega)]
        have e1 : min p cur.size = p := by omega
        have e2 : p + m + (i - p - m) = i := by omega
        simp [e1, hL, e2, h5]
    · rw [if_neg (by omega), List.getElem?_append_left (by simp; omega), List.getElem?_take]
      simp [show i < p by omega, h5]

theorem Blk.below {w w' : World} {b : Nat} {L : List Int} (h : Blk w b L) (hb : Below w.heap.size w w') : Blk w' b L := Mem.below h hb
theorem Blk.mods {w w' : World} {b : Nat} {L : List Int} {al : Nat → Prop} (h : Blk w b L) (hb : Mods al w w') (hn : ¬ al b) : Blk w' b L := Mem.mods h hb hn
theorem Blk.lt {w : World} {b : Nat} {L : List Int} (h : Blk w b L) : b < w.heap.size := Mem.lt h

theorem box_step {w w' : World} {pd : Nat} {q : Qu} {A : Abs} {c : Nat} {al : Nat → Prop} (h : Step w w' pd q A c al) {b : Nat} {x y z : Value} (h1 : ¬ al b) (h2 : b ≠ q.g) (hc : w.cell? ⟨b, 0, none⟩ = some x ∧ w.cell? ⟨b, 1, none⟩ = some y ∧ w.cell? ⟨b, 2, none⟩ = some z) :
    w'.cell? ⟨b, 0, none⟩ = some x ∧ w'.cell? ⟨b, 1, none⟩ = some y ∧ w'.cell? ⟨b, 2, none⟩ = some z := by
  obtain ⟨_, _, _, hm⟩ := h
  have hn : ¬ (al b ∨ b = q.g) := fun e => e.elim h1 h2
  exact ⟨hm.cell hc.1 hn, hm.cell hc.2.1 hn, hm.cell hc.2.2 hn⟩
set_option maxRecDepth 100000 in
set_option maxHeartbeats 4000000 in
theorem offerFrame_any (w : World) (pd : Nat) (q : Qu) (S : Sd) (c : Nat) (al : Nat → Prop) (first place z : Nat) (ad : Option Addr) (cap len : Nat) (L : List Int) (hd : Drv w pd q S.A c al) (hm : Mem w q.g q.N S.f) (hB : Bytes w ad L) (hln : L.length = len) (h1 : 14 ≤ len) (h2 : len ≤ 1514)
    (hp : place ≤ 256) (hz : first + place * 1528 = z) (hf : z + 1526 ≤ q.N) (hfr : 0 < S.A.free.length) (hc : c < 1099511627776) :
    Calls Tryz.prog 34 #[sideV pd q.g q.N first, .int .i64 place, .slice ad len cap] w fun e w' => e = .returned (.int .i64 0) ∧ Step w w' pd q (AddA S.A 1) (c + 1) al ∧ Mem w' q.g q.N (addF (puts S.f z (rowL L)) q S.A [⟨z, (12 + len : Nat), false⟩]) := by
  obtain ⟨rl, hrl⟩ : ∃ rl, rl = 12 + len := ⟨_, rfl⟩
  rw [← hrl]
  have hbig := q.geo.big
  have HPI : Hid (∀ W : World, Calls Tryz.prog 55 #[sideV pd q.g q.N first, .int .i64 place, .int .i64 rl] W fun e w' => e = .returned (.agg #[.int .i64 z, .int .i64 rl, .bool false]) ∧ Below W.heap.size W w') := hid (fun W => piece_any W pd q.g q.N first place rl z (by omega) (by omega) (by omega))
  have HBY : Hid (∀ W : World, Calls Tryz.prog 43 #[sideV pd q.g q.N first, .int .i64 place, .int .i64 rl] W fun e w' => e = .returned (.slice (some ⟨q.g, z, none⟩) rl rl) ∧ Below W.heap.size W w') := hid (fun W => bytes_any W pd q.g q.N first place rl z (by omega) (by omega) (by omega) (by omega) (by omega))
  have HD := hid hd
  have HM := hid hm
  have HZ := hid hz
  have HF : Hid (z + rl ≤ q.N ∧ rl ≤ 1526) := hid (by omega)
  have HLB : Hid (∀ x ∈ rowL L, IsB x) := hid (rowL_isB hB.isB)
  have HLN : Hid ((rowL L).length = rl) := hid (by rw [rowL_len, hln, hrl])
  have hgl : q.g < w.heap.size := hm.lt
  have hdl := hid hd.lt
  unfold sideV at *
  obtain ⟨c0, c1, c2⟩ := side_cells w pd q.g q.N first
  obtain ⟨W, hW⟩ : ∃ W, W = w.alloc (.cells #[.pointer (some ⟨pd, 0, none⟩), .slice (some ⟨q.g, 0, none⟩) q.N q.N, .int .i64 first] 51) := ⟨_, rfl⟩
  have HB0 : Hid (Below w.heap.size w W) := hid (by rw [hW]; exact (Below.refl _ _).alloc (Nat.le_refl _) _)
  have HWS : Hid (w.heap.size < W.heap.size) := hid (by rw [hW]; simp)
  rw [← hW] at c0 c1 c2
  have HFR := hid (framed_any W ad cap len L (hB.later HB0.out) hln h1 h2)
  rw [← hrl] at HFR
  have HFE := hid hfr
  clear hd hm hz hf hB hln hfr hrl h1 h2
  generalize rowL L = RL at *
  go_enter Tryz.func34, Tryz.ntmps34
  go_wp2_with fail
  rw [← hW]
  clear hW
  refine HFR.out.mono ?_
  rintro e w2 ⟨rb, rc, rfl, hrb, hrc, hblk, hb2⟩
  have HB2 := hid (HB0.out.trans (hb2.mono HB0.out.size))
  have HBK := hid hblk
  have HRB := hid hrb
  replace c0 := cell_later hb2 c0
  replace c1 := cell_later hb2 c1
  replace c2 := cell_later hb2 c2
  clear hrb hblk hb2
  go_wp2_with fail
  refine (HBY.out w2).mono ?_
  rintro e w3 ⟨rfl, hb3⟩
  have HB3 := hid (HB2.out.trans (hb3.mono HB2.out.size))
  replace c0 := cell_later hb3 c0
  replace c1 := cell_later hb3 c1
  replace c2 := cell_later hb3 c2
  have HBK3 := hid (HBK.out.below hb3)
  clear hb3
  have hgb : q.g ≠ rb := by have := HRB.out; have := HWS.out; omega
  go_wp2_with (show wpList _ _ _ ({ dst := _, op := .call { callee := .builtin .copy, args := _, argTypes := _ }, type := _, pos := _, after := _, guard := _ } :: _) _ _; refine wpList_copy_row rfl (.tmp 16) (.tmp 17) rfl q.g q.N z rl rl rl rb rc S.f RL rfl rfl (HM.out.below HB3.out) HBK3.out HLN.out (Nat.le_refl _) HF.out.1 HLB.out ?_; intro w4 HM4 HMO4; have d0 := HMO4.out.cell c0 (by omega); have d1 := HMO4.out.cell c1 (by omega); have d2 := HMO4.out.cell c2 (by omega); clear c0 c1 c2)
  have hng : ¬ al q.g := by obtain ⟨_, _, _, d⟩ := HD.out; exact d.ng
  have hd4 : Drv w4 pd q S.A c al := (HD.out.below HB3.out).mods HMO4.out (fun b hb e => hng (e ▸ hb))
  have hmw4 : Mods (fun b => b = q.g) w w4 := (Mods.of_below HB3.out).tr HMO4.out
  have hbx : ¬ al w.heap.size := fun h => Nat.lt_irrefl _ (hdl.out _ h)
  have HADD : Hid (∀ w5, Below w4.heap.size w4 w5 → Calls Tryz.prog 56 #[.pointer (some ⟨pd, 0, none⟩), .slice (some ⟨w5.heap.size, 0, none⟩) 1 1] (w5.alloc (.cells #[.int .i64 z, .int .i64 rl, .bool false] 88)) fun e w' => e = .returned (.tuple #[.int .i64 (S.A.free.getD 0 0 : Nat), .int .i64 0]) ∧ Step (w5.alloc (.cells #[.int .i64 z, .int .i64 rl, .bool false] 88)) w' pd q (AddA S.A 1) (c + 1) al ∧ Mem w' q.g q.N (addF (puts S.f z RL) q S.A [⟨z, rl, false⟩])) := hid (fun w5 h5 => by
    have hb : Below w4.heap.size w4 (w5.alloc (.cells #[.int .i64 z, .int .i64 rl, .bool false] 88)) := h5.alloc h5.size _
    refine Add_ok _ pd q S.A c al (puts S.f z RL) (hd4.below hb) (HM4.out.below hb) (some ⟨w5.heap.size, 0, none⟩) 1 1 [⟨z, rl, false⟩] rfl (one_buf w5 z rl false q.g (Nat.lt_of_lt_of_le HM4.out.lt h5.size)) (fun b off e hb2 => ?_) (fun b hb2 => ?_) (by omega) HFE.out hc
    · have h1 := hd4.lt b hb2
      have h2 := h5.size
      simp at e
      try omega
    · simp at hb2
      subst hb2
      have := HF.out
      exact ⟨by simp, by simp; omega, by simp, by simp; omega⟩)
  have HMW4 := hid hmw4
  have HBX := hid hbx
  clear hd4 hmw4 hbx hng HM4 HMO4
  generalize ((S.A.free.getD 0 0 : Nat) : Int) = hx at *
  go_region_held3 (fun w' => w'.cell? ⟨w.heap.size, 0, none⟩ = some (.pointer (some ⟨pd, 0, none⟩)) ∧ w'.cell? ⟨w.heap.size, 1, none⟩ = some (.slice (some ⟨q.g, 0, none⟩) q.N q.N) ∧ w'.cell? ⟨w.heap.size, 2, none⟩ = some (.int .i64 first)) ((first | exact ⟨d0, d1, d2⟩ | exact HS5.out | exact HS6.out | exact HS7.out))
    ((first
      | (go_at_call 55; refine (HPI.out _).mono ?_; rintro e w5 ⟨rfl, hb5⟩; have HB5 := hid (((Below.refl _ w4).drew).trans hb5); have HS5 := hid (And.intro (cell_later hb5 d0) (And.intro (cell_later hb5 d1) (cell_later hb5 d2))); have HS6 := hid (And.intro (cell_later ((Below.refl _ w5).alloc (Nat.le_refl _) (.cells #[.int .i64 z, .int .i64 rl, .bool false] 88)) HS5.out.1) (And.intro (cell_later ((Below.refl _ w5).alloc (Nat.le_refl _) (.cells #[.int .i64 z, .int .i64 rl, .bool false] 88)) HS5.out.2.1) (cell_later ((Below.refl _ w5).alloc (Nat.le_refl _) (.cells #[.int .i64 z, .int .i64 rl, .bool false] 88)) HS5.out.2.2))); clear hb5)
      | (go_at_call 56; refine (HADD.out w5 HB5.out).mono ?_; rintro e w7 ⟨rfl, hs7, hm7⟩; have HS7' := hid hs7; have HM7 := hid hm7; have HS7 : Hid (w7.cell? ⟨w.heap.size, 0, none⟩ = some (.pointer (some ⟨pd, 0, none⟩)) ∧ w7.cell? ⟨w.heap.size, 1, none⟩ = some (.slice (some ⟨q.g, 0, none⟩) q.N q.N) ∧ w7.cell? ⟨w.heap.size, 2, none⟩ = some (.int .i64 first)) := hid (box_step hs7 HBX.out (by omega) HS6.out); clear hs7 hm7)))
  go_wp2
  go_ret
  have hm5 := (HMW4.out.weak (al' := fun b => al b ∨ b = q.g) (fun b e => .inl (.inr e))).below (HB5.out.alloc HB5.out.size (.cells #[.int .i64 z, .int .i64 rl, .bool false] 88))
  exact ⟨rfl, Step.trans (fun _ h => .inl h) hm5 HS7'.out, HM7.out⟩

/- The port's side. -/
def devV (pv g N : Nat) : Value := .agg #[.pointer (some ⟨pv, 0, none⟩), .slice (some ⟨g, 0, none⟩) N N]
def inP (rl : Int) (b : Bf) : Bool := b.wt && decide (rl ≤ b.len)
def outP (b : Bf) : Bool := !b.wt && fdB b.len
set_option maxRecDepth 100000 in
set_option maxHeartbeats 400000 in
theorem Deliver1_any (w : World) (x y : Int) (t : Bool) (bx : Nat) (a : Option Addr) (rl rc : Nat) (hc : w.cell? ⟨bx, 0, none⟩ = some (.slice a rl rc)) :
    Calls Tryz.prog 46 #[.agg #[.int .i64 x, .int .i64 y, .bool t], .pointer (some ⟨bx, 0, none⟩)] w fun e w' => e = .returned (.bool (inP rl ⟨x, y, t⟩)) ∧ Below w.heap.size w w' := by
  replace hc := cell_later ((Below.refl _ w).alloc (Nat.le_refl _) (.cells #[.int .i64 x, .int .i64 y, .bool t] 88)) hc
  unfold inP
  cases t with
  | false =>
    go_enter Tryz.func46, Tryz.ntmps46
    go_wp2
    go_ret
    exact ⟨rfl, (Below.refl _ _).alloc (Nat.le_refl _) _⟩
  | true =>
    go_enter Tryz.func46, Tryz.ntmps46
    go_wp2
    go_ret
    exact ⟨by simp, (Below.refl _ _).alloc (Nat.le_refl _) _⟩
set_option maxRecDepth 100000 in
set_option maxHeartbeats 400000 in
theorem Sent1_any (w : World) (x y : Int) (t : Bool) :
    Calls Tryz.prog 51 #[.agg #[.int .i64 x, .int .i64 y, .bool t]] w fun e w' => e = .returned (.bool (outP ⟨x, y, t⟩)) ∧ Below w.heap.size w w' := by
  unfold outP
  cases t with
  | true =>
    go_enter Tryz.func51, Tryz.ntmps51
    go_wp2
    go_ret
    exact ⟨rfl, (Below.refl _ _).alloc (Nat.le_refl _) _⟩
  | false =>
    have hcon := hid (isFramed_any (w.alloc (.cells #[.int .i64 x, .int .i64 y, .bool false] 88)) y)
    simp only [Bool.not_false, Bool.true_and]
    generalize fdB y = fb at *
    go_enter Tryz.func51, Tryz.ntmps51
    go_wp2_with (go_at_call 41; refine hcon.out.mono ?_; rintro e w1 ⟨rfl, rfl⟩)
    go_ret
    exact ⟨rfl, (Below.refl _ _).alloc (Nat.le_refl _) _⟩
end Go.Proofs.YtdjghkngiicncaaGreat
