/- vnet: the card's side of a queue. -/
import Derived.Test.YtpmbknlafeljlaaNetB
namespace Go.Proofs.Ytpmbknlafeljlaa
open Go.RowKit

theorem Step.trans {w w' w'' : World} {pd : Nat} {q : Qu} {A' : Abs} {c' : Nat} {al al' : Nat → Prop} (h1 : ∀ b, al' b → al b ∨ w.heap.size ≤ b) (h2 : Mods (fun b => al b ∨ b = q.g) w w') (h : Step w' w'' pd q A' c' al') : Step w w'' pd q A' c' al := by
  obtain ⟨al2, hd, ha, hm⟩ := h
  refine ⟨al2, hd, fun b hb => ?_, ?_⟩
  · rcases ha b hb with h3 | h3
    · exact h1 b h3
    · exact .inr (Nat.le_trans h2.size h3)
  · refine h2.trans hm (fun b hb => ?_)
    rcases hb with hb | hb
    · rcases h1 b hb with h3 | h3
      · exact .inl (.inl h3)
      · exact .inr h3
    · exact .inl (.inr hb)
theorem Step.after {w w' w'' : World} {pd : Nat} {q : Qu} {A : Abs} {c : Nat} {al : Nat → Prop} (h : Step w w' pd q A c al) (hb : Below w'.heap.size w' w'') : Step w w'' pd q A c al := by
  obtain ⟨al2, hd, ha, hm⟩ := h
  exact ⟨al2, hd.below hb, ha, hm.below hb⟩
theorem Step.ahead {w w' w'' : World} {pd : Nat} {q : Qu} {A : Abs} {c : Nat} {al : Nat → Prop} (hb : Below w.heap.size w w') (h : Step w' w'' pd q A c al) : Step w w'' pd q A c al :=
  Step.trans (fun _ hb => .inl hb) (Mods.of_below hb) h
theorem Step.size {w w' : World} {pd : Nat} {q : Qu} {A : Abs} {c : Nat} {al : Nat → Prop} (h : Step w w' pd q A c al) : w.heap.size ≤ w'.heap.size := by
  obtain ⟨_, _, _, hm⟩ := h; exact hm.size

theorem one_buf (w : World) (x y : Int) (t : Bool) (g : Nat) (hg : g < w.heap.size) : Bufs (w.alloc (.cells #[.int .i64 x, .int .i64 y, .bool t] 65)) (some ⟨w.heap.size, 0, none⟩) [⟨x, y, t⟩] g := fun i hi => by
  obtain rfl : i = 0 := by simpa using hi
  exact ⟨w.heap.size, 0, rfl, by omega, new_cell w _ _ _ 0 (by simp), new_cell w _ _ _ 1 (by simp), new_cell w _ _ _ 2 (by simp)⟩
set_option maxRecDepth 100000 in
set_option maxHeartbeats 1000000 in
theorem offerRoom_any (w : World) (pd : Nat) (q : Qu) (S : Sd) (c : Nat) (al : Nat → Prop) (first place z : Nat) (hd : Drv w pd q S.A c al) (hm : Mem w q.g q.N S.f) (hp : place ≤ 256) (hz : first + place * 1528 = z) (hf : z + 1526 ≤ q.N) (hfr : 0 < S.A.free.length) (hc : c < 1099511627776) :
    Calls Try.prog 21 #[sideV pd q.g q.N first, .int .i64 place] w fun e w' => e = .returned (.int .i64 0) ∧ Step w w' pd q (addS q S ⟨z, 1526, true⟩).A (c + 1) al ∧ Mem w' q.g q.N (addS q S ⟨z, 1526, true⟩).f := by
  have hbig := q.geo.big
  have hcon : ∀ W : World, Calls Try.prog 40 #[sideV pd q.g q.N first, .int .i64 place, .int .i64 1526] W fun e w' => e = .returned (.agg #[.int .i64 z, .int .i64 1526, .bool false]) ∧ Below W.heap.size W w' := fun W => piece_any W pd q.g q.N first place 1526 z (by omega) (by omega) (by omega)
  have HC := hid hcon
  have HD := hid hd
  have HM := hid hm
  have HZ := hid hz
  have HF := hid hf
  have hgl : q.g < w.heap.size := hm.lt
  clear hcon hd hm hz hf
  unfold sideV at *
  obtain ⟨c0, c1, c2⟩ := side_cells w pd q.g q.N first
  obtain ⟨W, hW⟩ : ∃ W, W = w.alloc (.cells #[.pointer (some ⟨pd, 0, none⟩), .slice (some ⟨q.g, 0, none⟩) q.N q.N, .int .i64 first] 46) := ⟨_, rfl⟩
  have HB0 : Hid (Below w.heap.size w W) := hid (by rw [hW]; exact (Below.refl _ _).alloc (Nat.le_refl _) _)
  rw [← hW] at c0 c1 c2
  go_enter Try.func21, Try.ntmps21
  go_wp2_with fail
  rw [← hW]
  clear hW
  refine (HC.out W).mono ?_
  rintro e w5 ⟨rfl, hb5⟩
  have HB5 := hid (HB0.out.trans (hb5.mono HB0.out.size))
  replace c0 := cell_later (hb5.alloc hb5.size (.cells #[.int .i64 z, .int .i64 1526, .bool true] 65)) c0
  clear hb5 c1 c2
  have HB6 : Hid (Below w.heap.size w (w5.alloc (.cells #[.int .i64 z, .int .i64 1526, .bool true] 65))) := hid (HB5.out.alloc HB5.out.size _)
  have hcon : Hid (Calls Try.prog 41 #[.pointer (some ⟨pd, 0, none⟩), .slice (some ⟨w5.heap.size + 1, 0, none⟩) 1 1] ((w5.alloc (.cells #[.int .i64 z, .int .i64 1526, .bool true] 65)).alloc (.cells #[.int .i64 z, .int .i64 1526, .bool true] 65)) fun e w' => e = .returned (.tuple #[.int .i64 (S.A.free.getD 0 0 : Nat), .int .i64 0]) ∧ Step ((w5.alloc (.cells #[.int .i64 z, .int .i64 1526, .bool true] 65)).alloc (.cells #[.int .i64 z, .int .i64 1526, .bool true] 65)) w' pd q (AddA S.A 1) (c + 1) al ∧ Mem w' q.g q.N (addF S.f q S.A [⟨z, 1526, true⟩])) := by
    have hb : Below w.heap.size w ((w5.alloc (.cells #[.int .i64 z, .int .i64 1526, .bool true] 65)).alloc (.cells #[.int .i64 z, .int .i64 1526, .bool true] 65)) := HB6.out.alloc HB6.out.size _
    have hsz : (w5.alloc (.cells #[.int .i64 z, .int .i64 1526, .bool true] 65)).heap.size = w5.heap.size + 1 := by simp
    refine hid (Add_ok _ pd q S.A c al S.f (HD.out.below hb) (HM.out.below hb) (some ⟨w5.heap.size + 1, 0, none⟩) 1 1 [⟨z, 1526, true⟩] rfl (hsz ▸ one_buf (w5.alloc (.cells #[.int .i64 z, .int .i64 1526, .bool true] 65)) z 1526 true q.g (Nat.lt_of_lt_of_le hgl HB6.out.size)) (fun b off e hb2 => ?_) (fun b hb2 => ?_) (by omega) hfr hc)
    · have h1 := HD.out.lt b hb2
      have h2 := HB5.out.size
      simp at e
      try omega
    · simp at hb2
      subst hb2
      have := HF.out
      exact ⟨by simp, by simp; omega, by simp, by simp⟩
  go_wp2_with fail
  refine hcon.out.mono ?_
  rintro e w8 ⟨rfl, hs8, hm8⟩
  have HS8 := hid hs8
  have HM8 := hid hm8
  clear hs8 hm8
  generalize ((S.A.free.getD 0 0 : Nat) : Int) = hx at *
  go_wp2
  go_ret
  exact ⟨rfl, HS8.out.ahead (HB6.out.alloc HB6.out.size _), HM8.out⟩

/-- The number in a cell. -/
def cellN (w : World) (b k : Nat) : Nat := match w.cell? ⟨b, k, none⟩ with | some (.int _ u) => u.toNat | _ => 0
theorem Drv.uses {w : World} {pd : Nat} {q : Qu} {A : Abs} {c : Nat} {al : Nat → Prop} (h : Drv w pd q A c al) : cellN w pd 9 = A.uses := by
  obtain ⟨vf, bm, M, d⟩ := h
  obtain ⟨g, base, n, N, po, pu, Ld, Lo, Lu, geo⟩ := q
  obtain ⟨_, _, _, _, _, _, _, _, _, h9, _⟩ := d.cells
  unfold cellN
  rw [h9]
  simp
theorem Dev.offs {w : World} {pv : Nat} {q : Qu} {o u : Nat} (h : Dev w pv q o u) : cellN w pv 8 = o := by
  obtain ⟨g, base, n, N, po, pu, Ld, Lo, Lu, geo⟩ := q
  obtain ⟨_, _, _, _, _, _, _, _, h8, _⟩ := h.cells
  unfold cellN
  rw [h8]
  simp
set_option maxRecDepth 100000 in
set_option maxHeartbeats 1000000 in
theorem takeBack_any (w : World) (pd : Nat) (q : Qu) (S : Sd) (c : Nat) (al : Nat → Prop) (first : Int) (hd : Drv w pd q S.A c al) (hm : Mem w q.g q.N S.f) (hok : Ok q S) :
    Calls Try.prog 28 #[sideV pd q.g q.N first] w fun e w' => e = .returned (.tuple #[]) ∧ Step w w' pd q (backS q S).A c al ∧ Mem w' q.g q.N (backS q S).f := by
  have HD := hid hd
  have HM := hid hm
  have HOK := hid hok
  have hlt := hid hd.lt
  have hgl := hid hm.lt
  clear hd hm hok
  unfold sideV
  obtain ⟨c0, _, _⟩ := side_cells w pd q.g q.N first
  obtain ⟨W, hW⟩ : ∃ W, W = w.alloc (.cells #[.pointer (some ⟨pd, 0, none⟩), .slice (some ⟨q.g, 0, none⟩) q.N q.N, .int .i64 first] 46) := ⟨_, rfl⟩
  have HB0 : Hid (Below w.heap.size w W) := hid (by rw [hW]; exact (Below.refl _ _).alloc (Nat.le_refl _) _)
  have hBn : Hid (w.heap.size < W.heap.size) := hid (by rw [hW]; simp)
  rw [← hW] at c0
  generalize hR : backS q S = R
  have HR := hid hR
  clear hR
  go_enter Try.func28, Try.ntmps28
  go_wp2_with fail
  rw [← hW]
  clear hW
  go_loopw [2] (fun v w1 => ∃ (S1 : Sd) (k : Int), v = .int .i64 k ∧ (k = 2 → S1 = R) ∧ backS q S1 = R ∧ Ok q S1 ∧ S1.f = S.f ∧ Mem w1 q.g q.N S1.f ∧ Step W w1 pd q S1.A c al ∧ w1.cell? ⟨w.heap.size, 0, none⟩ = some (.pointer (some ⟨pd, 0, none⟩)))
    (fun v w1 => if RowKit.intOf v = 2 then 0 else 1 + ((rd S.f (q.pu + 2) 2 - (cellN w1 pd 9 : Int)) % 65536).toNat)
  case atStart => exact ⟨S, 0, rfl, fun h => by omega, HR.out, HOK.out, rfl, HM.out.below HB0.out, Step.of_below (HD.out.below HB0.out) (Below.refl _ _), c0⟩
  case round =>
    obtain ⟨S1, k, rfl, hk2, hbk, hok, hf, hm, hst, hc0⟩ := hrel
    have HST := hid hst
    have HBK := hid hbk
    have HM1 := hid hm
    have HOK1 := hid hok
    have HK2 := hid hk2
    have HF1 := hid hf
    clear hst hbk hm hok hk2 c0 hf
    by_cases hk : k = 2
    · have g1 : (k != 2) = false := by simp [hk]
      have HE := hid (HK2.out hk)
      clear hk
      go_wp2
      go_end0
      exact ⟨rfl, (HE.out ▸ HST.out).ahead HB0.out, HE.out ▸ HM1.out⟩
    · have g1 : (k != 2) = true := by simpa using hk
      obtain ⟨al1, hd1, ha1, hmo1⟩ := HST.out
      have hcon := hid (Used_S wr pd q S1 c al1 hd1 HM1.out)
      have HCN := hid hd1.uses
      have HKR := hid (usedR_kind q S1)
      have HBN := hid (@back_none q S1 HOK1.out)
      have HBM := hid (@back_more q S1 HOK1.out)
      have HUS := hid (@usedS_step q S1 HOK1.out)
      have HUN := hid (@usedR_none q S1)
      have HUF := hid (usedS_f q S1)
      have HOU := hid HOK1.out.used
      have HA1 := hid ha1
      have HMO1 := hid hmo1
      have HKK := hid hk
      have HCL : Hid (w.heap.size < wr.heap.size) := hid (cell_lt hc0)
      have HNA : Hid (¬ al1 w.heap.size) := hid (fun h => by
        rcases ha1 _ h with h1 | h1
        · exact Nat.lt_irrefl _ (hlt.out _ h1)
        · have := hBn.out; omega)
      clear hd1 ha1 hmo1 hk
      generalize hu0 : (usedR q S1).1 = u0 at *
      generalize hu1 : (usedR q S1).2.1 = u1 at *
      generalize hu2 : (usedR q S1).2.2 = u2 at *
      clear hu0 hu1 hu2
      go_wp2_with (go_at_call 32; refine hcon.out.mono ?_; rintro e w3 ⟨rfl, hs3, hm3⟩; have HS3 := hid hs3; have HM3 := hid hm3; clear hs3 hm3)
      go_roundw
      case rel =>
        refine ⟨usedS q S1, u2, rfl, fun h => ?_, ?_, HOU.out, HUF.out.trans HF1.out, HM3.out, Step.trans HA1.out HMO1.out HS3.out, ?_⟩
        · have h1 := HUN.out.1 h
          have h2 : usedS q S1 = S1 := by unfold usedS; rw [if_pos h1]
          rw [h2, ← HBN.out h]
          exact HBK.out
        · by_cases h : u2 = 2
          · have h1 := HUN.out.1 h
            have h2 : usedS q S1 = S1 := by unfold usedS; rw [if_pos h1]
            rw [h2]
            exact HBK.out
          · rw [← HBM.out h]
            exact HBK.out
        · obtain ⟨_, _, _, hmo3⟩ := HS3.out
          refine hmo3.cell hc0 (fun h => ?_)
          rcases h with h | h
          · exact HNA.out h
          · have := hgl.out; omega
      case measure =>
        obtain ⟨_, hd3, _, _⟩ := HS3.out
        have h1 := hd3.uses
        have h2 := HCN.out
        have h3 := HKK.out
        simp only [RowKit.intOf, h1, h2]
        rw [if_neg h3]
        by_cases h : u2 = 2
        · rw [if_pos h]; omega
        · rw [if_neg h]
          have h4 := HUS.out (fun e => h (HUN.out.2 e))
          unfold more at h4
          rw [HUF.out, HF1.out] at h4
          omega

/-- Each chain in flight is one piece. -/
def One (A : Abs) : Prop := ∀ p ∈ A.fl, p.2 = [p.1]
theorem sorted_ge (L : List Int) (hs : L.Pairwise (· < ·)) (h0 : ∀ k ∈ L, 0 ≤ k) : ∀ j (h : j < L.length), (j : Int) ≤ L[j]
  | 0, h => h0 _ (List.getElem_mem h)
  | j + 1, h => by
    have h1 := sorted_ge L hs h0 j (by omega)
    have h2 := List.pairwise_iff_getElem.1 hs j (j + 1) (by omega) h (by omega)
    omega
theorem lowest (L : List Int) (hs : L.Pairwise (· < ·)) (h0 : ∀ k ∈ L, 0 ≤ k) (x : Nat) (hin : ∀ i : Nat, i < x → (i : Int) ∈ L) (i : Nat) (hi : i < x) : ∃ h : i < L.length, L[i] = (i : Int) := by
  induction i using Nat.strongRecOn with
  | ind i ih =>
    obtain ⟨j, hj, hji⟩ := List.getElem_of_mem (hin i hi)
    have h1 := sorted_ge L hs h0 j hj
    by_cases e : j = i
    · subst e; exact ⟨hj, hji⟩
    · obtain ⟨_, h2⟩ := ih j (by omega) (by omega)
      omega
theorem look_one {A : Abs} (h : One A) {x : Nat} (hx : x ∈ A.fl.flatMap (·.2)) : (look A.fl (x : Int)).isSome = true := by
  obtain ⟨p, hp1, hp2⟩ := List.mem_flatMap.1 hx
  rw [h p hp1] at hp2
  simp at hp2
  cases hl : look A.fl (x : Int) with
  | some _ => rfl
  | none => exact absurd (by rw [hp2]) (look_none hl p hp1)
theorem free_low {n : Nat} {A : Abs} (hw : Wf n A) (h1 : One A) (hf : 0 < A.free.length) {L : List Int} (hL : Flies A L) :
    (∀ i, i < A.free.getD 0 0 → L.getD i 0 = (i : Int)) ∧ A.free.getD 0 0 ≤ L.length ∧ (A.free.getD 0 0 < L.length → L.getD (A.free.getD 0 0) 0 ≠ (A.free.getD 0 0 : Nat)) := by
  obtain ⟨hs, hm⟩ := hL
  have hx : A.free.getD 0 0 ∈ A.free := getD_mem A.free 0 0 hf
  have hlt := hw.free_lt hx
  generalize hxx : A.free.getD 0 0 = x at *
  have h0 : ∀ k ∈ L, 0 ≤ k := fun k hk => by
    obtain ⟨l, hl⟩ := Option.isSome_iff_exists.1 ((hm k).1 hk)
    obtain ⟨y, _, _, _, hy, _⟩ := look_some hl
    omega
  have hin : ∀ i : Nat, i < x → (i : Int) ∈ L := fun i hi => by
    rw [hm]
    apply look_one h1
    have h2 : i ∈ A.free ++ A.fl.flatMap (·.2) := hw.perm.mem_iff.2 (by simp; omega)
    rcases List.mem_append.1 h2 with h3 | h3
    · exfalso
      obtain ⟨j, hj, hji⟩ := List.getElem_of_mem h3
      have h4 : A.free[0] = x := by rw [← hxx]; simp [List.getD, hf]
      by_cases e : j = 0
      · subst e; omega
      · have := List.pairwise_iff_getElem.1 hw.srt 0 j hf hj (by omega)
        omega
    · exact h3
  have hlow := lowest L hs h0 x hin
  refine ⟨fun i hi => ?_, ?_, fun hl e => ?_⟩
  · obtain ⟨h2, h3⟩ := hlow i hi
    simp [List.getD, h2, h3]
  · by_cases e : x = 0
    · omega
    · obtain ⟨h2, _⟩ := hlow (x - 1) (by omega)
      omega
  · have h2 : (x : Int) ∈ L := by rw [← e]; exact getD_mem L 0 x hl
    rw [hm, hw.free_not hx] at h2
    cases h2

theorem ints_at {w : World} {base : Nat} {a : Option Addr} {n c : Nat} {L : List Int} (h : w.ownsRow base 3 1 (.slice a n c) L.length (L.map encZ)) (i : Nat) (hi : i < L.length) : ∃ b, a = some ⟨b, 0, none⟩ ∧ w.cell? ⟨b, i, none⟩ = some (.int .i64 (L.getD i 0)) := by
  rcases h.2 with ⟨_, h0⟩ | ⟨g, cap, cur, e, hb, hh, hc1, hc2, hcs, ht⟩
  · omega
  · simp only [Value.slice.injEq] at e
    refine ⟨g, e.1, ?_⟩
    have e2 : (cur.toList.take (L.length * 1))[i]? = (L.map encZ)[i]? := by rw [ht]
    rw [List.getElem?_take] at e2
    simp [hi] at e2
    unfold World.cell?
    simp [hh, e2, encZ, List.getD, hi]
set_option maxRecDepth 100000 in
set_option maxHeartbeats 1000000 in
theorem lowestFree_any (w : World) (pd : Nat) (q : Qu) (A : Abs) (c : Nat) (al : Nat → Prop) (first : Int) (g N : Nat) (hd : Drv w pd q A c al) (hc : c ≤ 1099511627776) (h1 : One A) (hf : 0 < A.free.length) :
    Calls Try.prog 31 #[sideV pd g N first] w fun e w' => e = .returned (.int .i64 (A.free.getD 0 0 : Nat)) ∧ Below w.heap.size w w' := by
  have HFL : Hid (∀ L, Flies A L → (∀ i, i < A.free.getD 0 0 → L.getD i 0 = (i : Int)) ∧ A.free.getD 0 0 ≤ L.length ∧ (A.free.getD 0 0 < L.length → L.getD (A.free.getD 0 0) 0 ≠ (A.free.getD 0 0 : Nat))) := hid (fun L hL => free_low (let ⟨_, _, _, d⟩ := hd; d.wf) h1 hf hL)
  have hx256 : A.free.getD 0 0 < 256 := by
    have h2 : Wf q.n A := (let ⟨_, _, _, d⟩ := hd; d.wf)
    have := h2.free_lt (getD_mem A.free 0 0 hf)
    have := q.geo.n2
    omega
  unfold sideV
  obtain ⟨c0, _, _⟩ := side_cells w pd g N first
  obtain ⟨W, hW⟩ : ∃ W, W = w.alloc (.cells #[.pointer (some ⟨pd, 0, none⟩), .slice (some ⟨g, 0, none⟩) N N, .int .i64 first] 46) := ⟨_, rfl⟩
  have HB0 : Hid (Below w.heap.size w W) := hid (by rw [hW]; exact (Below.refl _ _).alloc (Nat.le_refl _) _)
  rw [← hW] at c0
  have hcon := hid (Flying_any W pd q A c al (hd.below HB0.out) hc)
  clear hd h1 hf
  generalize A.free.getD 0 0 = x at *
  go_enter Try.func31, Try.ntmps31
  go_wp2_with fail
  rw [← hW]
  clear hW
  refine hcon.out.mono ?_
  rintro e w2 ⟨v, L, rfl, hfl, hown, hb2⟩
  obtain ⟨h4, h5, h6⟩ := HFL.out L hfl
  have HB2 := hid (HB0.out.trans (hb2.mono HB0.out.size))
  have HOW := hid hown
  have H4 := hid h4
  have H6 := hid h6
  obtain ⟨va, vc, hv⟩ := owns_slice hown
  subst hv
  have HCE : Hid (∀ i, i < L.length → ∃ b, va = some ⟨b, 0, none⟩ ∧ w2.cell? ⟨b, i, none⟩ = some (.int .i64 (L.getD i 0))) := hid (fun i hi => ints_at hown i hi)
  clear hfl hown hb2 h4 h6 c0
  generalize hln : L.length = len at *
  clear hln
  go_wp2_with fail
  go_loopw [11] (fun z wx => ∃ i : Nat, i ≤ x ∧ z = .int .i64 i ∧ wx = w2) (fun z _ => x + 1 - (RowKit.intOf z).toNat)
  case atStart => exact ⟨0, Nat.zero_le _, rfl, rfl⟩
  case round =>
    obtain ⟨i, hi, rfl, rfl⟩ := hrel
    by_cases hil : i < len
    · have g1 : (i : Int) < len := by omega
      obtain ⟨b, hva, hce⟩ := HCE.out i hil
      subst hva
      by_cases hix : i < x
      · rw [H4.out i hix] at hce
        go_wp2
        go_roundw
        case rel => exact ⟨i + 1, by omega, by go_num, by trivial⟩
        case measure => simp [RowKit.intOf]; omega
      · obtain rfl : i = x := by omega
        have h7 := H6.out hil
        generalize L.getD i 0 = y at *
        have g2 : (y != (i : Int)) = true := by simpa using h7
        clear h7
        go_wp2
        go_ret
        exact ⟨rfl, HB2.out⟩
    · have g1 : ¬ ((i : Int) < len) := by omega
      obtain rfl : len = x := by omega
      go_wp2
      go_ret
      exact ⟨rfl, HB2.out⟩
end Go.Proofs.Ytpmbknlafeljlaa
