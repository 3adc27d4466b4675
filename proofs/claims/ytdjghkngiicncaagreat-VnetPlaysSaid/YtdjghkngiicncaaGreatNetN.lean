/- vnet: NewCard, NewPort. -/
import Derived.Test.YtdjghkngiicncaaGreatNetM
namespace Go.Proofs.YtdjghkngiicncaaGreat
open Go.RowKit

/-- The places for what comes in, offered one behind the other. -/
def offN (q : Qu) (fi : Nat) (S : Sd) : Nat → Sd
  | 0 => S
  | k + 1 => addS q (offN q fi S k) ⟨(fi + k * 1528 : Nat), 1526, true⟩
theorem offN_free (q : Qu) (fi : Nat) (S : Sd) : ∀ k, (offN q fi S k).A.free = S.A.free.drop k
  | 0 => rfl
  | k + 1 => by
    show (offN q fi S k).A.free.drop 1 = _
    rw [offN_free q fi S k, List.drop_drop]
theorem offN_one (q : Qu) (fi : Nat) (S : Sd) (h : One S.A) : ∀ k, k ≤ S.A.free.length → One (offN q fi S k).A
  | 0, _ => h
  | k + 1, hk => One.add (offN_one q fi S h k (by omega)) (by rw [offN_free, List.length_drop]; omega)
def cardF (H : Nh) (f : Nat → Int) : Nat → Int := zr (zr f H.base (8 + 26 * H.n)) (H.base + (8 + 26 * H.n)) (8 + 26 * H.n)
def cardS (H : Nh) (f : Nat → Int) : Sd := offN H.qi H.fi ⟨A0 H.n, cardF H f, 0, 0⟩ H.n
structure Crd (w : World) (lab : Nat → Nat) (H : Nh) (f : Nat → Int) (Ai Ao : Abs) (c : Nat) : Prop where
  lt : ∀ b, lab b ≠ 0 → b < w.heap.size
  di : Drv w H.di H.qi Ai c (fun b => lab b = 1)
  dq : Drv w H.dq H.qo Ao c (fun b => lab b = 2)
  mem : Mem w H.g H.N f
  card : w.heap[H.pc]? = some (.cells (cardC H) 56 (0, 0))
  l5 : lab H.g = 5
  l6 : lab H.pc = 6
  le : ∀ b, lab b ≤ 6
  l34 : ∀ b, lab b ≠ 3 ∧ lab b ≠ 4
  oi : One Ai
  oo : One Ao
open Classical in
noncomputable def labC (al1 al2 : Nat → Prop) (g pc b : Nat) : Nat := if al1 b then 1 else if al2 b then 2 else if b = g then 5 else if b = pc then 6 else 0
theorem One.a0 (n : Nat) : One (A0 n) := fun p hp => by simp [A0] at hp

set_option maxRecDepth 100000 in
set_option maxHeartbeats 4000000 in
theorem NewCard_ok (w : World) (H : Nh) (f : Nat → Int) (hm : Mem w H.g H.N f) :
    Calls Tryz.prog 7 #[.slice (some ⟨H.g, 0, none⟩) H.N H.N, .int .i64 H.base, .int .i64 H.n] w fun e w' => ∃ pc di dq, e = .returned (.tuple #[.pointer (some ⟨pc, 0, none⟩), .int .i64 0]) ∧ Mods (fun b => b = H.g) w w' ∧
      ∃ lab, Crd w' lab { H with pc := pc, di := di, dq := dq } (cardS H f).f (cardS H f).A (A0 H.n) H.n ∧ ∀ b, b < w.heap.size → b ≠ H.g → lab b = 0 := by
  have hbd := H.bd
  have hfit := H.fit
  have hbig := H.big
  have HHA : Hid (Calls Tryz.prog 23 #[.slice (some ⟨H.g, 0, none⟩) H.N H.N, .int .i64 H.base, .int .i64 H.n] w fun e w' => e = .returned (.bool true) ∧ w' = w) := hid (by
    have h1 := hasArea_any w (some ⟨H.g, 0, none⟩) H.N H.N H.base H.n hbig
    have h2 : hasB H.N H.base H.n = true := by
      unfold hasB areaI
      rw [if_pos H.p2]
      simp
      omega
    rw [h2] at h1
    exact h1)
  have HD1 : Hid (∀ (W : World) (f : Nat → Int), Mem W H.g H.N f → Calls Tryz.prog 24 #[.slice (some ⟨H.g, 0, none⟩) H.N H.N, .int .i64 H.base, .int .i64 H.n, .int .i64 0] W fun e w' => ∃ pd, e = .returned (.tuple #[sideV pd H.g H.N H.fi, .int .i64 0]) ∧ Mods (fun b => b = H.g) W w' ∧ Mem w' H.g H.N (zr f H.base (8 + 26 * H.n)) ∧ ∃ al, Drv w' pd H.qi (A0 H.n) 0 al ∧ ∀ b, al b → W.heap.size ≤ b) := hid (fun W f h => newDriverSide_any W H.qi H.base 0 H.fi f h H.p2 (by omega) (by simp) (by unfold Nh.fi; simp))
  have HD2 : Hid (∀ (W : World) (f : Nat → Int), Mem W H.g H.N f → Calls Tryz.prog 24 #[.slice (some ⟨H.g, 0, none⟩) H.N H.N, .int .i64 H.base, .int .i64 H.n, .int .i64 1] W fun e w' => ∃ pd, e = .returned (.tuple #[sideV pd H.g H.N H.fo, .int .i64 0]) ∧ Mods (fun b => b = H.g) W w' ∧ Mem w' H.g H.N (zr f (H.base + (8 + 26 * H.n)) (8 + 26 * H.n)) ∧ ∃ al, Drv w' pd H.qo (A0 H.n) 0 al ∧ ∀ b, al b → W.heap.size ≤ b) := hid (fun W f h => newDriverSide_any W H.qo H.base 1 H.fo f h H.p2 (by omega) (by simp) (by unfold Nh.fo; simp))
  have HM := hid hm
  have HGL : Hid (H.g < w.heap.size) := hid hm.lt
  have HFI := hid H.fi_fit
  unfold sideV at HD1 HD2
  clear hm hfit
  go_enter Tryz.func7, Tryz.ntmps7
  go_wp2_with fail
  refine HHA.out.mono ?_
  rintro e w1 ⟨rfl, hw1⟩
  rw [hw1]
  clear hw1
  go_wp2_with fail
  refine (HD1.out w f HM.out).mono ?_
  rintro e w2 ⟨di, rfl, hmo2, hm2, al1, hd2, ha2⟩
  have HMO2 := hid hmo2
  have HM2 := hid hm2
  have HDI := hid hd2
  have HA1 := hid ha2
  have HB2 : Hid (Below w2.heap.size w2 (w2.alloc (.cells #[.pointer (some ⟨di, 0, none⟩), .slice (some ⟨H.g, 0, none⟩) H.N H.N, .int .i64 H.fi] 51))) := hid ((Below.refl _ _).alloc (Nat.le_refl _) _)
  clear hmo2 hm2 hd2 ha2
  have hcon := hid (HD2.out (w2.alloc (.cells #[.pointer (some ⟨di, 0, none⟩), .slice (some ⟨H.g, 0, none⟩) H.N H.N, .int .i64 H.fi] 51)) _ (HM2.out.below HB2.out))
  go_wp2_with fail
  refine hcon.out.mono ?_
  rintro e w3 ⟨dq, rfl, hmo3, hm3, al2, hd3, ha3⟩
  have HMO3 := hid hmo3
  have HM3 := hid hm3
  have HDQ := hid hd3
  have HA2 := hid ha3
  clear hmo3 hm3 hd3 ha3 hcon
  have hgl := HGL.out
  have hs2 := HMO2.out.size
  obtain ⟨c0, c1, c2⟩ := side_cells w2 di H.g H.N H.fi
  replace c0 := HMO3.out.cell c0 (by omega)
  replace c1 := HMO3.out.cell c1 (by omega)
  replace c2 := HMO3.out.cell c2 (by omega)
  have HB3 : Hid (Below w3.heap.size w3 (w3.alloc (.cells #[.pointer (some ⟨dq, 0, none⟩), .slice (some ⟨H.g, 0, none⟩) H.N H.N, .int .i64 H.fo] 51))) := hid ((Below.refl _ _).alloc (Nat.le_refl _) _)
  replace c0 := cell_later HB3.out c0
  replace c1 := cell_later HB3.out c1
  replace c2 := cell_later HB3.out c2
  obtain ⟨e0, e1, e2⟩ := side_cells w3 dq H.g H.N H.fo
  have hs3 : w2.heap.size + 1 ≤ w3.heap.size := by have := HMO3.out.size; simpa using this
  obtain ⟨W, hW⟩ : ∃ W, W = w3.alloc (.cells #[.pointer (some ⟨dq, 0, none⟩), .slice (some ⟨H.g, 0, none⟩) H.N H.N, .int .i64 H.fo] 51) := ⟨_, rfl⟩
  rw [← hW] at c0 c1 c2 e0 e1 e2 HB3
  have hsW : Hid (W.heap.size = w3.heap.size + 1) := hid (by rw [hW]; simp)
  have hl1 : Hid (∀ b, al1 b → w.heap.size ≤ b ∧ b < w2.heap.size) := hid (fun b hb => ⟨HA1.out b hb, HDI.out.lt b hb⟩)
  have hl2 : Hid (∀ b, al2 b → w2.heap.size < b ∧ b < w3.heap.size) := hid (fun b hb => ⟨by have := HA2.out b hb; simp at this; omega, HDQ.out.lt b hb⟩)
  have hd3 : Drv w3 di H.qi (A0 H.n) 0 al1 := (HDI.out.below HB2.out).mods HMO3.out (fun b hb e => by have := hl1.out b hb; omega)
  have HST := hid (Step.of_below (hd3.below HB3.out) (Below.refl _ W))
  have HMW : Hid (Mem W H.g H.N (cardF H f)) := hid (HM3.out.below HB3.out)
  obtain ⟨S0, hS0⟩ : ∃ S0 : Sd, S0 = ⟨A0 H.n, cardF H f, 0, 0⟩ := ⟨_, rfl⟩
  have HS0 := hid hS0
  have HFL : Hid (S0.A.free.length = H.n) := hid (by rw [hS0]; simp [A0])
  have HF0 : Hid (S0.A = A0 H.n ∧ S0.f = cardF H f) := hid (by rw [hS0]; exact ⟨rfl, rfl⟩)
  clear hd3 hS0
  go_wp2_with fail
  rw [← hW]
  clear hW
  go_loopw [38] (fun z wr => ∃ k : Nat, k ≤ H.n ∧ z = .int .i64 k ∧ Step W wr di H.qi (offN H.qi H.fi S0 k).A k al1 ∧ Mem wr H.g H.N (offN H.qi H.fi S0 k).f ∧ wr.cell? ⟨w2.heap.size, 0, none⟩ = some (.pointer (some ⟨di, 0, none⟩)) ∧ wr.cell? ⟨w2.heap.size, 1, none⟩ = some (.slice (some ⟨H.g, 0, none⟩) H.N H.N) ∧ wr.cell? ⟨w2.heap.size, 2, none⟩ = some (.int .i64 H.fi) ∧ wr.cell? ⟨w3.heap.size, 0, none⟩ = some (.pointer (some ⟨dq, 0, none⟩)) ∧ wr.cell? ⟨w3.heap.size, 1, none⟩ = some (.slice (some ⟨H.g, 0, none⟩) H.N H.N) ∧ wr.cell? ⟨w3.heap.size, 2, none⟩ = some (.int .i64 H.fo)) (fun z _ => H.n - (RowKit.intOf z).toNat)
  case atStart => exact ⟨0, Nat.zero_le _, rfl, by have h := HST.out; rw [← HF0.out.1] at h; exact h, by have h := HMW.out; rw [← HF0.out.2] at h; exact h, c0, c1, c2, e0, e1, e2⟩
  case round =>
    clear c0 c1 c2 e0 e1 e2
    obtain ⟨k, hk, rfl, hst, hmk, c0, c1, c2, e0, e1, e2⟩ := hrel
    have HSTK := hid hst
    have HMK := hid hmk
    clear hst hmk
    by_cases hlt : k < H.n
    · have hki : (k : Int) < H.n := by omega
      obtain ⟨al', hd', ha', hmo'⟩ := HSTK.out
      have hfi := HFI.out k hlt
      have hcon := hid (offerRoom_any wr di H.qi (offN H.qi H.fi S0 k) k al' H.fi k (H.fi + k * 1528) hd' HMK.out (by omega) rfl hfi (by rw [offN_free, List.length_drop, HFL.out]; omega) (by omega))
      have HA' := hid ha'
      have HMO' := hid hmo'
      clear hd' ha' hmo' hfi
      unfold sideV at hcon
      go_wp2_with (go_at_call 25; refine hcon.out.mono ?_; rintro e w5 ⟨rfl, hs5, hm5⟩; have HS5 := hid hs5; have HM5 := hid hm5; clear hs5 hm5)
      go_roundw
      case rel =>
        obtain ⟨_, _, _, hmo5⟩ := HS5.out
        have hsw := hsW.out
        have n2 : ¬ (al' w2.heap.size ∨ w2.heap.size = H.g) := fun e => by
          rcases e with e | e
          · rcases HA'.out _ e with e | e
            · have := hl1.out _ e; omega
            · omega
          · omega
        have n3 : ¬ (al' w3.heap.size ∨ w3.heap.size = H.g) := fun e => by
          rcases e with e | e
          · rcases HA'.out _ e with e | e
            · have := hl1.out _ e; omega
            · omega
          · omega
        exact ⟨k + 1, by omega, by go_num, Step.trans HA'.out HMO'.out HS5.out, HM5.out, hmo5.cell c0 n2, hmo5.cell c1 n2, hmo5.cell c2 n2, hmo5.cell e0 n3, hmo5.cell e1 n3, hmo5.cell e2 n3⟩
      case measure => simp [RowKit.intOf]; omega
    · have hki : ¬ ((k : Int) < H.n) := by omega
      obtain rfl : k = H.n := by omega
      clear hki hlt hk
      go_wp2
      go_ret2
      obtain ⟨al', hd', ha', hmo'⟩ := HSTK.out
      have hsw := hsW.out
      have hswr := hmo'.size
      have hbA : Below wr.heap.size wr (wr.alloc (.cells #[.pointer (some ⟨di, 0, none⟩), .slice (some ⟨H.g, 0, none⟩) H.N H.N, .int .i64 H.fi, .pointer (some ⟨dq, 0, none⟩), .slice (some ⟨H.g, 0, none⟩) H.N H.N, .int .i64 H.fo] 56)) := (Below.refl _ _).alloc (Nat.le_refl _) _
      have hlA : ∀ b, al' b → (w.heap.size ≤ b ∧ b < w2.heap.size) ∨ (w3.heap.size < b ∧ b < wr.heap.size) := fun b hb => by
        have h1 := hd'.lt b hb
        rcases ha' b hb with e | e
        · exact .inl (hl1.out b e)
        · exact .inr ⟨by omega, h1⟩
      have hlB := hl2.out
      have hS : offN H.qi H.fi S0 H.n = cardS H f := by rw [HS0.out]; rfl
      have hmo2 : Mods (fun b => b = H.g) w w3 := (HMO2.out.below HB2.out).tr HMO3.out
      have hmo4 : Mods (fun b => b = H.g) w wr := (hmo2.below HB3.out).trans hmo' (fun b hb => by
        rcases hb with e | e
        · exact .inr (hl1.out b e).1
        · exact .inl e)
      refine ⟨wr.heap.size, di, dq, rfl, hmo4.below hbA, labC al' al2 H.g wr.heap.size, ?_, fun b hb hg => ?_⟩
      · have hdq : Drv wr dq H.qo (A0 H.n) 0 al2 := (HDQ.out.below HB3.out).mods hmo' (fun b hb e => by
          have h1 := hlB b hb
          rcases e with e | e
          · have := hl1.out b e; omega
          · have e' : b = H.g := e
            omega)
        have hlt : ∀ b, labC al' al2 H.g wr.heap.size b ≠ 0 → b < (wr.alloc (.cells #[.pointer (some ⟨di, 0, none⟩), .slice (some ⟨H.g, 0, none⟩) H.N H.N, .int .i64 H.fi, .pointer (some ⟨dq, 0, none⟩), .slice (some ⟨H.g, 0, none⟩) H.N H.N, .int .i64 H.fo] 56)).heap.size := fun b hb => by
          have hz : (wr.alloc (.cells #[.pointer (some ⟨di, 0, none⟩), .slice (some ⟨H.g, 0, none⟩) H.N H.N, .int .i64 H.fi, .pointer (some ⟨dq, 0, none⟩), .slice (some ⟨H.g, 0, none⟩) H.N H.N, .int .i64 H.fo] 56)).heap.size = wr.heap.size + 1 := by simp
          rw [hz]
          unfold labC at hb
          split at hb
          · rename_i h; have := hlA b h; omega
          · split at hb
            · rename_i h; have := hlB b h; omega
            · split at hb
              · omega
              · split at hb
                · omega
                · exact absurd rfl hb
        have h1 : ∀ b, al' b → labC al' al2 H.g wr.heap.size b = 1 := fun b hb => by unfold labC; rw [if_pos hb]
        have n1 : ∀ b, al2 b → ¬ al' b := fun b hb e => by have := hlB b hb; have := hlA b e; omega
        have h2 : ∀ b, al2 b → labC al' al2 H.g wr.heap.size b = 2 := fun b hb => by unfold labC; rw [if_neg (n1 b hb), if_pos hb]
        have h5 : labC al' al2 H.g wr.heap.size H.g = 5 := by
          unfold labC
          rw [if_neg (fun e => by have := hlA _ e; omega), if_neg (fun e => by have := hlB _ e; omega), if_pos rfl]
        have h6 : labC al' al2 H.g wr.heap.size wr.heap.size = 6 := by
          unfold labC
          rw [if_neg (fun e => by have := hlA _ e; omega), if_neg (fun e => by have := hlB _ e; omega), if_neg (by omega), if_pos rfl]
        refine ⟨hlt, ?_, ?_, ?_, (MapKept.heap_alloc wr _).1, h5, h6, fun b => ?_, fun b => ?_, ?_, One.a0 _⟩
        · rw [← hS]
          exact (hd'.below hbA).up h1 (fun b hb => hlt b (by rw [hb]; omega)) (by show ¬ _ = 1; rw [h5]; omega) (Nat.le_refl _)
        · exact (hdq.below hbA).up h2 (fun b hb => hlt b (by rw [hb]; omega)) (by show ¬ _ = 2; rw [h5]; omega) (Nat.zero_le _)
        · rw [← hS]
          exact HMK.out.below hbA
        · unfold labC
          repeat' split
          all_goals omega
        · unfold labC
          repeat' split
          all_goals omega
        · rw [← hS]
          exact offN_one _ _ _ (by rw [HF0.out.1]; exact One.a0 _) _ (by rw [HFL.out]; omega)
      · unfold labC
        rw [if_neg (fun e => by have := hlA _ e; omega), if_neg (fun e => by have := hlB _ e; omega), if_neg hg, if_neg (by omega)]
theorem NewCard_no (w : World) (a : Option Addr) (len cap : Nat) (base n : Int) (hl : len ≤ 1099511627776) (hb : hasB len base n = false) :
    Calls Tryz.prog 7 #[.slice a len cap, .int .i64 base, .int .i64 n] w fun e w' => e = .returned (.tuple #[.pointer none, .int .i64 1]) ∧ w' = w := by
  have hcon := hid (hasArea_any w a len cap base n hl)
  rw [hb] at hcon
  clear hb
  go_enter Tryz.func7, Tryz.ntmps7
  go_wp2_with (go_at_call 23; refine hcon.out.mono ?_; rintro e w1 ⟨rfl, hw1⟩; rw [hw1]; clear hw1)
  go_ret2
  exact ⟨rfl, rfl⟩
theorem NewPort_no (w : World) (a : Option Addr) (len cap : Nat) (base n : Int) (hl : len ≤ 1099511627776) (hb : hasB len base n = false) :
    Calls Tryz.prog 9 #[.slice a len cap, .int .i64 base, .int .i64 n] w fun e w' => e = .returned (.tuple #[.pointer none, .int .i64 1]) ∧ w' = w := by
  have hcon := hid (hasArea_any w a len cap base n hl)
  rw [hb] at hcon
  clear hb
  go_enter Tryz.func9, Tryz.ntmps9
  go_wp2_with (go_at_call 23; refine hcon.out.mono ?_; rintro e w1 ⟨rfl, hw1⟩; rw [hw1]; clear hw1)
  go_ret2
  exact ⟨rfl, rfl⟩
set_option maxRecDepth 100000 in
set_option maxHeartbeats 2000000 in
theorem NewPort_ok (w : World) (H : Nh) (hgl : H.g < w.heap.size) :
    Calls Tryz.prog 9 #[.slice (some ⟨H.g, 0, none⟩) H.N H.N, .int .i64 H.base, .int .i64 H.n] w fun e w' => ∃ pp vi vo, e = .returned (.tuple #[.pointer (some ⟨pp, 0, none⟩), .int .i64 0]) ∧ Below w.heap.size w w' ∧ Dev w' vi H.qi 0 0 ∧ Dev w' vo H.qo 0 0 ∧
      w'.heap[pp]? = some (.cells (portC { H with pp := pp, vi := vi, vo := vo }) 70 (0, 0)) ∧ w.heap.size ≤ vi ∧ vi < vo ∧ vo < pp ∧ pp < w'.heap.size := by
  have hbig := H.big
  have hfit := H.fit
  have hbd := H.bd
  have HHA : Hid (Calls Tryz.prog 23 #[.slice (some ⟨H.g, 0, none⟩) H.N H.N, .int .i64 H.base, .int .i64 H.n] w fun e w' => e = .returned (.bool true) ∧ w' = w) := hid (by
    have h1 := hasArea_any w (some ⟨H.g, 0, none⟩) H.N H.N H.base H.n hbig
    have h2 : hasB H.N H.base H.n = true := by
      unfold hasB areaI
      rw [if_pos H.p2]
      simp
      omega
    rw [h2] at h1
    exact h1)
  have HD1 : Hid (Calls Tryz.prog 29 #[.slice (some ⟨H.g, 0, none⟩) H.N H.N, .int .i64 H.base, .int .i64 H.n, .int .i64 0] w fun e w' => ∃ pv, e = .returned (.tuple #[devV pv H.g H.N, .int .i64 0]) ∧ Below w.heap.size w w' ∧ Dev w' pv H.qi 0 0 ∧ w.heap.size ≤ pv) := hid (newDeviceSide_any w H.qi H.base 0 hgl H.p2 (by omega) (by simp))
  have HD2 : Hid (∀ (W : World), H.g < W.heap.size → Calls Tryz.prog 29 #[.slice (some ⟨H.g, 0, none⟩) H.N H.N, .int .i64 H.base, .int .i64 H.n, .int .i64 1] W fun e w' => ∃ pv, e = .returned (.tuple #[devV pv H.g H.N, .int .i64 0]) ∧ Below W.heap.size W w' ∧ Dev w' pv H.qo 0 0 ∧ W.heap.size ≤ pv) := hid (fun W h => newDeviceSide_any W H.qo H.base 1 h H.p2 (by omega) (by simp))
  unfold devV at HD1 HD2
  clear hfit
  go_enter Tryz.func9, Tryz.ntmps9
  go_wp2_with fail
  refine HHA.out.mono ?_
  rintro e w1 ⟨rfl, hw1⟩
  rw [hw1]
  clear hw1
  go_wp2_with fail
  refine HD1.out.mono ?_
  rintro e w2 ⟨vi, rfl, hb2, hd2, hv2⟩
  have HB2 : Hid (Below w.heap.size w (w2.alloc (.cells #[.pointer (some ⟨vi, 0, none⟩), .slice (some ⟨H.g, 0, none⟩) H.N H.N] 66))) := hid (hb2.alloc hb2.size _)
  have HV2 := hid (And.intro hv2 hd2.lt)
  have HD2' := hid hd2
  have hcon := hid (HD2.out (w2.alloc (.cells #[.pointer (some ⟨vi, 0, none⟩), .slice (some ⟨H.g, 0, none⟩) H.N H.N] 66)) (Nat.lt_of_lt_of_le hgl HB2.out.size))
  have c0 : (w2.alloc (.cells #[.pointer (some ⟨vi, 0, none⟩), .slice (some ⟨H.g, 0, none⟩) H.N H.N] 66)).cell? ⟨w2.heap.size, 0, none⟩ = some (.pointer (some ⟨vi, 0, none⟩)) := new_cell w2 _ _ _ 0 (by simp)
  have c1 : (w2.alloc (.cells #[.pointer (some ⟨vi, 0, none⟩), .slice (some ⟨H.g, 0, none⟩) H.N H.N] 66)).cell? ⟨w2.heap.size, 1, none⟩ = some (.slice (some ⟨H.g, 0, none⟩) H.N H.N) := new_cell w2 _ _ _ 1 (by simp)
  clear hb2 hd2 hv2
  go_wp2_with fail
  refine hcon.out.mono ?_
  rintro e w3 ⟨vo, rfl, hb3, hd3, hv3⟩
  have HB3 := hid hb3
  have HD3 := hid hd3
  have HV3 : Hid (w2.heap.size + 1 ≤ vo ∧ vo < w3.heap.size) := hid ⟨by simpa using hv3, hd3.lt⟩
  replace c0 := cell_later (hb3.alloc hb3.size (.cells #[.pointer (some ⟨vo, 0, none⟩), .slice (some ⟨H.g, 0, none⟩) H.N H.N] 66)) c0
  replace c1 := cell_later (hb3.alloc hb3.size (.cells #[.pointer (some ⟨vo, 0, none⟩), .slice (some ⟨H.g, 0, none⟩) H.N H.N] 66)) c1
  have e0 : (w3.alloc (.cells #[.pointer (some ⟨vo, 0, none⟩), .slice (some ⟨H.g, 0, none⟩) H.N H.N] 66)).cell? ⟨w3.heap.size, 0, none⟩ = some (.pointer (some ⟨vo, 0, none⟩)) := new_cell w3 _ _ _ 0 (by simp)
  have e1 : (w3.alloc (.cells #[.pointer (some ⟨vo, 0, none⟩), .slice (some ⟨H.g, 0, none⟩) H.N H.N] 66)).cell? ⟨w3.heap.size, 1, none⟩ = some (.slice (some ⟨H.g, 0, none⟩) H.N H.N) := new_cell w3 _ _ _ 1 (by simp)
  clear hb3 hd3 hv3 hcon
  go_wp2
  go_ret2
  have h1 := HV2.out
  have h2 := HV3.out
  have hb4 : Below w.heap.size w w3 := HB2.out.trans (HB3.out.mono HB2.out.size)
  have hk : ∀ b, b < w3.heap.size → ∀ o1 o2 : Obj, ((w3.alloc o1).alloc o2).heap[b]? = w3.heap[b]? := fun b hb o1 o2 => (((Below.refl w3.heap.size w3).alloc (Nat.le_refl _) o1).alloc (by simp) o2).block b hb
  have hsz : (w3.alloc (.cells #[.pointer (some ⟨vo, 0, none⟩), .slice (some ⟨H.g, 0, none⟩) H.N H.N] 66)).heap.size = w3.heap.size + 1 := by simp
  refine ⟨w3.heap.size + 1, vi, vo, rfl, (hb4.alloc hb4.size _).alloc (by simp; have := hb4.size; omega) _, ?_, ?_, ?_, h1.1, by omega, by omega, by simp⟩
  · have h3 := HD2'.out.keep (((Below.refl _ w2).alloc (Nat.le_refl _) (.cells #[.pointer (some ⟨vi, 0, none⟩), .slice (some ⟨H.g, 0, none⟩) H.N H.N] 66)).block vi h1.2)
    have h4 := h3.keep (HB3.out.block vi (by simp; omega))
    exact h4.keep (hk vi (by omega) _ _)
  · exact HD3.out.keep (hk vo h2.2 _ _)
  · rw [← hsz]
    exact (MapKept.heap_alloc _ _).1
def labP (lab : Nat → Nat) (vi vo pp b : Nat) : Nat := if b = vi then 3 else if b = vo then 4 else if b = pp then 7 else lab b
theorem Crd.port {w w' : World} {lab : Nat → Nat} {H : Nh} {f : Nat → Int} {Ai Ao : Abs} {c pp vi vo : Nat} (h : Crd w lab H f Ai Ao c) (hb : Below w.heap.size w w') (hvi : Dev w' vi H.qi 0 0) (hvo : Dev w' vo H.qo 0 0) (hp : w'.heap[pp]? = some (.cells (portC { H with pp := pp, vi := vi, vo := vo }) 70 (0, 0)))
    (h1 : w.heap.size ≤ vi) (h2 : vi < vo) (h3 : vo < pp) (h4 : pp < w'.heap.size) : Net w' (labP lab vi vo pp) { H with pp := pp, vi := vi, vo := vo } ⟨f, Ai, Ao, 0, 0, 0, 0⟩ c := by
  have old : ∀ b, b < w.heap.size → labP lab vi vo pp b = lab b := fun b hb => by unfold labP; rw [if_neg (by omega), if_neg (by omega), if_neg (by omega)]
  have hz : ∀ b, w.heap.size ≤ b → lab b = 0 := fun b hb => by
    by_cases e : lab b = 0
    · exact e
    · have := h.lt b e; omega
  have hg := h.lt H.g (by rw [h.l5]; omega)
  have hpc := h.lt H.pc (by rw [h.l6]; omega)
  have hsz := hb.size
  have k1 : ∀ b, labP lab vi vo pp b = 1 ↔ lab b = 1 := fun b => by
    unfold labP
    split
    · have := hz b (by omega); omega
    · split
      · have := hz b (by omega); omega
      · split
        · have := hz b (by omega); omega
        · exact Iff.rfl
  have k2 : ∀ b, labP lab vi vo pp b = 2 ↔ lab b = 2 := fun b => by
    unfold labP
    split
    · have := hz b (by omega); omega
    · split
      · have := hz b (by omega); omega
      · split
        · have := hz b (by omega); omega
        · exact Iff.rfl
  have hlt : ∀ b, labP lab vi vo pp b ≠ 0 → b < w'.heap.size := fun b hb2 => by
    unfold labP at hb2
    split at hb2
    · omega
    · split at hb2
      · omega
      · split at hb2
        · omega
        · have := h.lt b hb2; omega
  have hg5 : labP lab vi vo pp H.g = 5 := by rw [old _ hg]; exact h.l5
  exact ⟨hlt, (h.di.below hb).up (fun b hb => (k1 b).2 hb) (fun b hb => hlt b (by rw [hb]; omega)) (by show ¬ _ = 1; rw [hg5]; omega) (Nat.le_refl _),
    (h.dq.below hb).up (fun b hb => (k2 b).2 hb) (fun b hb => hlt b (by rw [hb]; omega)) (by show ¬ _ = 2; rw [hg5]; omega) (Nat.le_refl _), hvi, hvo, h.mem.below hb, (hb.block _ hpc).trans h.card, hp,
    by show labP lab vi vo pp vi = 3; unfold labP; rw [if_pos rfl], by show labP lab vi vo pp vo = 4; unfold labP; rw [if_neg (by omega), if_pos rfl], hg5, by show labP lab vi vo pp H.pc = 6; rw [old _ hpc]; exact h.l6,
    by show labP lab vi vo pp pp = 7; unfold labP; rw [if_neg (by omega), if_neg (by omega), if_pos rfl], h.oi, h.oo⟩
theorem labP_old {lab : Nat → Nat} {vi vo pp s b : Nat} (hb : b < s) (h1 : s ≤ vi) (h2 : vi < vo) (h3 : vo < pp) : labP lab vi vo pp b = lab b := by unfold labP; rw [if_neg (by omega), if_neg (by omega), if_neg (by omega)]
end Go.Proofs.YtdjghkngiicncaaGreat
