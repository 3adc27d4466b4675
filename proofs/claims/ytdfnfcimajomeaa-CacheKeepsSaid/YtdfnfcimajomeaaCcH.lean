/- New, Get, Fill, Put, Pin, Unpin, Clean, Drop. -/
import Derived.Test.YtdfnfcimajomeaaCcG
namespace Go.Proofs.Ytdfnfcimajomeaa
open Go.RowKit Go.Maps

theorem isI_nat {n : Nat} (h : n < 9223372036854775808) : IsI (n : Int) := isI_of (by omega) (by omega)
set_option maxRecDepth 100000 in
theorem New_ok (w : World) (n : Nat) (h1 : 1 ≤ n) (h2 : n ≤ 1024) :
    Calls Try.prog 8 #[.int .i64 n] w fun e w' => ∃ p S, e = .returned (.tuple #[pv p, .int .i64 0]) ∧ Ca w' p S ⟨n, []⟩ 0 ∧ Below w.heap.size w w' ∧ ∀ b, S b → w.heap.size ≤ b := by
  have h1' : ¬ ((n : Int) < 1) := by omega
  have h2' : ¬ ((1024 : Int) < (n : Int)) := by omega
  obtain ⟨W1, hW1⟩ : ∃ W1, W1 = w.alloc (.map #[] 0) := ⟨_, rfl⟩
  obtain ⟨W2, hW2⟩ : ∃ W2, W2 = W1.alloc (.cells #[.int .i64 n, .map (some w.heap.size), .slice none 0 0] 53) := ⟨_, rfl⟩
  have hs1 : W1.heap.size = w.heap.size + 1 := by rw [hW1]; simp
  have hs2 : W2.heap.size = w.heap.size + 2 := by rw [hW2]; simp [hs1]
  have hb2 : Below W1.heap.size W1 W2 := by rw [hW2]; exact (Below.refl _ _).alloc (Nat.le_refl _) _
  have hb1 : Below w.heap.size w W1 := by rw [hW1]; exact (Below.refl _ _).alloc (Nat.le_refl _) _
  have hm : MapIs W2 w.heap.size 0 (fun _ => none) := (show MapIs W1 w.heap.size 0 (fun _ => none) by rw [hW1]; exact MapIs.made w).keep (hb2.block _ (by omega))
  have HR : Hid (Ca W2 W1.heap.size (fun b => w.heap.size ≤ b ∧ b < W2.heap.size) ⟨n, []⟩ 0) := hid ⟨fun _ => 0, w.heap.size, .slice none 0 0, fun _ => none, ⟨fun b hb => hb.2, by rw [hW2]; exact alloc_new W1 _, ⟨by omega, by omega⟩, hm, ⟨Nat.le_refl _, by omega⟩, ⟨rfl, .inl ⟨rfl, rfl⟩⟩, fun g hg => by simp [Value.ownBlock] at hg, fun e he => by simp at he, by simp [nums], fun k _ => by simp [nums], h2, Nat.zero_le _⟩⟩
  have HB : Hid (Below w.heap.size w W2) := hid (hb1.trans (hb2.mono (by omega)))
  rw [hs1] at HR
  generalize hSS : (fun b => w.heap.size ≤ b ∧ b < W2.heap.size) = SS at HR
  have HSS : Hid (∀ b, SS b → w.heap.size ≤ b) := hid (fun b hb => by rw [← hSS] at hb; exact hb.1)
  clear hSS
  subst hW2 hW1
  clear hs1 hs2 hb1 hb2 hm
  have hmm := @run_makeMap Try.prog
  go_enter Try.func8, Try.ntmps8
  go_wp2
  go_ret2
  exact ⟨_, rfl, SS, HR.out, HB.out, HSS.out⟩
set_option maxRecDepth 100000 in
theorem New_no (w : World) (n : Int) (h : n < 1 ∨ 1024 < n) :
    Calls Try.prog 8 #[.int .i64 n] w fun e w' => e = .returned (.tuple #[.pointer none, .int .i64 1]) ∧ w' = w := by
  by_cases h1 : n < 1
  · clear h
    go_enter Try.func8, Try.ntmps8
    go_wp2
    go_ret2
    exact ⟨rfl, rfl⟩
  · have h2 : 1024 < n := by omega
    clear h
    go_enter Try.func8, Try.ntmps8
    go_wp2
    go_ret2
    exact ⟨rfl, rfl⟩
section
variable {w w' : World} {p m : Nat} {S : Nat → Prop} {A : Cs} {ad : Int → Nat} {bm : Nat} {vr : Value} {M : Int → Option Value}
theorem CaAt.at (h : CaAt w p S A m ad bm vr M) {k : Int} (hk : k ∈ nums A.row) : w.heap[ad k]? = some (.cells (entC (A.at k)).toArray 66 (0, 0)) ∧ S (ad k) ∧ (A.at k).dat.length = 512 ∧ (A.at k).num = k := by
  obtain ⟨h1, h2⟩ := atL_mem hk
  have := h.ent _ h1
  rw [h2] at this
  exact ⟨this.1, this.2.1, this.2.2.1, h2⟩
theorem nums_chg (A : Cs) (k : Int) (f : Ec → Ec) (hf : ∀ e, (f e).num = e.num) : nums (A.chg k f).row = nums A.row := by
  unfold Cs.chg nums
  rw [List.map_map]
  apply List.map_congr_left
  intro e _
  simp only [Function.comp]
  split
  · exact hf e
  · rfl
/-- An entry is another one. -/
theorem CaAt.toEnt (h : CaAt w p S A m ad bm vr M) {k : Int} (hk : k ∈ nums A.row) (f : Ec → Ec) (hf : ∀ e, (f e).num = e.num) (hd : ∀ e, e.dat.length = 512 → (f e).dat.length = 512) (hb : w'.heap[ad k]? = some (.cells (entC (f (A.at k))).toArray 66 (0, 0))) (hm : Mods (fun b => b = ad k) w w') :
    CaAt w' p S (A.chg k f) m ad bm vr M ∧ Kp S w S w' := by
  obtain ⟨hmem, hnum⟩ := atL_mem hk
  have hpk : ad k ≠ p := by have := h.e_ne_p hmem; rwa [hnum] at this
  have hmk : ad k ≠ bm := by have := h.e_ne_m hmem; rwa [hnum] at this
  have hptr : ptrs ad (A.chg k f).row = ptrs ad A.row := by
    unfold Cs.chg ptrs
    rw [List.map_map]
    apply List.map_congr_left
    intro e _
    simp only [Function.comp]
    split
    · rw [hf e]
    · rfl
  have hlen : (A.chg k f).row.length = A.row.length := by unfold Cs.chg; simp
  refine ⟨⟨fun b hb2 => Nat.lt_of_lt_of_le (h.lt b hb2) hm.size, (hm.block p (h.lt p h.sp) (fun e => hpk e.symm)).trans h.box, h.sp, h.map.keep (hm.block bm (h.lt bm h.sm) (fun e => hmk e.symm)), h.sm, ?_, h.sr, fun e he => ?_, by rw [nums_chg A k f hf]; exact h.nd, fun j hj => by rw [nums_chg A k f hf]; exact h.key j hj, h.hn, by rw [hlen]; exact h.len⟩, fun _ e => .inl e, hm.weak (fun b e => .inl (by rw [e]; have := (h.ent _ hmem).2.1; rwa [hnum] at this))⟩
  · rw [hptr, hlen]
    exact owns_keep h.row (fun g hg => hm.block g (owns_lt h.row hg).1 (fun e => by
      have := h.e_ne_r hmem hg
      rw [hnum] at this
      exact this e.symm))
  · unfold Cs.chg at he
    obtain ⟨x, hx, rfl⟩ := List.mem_map.1 he
    obtain ⟨g1, g2, g3, g4⟩ := h.ent x hx
    by_cases e : x.num = k
    · rw [if_pos e]
      have hxe : x = A.at k := by rw [← e]; exact (atL_of h.nd hx).symm
      rw [hf x]
      refine ⟨?_, g2, hd x g3, g4⟩
      rw [e]
      rw [← hxe] at hb
      exact hb
    · rw [if_neg e]
      refine ⟨(hm.block _ (h.lt _ g2) (fun e2 => ?_)).trans g1, g2, g3, g4⟩
      have := h.inj hx hmem (by rw [e2]; exact congrArg ad hnum.symm)
      rw [hnum] at this
      exact e this
/-- Bytes that are told: the caller's own. -/
def Told (w : World) (B : Nat) (S : Nat → Prop) (v : Value) (l : List Int) : Prop := w.ownsRow B 5 1 v l.length (u8s l) ∧ ∀ g, v.ownBlock = some g → ¬ S g
set_option maxRecDepth 100000 in
theorem Get_has (h : Ca w p S A m) (k : Int) (hk : IsI k) (hm : k ∈ nums A.row) :
    Calls Try.prog 23 #[pv p, .int .i64 k] w fun e w' => ∃ v S', e = .returned (.tuple #[v, .int .i64 0]) ∧ Ca w' p S' (A.use k) m ∧ Kp S w S' w' ∧ Told w' w.heap.size S' v (A.at k).dat := by
  obtain ⟨ad, bm, vr, M, h⟩ := h
  obtain ⟨c0, c1, c2⟩ := h.cells
  have hlook := (h.look hk).1 hm
  have HU := hid (use_any h k hm)
  have hm2 : k ∈ nums (A.use k).row := (use_mem hm k).2 hm
  have hat : (A.use k).at k = A.at k := by
    have hmem := (atL_mem hm2)
    unfold Cs.at
    unfold Cs.use at hmem ⊢
    rcases List.mem_append.1 hmem.1 with e | e
    · exact absurd hmem.2 (mem_wo.1 e).2
    · exact List.mem_singleton.1 e
  have HT : Hid (∀ w1 vr1 S1, CaAt w1 p S1 (A.use k) m ad bm vr1 M → Calls Try.prog 41 #[pv (ad k)] w1 fun r w' => ∃ v, r = .returned v ∧ w'.ownsRow w1.heap.size 5 1 v 512 (u8s (A.at k).dat) ∧ Below w1.heap.size w1 w') := hid (fun w1 vr1 S1 h1 => by
    have := h1.at hm2
    rw [hat] at this
    exact tell_any w1 (ad k) (A.at k) this.2.2.1 this.1)
  have HL : Hid ((A.at k).dat.length = 512) := hid (h.at hm).2.2.1
  clear h hm hm2 hat
  generalize A.at k = e0 at *
  go_enter Try.func23, Try.ntmps23
  go_wp2_with (first
    | (go_at_call 40; refine HU.out.mono ?_; rintro e w1 ⟨rfl, vr1, S1, h1, hk1⟩; have H1 := hid h1; have HK1 := hid hk1; clear h1 hk1)
    | (go_at_call 41; refine (HT.out _ _ _ H1.out).mono ?_; rintro e w2 ⟨v, rfl, h2, hb2⟩; have H2 := hid h2; have HB2 := hid hb2; clear h2 hb2))
  go_ret2
  refine ⟨_, S1, rfl, ⟨_, _, _, _, H1.out.below HB2.out⟩, HK1.out.trans (Kp.below HB2.out), ?_, fun g hg e => ?_⟩
  · rw [HL.out]
    exact owns_base H2.out (fun g hg => Nat.le_trans HK1.out.2.size (owns_lt H2.out hg).2)
  · have := (owns_lt H2.out hg).2
    have := H1.out.lt g e
    omega
set_option maxRecDepth 100000 in
theorem Get_no (h : Ca w p S A m) (k : Int) (hk : IsI k) (hm : k ∉ nums A.row) :
    Calls Try.prog 23 #[pv p, .int .i64 k] w fun e w' => e = .returned (.tuple #[.slice none 0 0, .int .i64 17]) ∧ w' = w := by
  obtain ⟨ad, bm, vr, M, h⟩ := h
  obtain ⟨c0, c1, c2⟩ := h.cells
  have hlook := (h.look hk).2 hm
  clear h hm
  go_enter Try.func23, Try.ntmps23
  go_wp2
  go_ret2
  exact ⟨rfl, rfl⟩
def badR (k : Int) (n : Nat) : Int := if k < 0 then 1 else if n = 512 then 0 else 14
set_option maxRecDepth 100000 in
theorem refusal_any (w : World) (k : Int) (a : Option Addr) (n c : Nat) :
    Calls Try.prog 34 #[.int .i64 k, .slice a n c] w fun e w' => e = .returned (.int .i64 (badR k n)) ∧ w' = w := by
  unfold badR
  by_cases h1 : k < 0
  · go_enter Try.func34, Try.ntmps34
    go_wp2
    go_ret
    exact ⟨by first | rfl | (rw [if_pos h1]; rfl), rfl⟩
  · by_cases h2 : n = 512
    · subst h2
      go_enter Try.func34, Try.ntmps34
      go_wp2
      go_ret
      exact ⟨by first | rfl | (rw [if_neg h1]; rfl), rfl⟩
    · have h2' : ((n : Int) != 512) = true := by rw [bne_iff_ne]; omega
      go_enter Try.func34, Try.ntmps34
      go_wp2
      go_ret
      exact ⟨by first | rfl | (rw [if_neg h1, if_neg h2]; rfl) | simp [h1, h2], rfl⟩
/-- A slice of bytes that is handed in; if it is a block, it can be read, and is not the cache's. -/
def Dat (w : World) (S : Nat → Prop) (v : Value) (d : List Int) : Prop := ∃ a c, v = .slice a d.length c ∧ (d.length = 512 → ∃ b o, a = some ⟨b, o, none⟩ ∧ Byt w ⟨b, o, none⟩ d ∧ ¬ S b ∧ b < w.heap.size)
def fillR (A : Cs) (k : Int) (n : Nat) : Int := if badR k n = 0 then (if k ∈ nums A.row then 8 else if A.room = none then 7 else 0) else badR k n
def fillS (A : Cs) (k : Int) (d : List Int) : Cs := if fillR A k d.length = 0 then (A.room.getD A).add ⟨k, d, false, 0⟩ else A
def putR (A : Cs) (k : Int) (n : Nat) : Int := if badR k n = 0 then (if k ∈ nums A.row then 0 else if A.room = none then 7 else 0) else badR k n
def putS (A : Cs) (k : Int) (d : List Int) : Cs := if putR A k d.length = 0 then (if k ∈ nums A.row then { A with row := wo A.row k ++ [{ A.at k with dat := d, dirty := true }] } else (A.room.getD A).add ⟨k, d, true, 0⟩) else A
theorem bad_cases (k : Int) (n : Nat) : (badR k n = 0 ∧ 0 ≤ k ∧ n = 512) ∨ badR k n = 1 ∨ badR k n = 14 := by
  unfold badR
  split
  · exact .inr (.inl rfl)
  · split
    · exact .inl ⟨rfl, by omega, by assumption⟩
    · exact .inr (.inr rfl)
theorem chg_add {A : Cs} {e : Ec} {k : Int} (hk : e.num = k) (hm : k ∉ nums A.row) (f : Ec → Ec) : (A.add e).chg k f = A.add (f e) := by
  unfold Cs.add Cs.chg
  congr 1
  rw [List.map_append]
  congr 1
  · rw [List.map_congr_left (g := id)]
    · simp
    · intro x hx
      rw [if_neg (fun e2 => hm (List.mem_map.2 ⟨x, hx, e2⟩))]
      rfl
  · simp [hk]
theorem chg_use {A : Cs} {k : Int} (hm : k ∈ nums A.row) (f : Ec → Ec) : (A.use k).chg k f = { A with row := wo A.row k ++ [f (A.at k)] } := by
  unfold Cs.use Cs.chg
  simp only
  congr 1
  rw [List.map_append]
  congr 1
  · rw [List.map_congr_left (g := id)]
    · simp
    · intro x hx
      rw [if_neg (mem_wo.1 hx).2]
      rfl
  · simp [show (A.at k).num = k from (atL_mem hm).2]
theorem add_mem (A : Cs) (e : Ec) : e.num ∈ nums (A.add e).row := by unfold Cs.add; rw [nums_app]; simp [nums]
theorem add_at {A : Cs} {e : Ec} (h : (nums (A.add e).row).Nodup) : (A.add e).at e.num = e := atL_of h (by unfold Cs.add; simp)
theorem room_not {A1 : Cs} (h : A.room = some A1) {k : Int} (hm : k ∉ nums A.row) : k ∉ nums A1.row := fun e => by
  obtain ⟨x, hx, e2⟩ := List.mem_map.1 e
  exact hm (List.mem_map.2 ⟨x, (room_sub h).1 x hx, e2⟩)
set_option maxRecDepth 100000 in
set_option maxHeartbeats 1000000 in
theorem Fill_any (h : Ca w p S A m) (k : Int) (hk : IsI k) (v : Value) (d : List Int) (hv : Dat w S v d) (hmm : m < 1000000000) :
    Calls Try.prog 17 #[pv p, .int .i64 k, v] w fun e w' => e = .returned (.int .i64 (fillR A k d.length)) ∧ ∃ S', Ca w' p S' (fillS A k d) (m + 1) ∧ Kp S w S' w' := by
  obtain ⟨a, c, rfl, hv⟩ := hv
  have HC := hid h
  obtain ⟨ad, bm, vr, M, h⟩ := h
  obtain ⟨c0, c1, c2⟩ := h.cells
  have HR := hid (refusal_any w k a d.length c)
  unfold fillS fillR
  rcases bad_cases k d.length with ⟨hb, hk0, hd⟩ | hb | hb
  · rw [hb, hd] at HR
    rw [if_pos hb, hd]
    by_cases hm : k ∈ nums A.row
    · have hlook := (h.look hk).1 hm
      rw [if_pos hm, if_neg (by omega)]
      clear h hm hb hv hd
      go_enter Try.func17, Try.ntmps17
      go_wp2_with (go_at_call 34; refine HR.out.mono ?_; rintro e w1 ⟨rfl, hw1⟩; rw [hw1]; clear hw1)
      go_ret
      exact ⟨rfl, S, HC.out.more (by omega), Kp.refl _ _⟩
    · have hlook := (h.look hk).2 hm
      rw [if_neg hm]
      cases hro : A.room with
      | none =>
        rw [if_pos rfl, if_neg (by omega)]
        have HP := hid (place_full h k hk hm hro)
        clear h hm hb hv hro hd
        go_enter Try.func17, Try.ntmps17
        go_wp2_with (first
          | (go_at_call 34; refine HR.out.mono ?_; rintro e w1 ⟨rfl, hw1⟩; rw [hw1]; clear hw1)
          | (go_at_call 35; refine HP.out.mono ?_; rintro e w1 ⟨rfl, vr1, M1, S1, h1, hk1⟩; have H1 := hid h1; have HK1 := hid hk1; clear h1 hk1))
        go_ret
        exact ⟨rfl, S1, Ca.more ⟨_, _, _, _, H1.out⟩ (by omega), HK1.out⟩
      | some A1 =>
        rw [if_neg (by simp), if_pos rfl]
        simp only [Option.getD_some]
        have HP := hid (place_new h k hk hm A1 hro hmm)
        have hnm := room_not hro hm
        obtain ⟨b, o, rfl, hB, hS, hbl⟩ := hv hd
        have HL : Hid (∀ w1 ad1 vr1 M1 S1 z, CaAt w1 p S1 (A1.add ⟨k, z, false, 0⟩) (m + 1) ad1 bm vr1 M1 → Kp S w S1 w1 → Calls Try.prog 36 #[pv (ad1 k), .slice (some ⟨b, o, none⟩) 512 c] w1 fun r w' => r = .returned undef ∧ Ca w' p S1 (A1.add ⟨k, d, false, 0⟩) (m + 1) ∧ Kp S w S1 w') := hid (fun w1 ad1 vr1 M1 S1 z h1 hk1 => by
          have hmem := add_mem A1 ⟨k, z, false, 0⟩
          have hat := h1.at hmem
          rw [add_at h1.nd] at hat
          refine (lay_any w1 (ad1 k) ⟨k, z, false, 0⟩ hat.2.2.1 hat.1 ⟨b, o, none⟩ c d hd (hB.keep (hk1.block hbl hS))).mono ?_
          rintro r w2 ⟨rfl, hh, hm2⟩
          obtain ⟨h2, hk2⟩ := h1.toEnt (k := k) hmem (fun e => { e with dat := d }) (fun _ => rfl) (fun _ _ => hd) (by rw [show (A1.add ⟨k, z, false, 0⟩).at k = ⟨k, z, false, 0⟩ from add_at (e := ⟨k, z, false, 0⟩) h1.nd]; exact hh) hm2
          rw [chg_add rfl hnm] at h2
          exact ⟨rfl, ⟨_, _, _, _, h2⟩, hk1.trans hk2⟩)
        clear h hm hb hv hro hnm hB hS hbl hd
        go_enter Try.func17, Try.ntmps17
        go_wp2_with (first
          | (go_at_call 34; refine HR.out.mono ?_; rintro e w1 ⟨rfl, hw1⟩; rw [hw1]; clear hw1)
          | (go_at_call 35; refine HP.out.mono ?_; rintro e w1 ⟨nb, ad1, vr1, M1, S1, z, rfl, hnb, h1, hk1⟩; subst hnb; have HLL := hid (HL.out w1 ad1 vr1 M1 S1 z h1 hk1); clear h1 hk1)
          | (go_at_call 36; refine HLL.out.mono ?_; rintro e w2 ⟨rfl, h2, hk2⟩; have H2 := hid h2; have HK2 := hid hk2; clear h2 hk2))
        go_ret
        exact ⟨rfl, S1, H2.out, HK2.out⟩
  · rw [hb] at HR
    rw [hb, if_neg (by omega), if_neg (by omega)]
    clear h hb hv
    generalize d.length = ln at *
    go_enter Try.func17, Try.ntmps17
    go_wp2_with (go_at_call 34; refine HR.out.mono ?_; rintro e w1 ⟨rfl, hw1⟩; rw [hw1]; clear hw1)
    go_ret
    exact ⟨rfl, S, HC.out.more (by omega), Kp.refl _ _⟩
  · rw [hb] at HR
    rw [hb, if_neg (by omega), if_neg (by omega)]
    clear h hb hv
    generalize d.length = ln at *
    go_enter Try.func17, Try.ntmps17
    go_wp2_with (go_at_call 34; refine HR.out.mono ?_; rintro e w1 ⟨rfl, hw1⟩; rw [hw1]; clear hw1)
    go_ret
    exact ⟨rfl, S, HC.out.more (by omega), Kp.refl _ _⟩
end
end Go.Proofs.Ytdfnfcimajomeaa
