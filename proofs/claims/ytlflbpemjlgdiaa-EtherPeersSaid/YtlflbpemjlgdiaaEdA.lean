/- Peers: what is known, held; said. -/
import Derived.Test.YtlflbpemjlgdiaaEcH
namespace Go.Proofs.Ytlflbpemjlgdiaa
open Go.RowKit Go.Maps
set_option linter.unusedVariables false

/-- One that is known: where it is. -/
structure Pe where
  ip : Int
  mac : Mac
deriving DecidableEq
def lookP (L : List Pe) (k : Int) : Option Pe := L.find? (fun e => decide (e.ip = k))
def lookM (L : List Pe) (k : Int) : Option Value := (lookP L k).map fun e => .agg (macC e.mac)
abbrev peC (m : Mac) (ip : Int) (gm : Nat) (vi : Value) : Array Value := #[.int .u8 m.a, .int .u8 m.b, .int .u8 m.c, .int .u8 m.d, .int .u8 m.e, .int .u8 m.f, .int .u32 ip, .map (some gm), vi]
abbrev u32v (l : List Int) : List Value := l.map fun x => Value.int .u32 x
/-- What is known: no address twice, none 0, sixteen at most. -/
structure OkL (L : List Pe) : Prop where
  ok : ∀ e ∈ L, IsU e.ip ∧ e.ip ≠ 0 ∧ e.mac.ok
  len : L.length ≤ 16
  nd : (L.map Pe.ip).Nodup
/-- The program's Peers at block p, its own blocks in S. -/
def PeAt (w : World) (p : Nat) (S : Nat → Prop) (own : Mac) (ip : Int) (n : Nat) (L : List Pe) : Prop :=
  (own.ok ∧ IsU ip ∧ OkL L ∧ S p) ∧ ∃ gm vi, w.heap[p]? = some (.cells (peC own ip gm vi) 73 (0, 0)) ∧ MapU w gm n (lookM L) ∧ w.ownsRow 0 40 1 vi L.length (u32v (L.map Pe.ip)) ∧ S gm ∧ ∀ g, vi.ownBlock = some g → S g
section
variable {w w' : World} {p n : Nat} {S T T' : Nat → Prop} {own : Mac} {ip : Int} {L : List Pe}
theorem PeAt.keep (h : PeAt w p S own ip n L) (hk : ∀ b, S b → b < w.heap.size → w'.heap[b]? = w.heap[b]?) : PeAt w' p S own ip n L := by
  obtain ⟨h0, gm, vi, h1, h2, h3, h4, h5⟩ := h
  exact ⟨h0, gm, vi, (hk p h0.2.2.2 (Array.getElem?_eq_some_iff.1 h1).1).trans h1, h2.keep (hk gm h4 h2.lt), owns_keep h3 (fun g hg => hk g (h5 g hg) (owns_lt h3 hg).1), h4, h5⟩
theorem PeAt.later (h : PeAt w p S own ip n L) (hb : Below w.heap.size w w') : PeAt w' p S own ip n L := h.keep (fun b _ hl => hb.block b hl)
theorem PeAt.mods (h : PeAt w p S own ip n L) (hm : Mods T w w') (hd : ∀ b, S b → ¬ T b) : PeAt w' p S own ip n L := h.keep (fun b hb hl => hm.block b hl (hd b hb))
theorem PeAt.lt (h : PeAt w p S own ip n L) : p < w.heap.size := by obtain ⟨_, gm, vi, h1, _⟩ := h; exact (Array.getElem?_eq_some_iff.1 h1).1
theorem PeAt.okL (h : PeAt w p S own ip n L) : OkL L := h.1.2.2.1
end
set_option maxRecDepth 100000 in
set_option maxHeartbeats 2000000 in
theorem said_any (w : World) (p : Nat) (gm : Nat) (vi : Value) (own : Mac) (ip : Int) (what : Int) (td tm : Mac) (ti : Int) (hP : w.heap[p]? = some (.cells (peC own ip gm vi) 73 (0, 0))) (how : own.ok) (hip : IsU ip) (hop : 0 ≤ what ∧ what < 65536) (hto : td.ok) (htm : tm.ok) (hti : IsU ti) :
    Calls Try.prog 34 #[.pointer (some ⟨p, 0, none⟩), .int .i64 what, .agg (macC td), .agg (hostC tm ti)] w fun e w' => ∃ a c, e = .returned (.slice a 42 c) ∧ By w' (New w) a (frL td own 2054 (arpL what own ip tm ti)) ∧ 42 ≤ c ∧ Below w.heap.size w w' := by
  obtain ⟨g1, hg1⟩ : ∃ g, w.heap.size = g := ⟨_, rfl⟩
  obtain ⟨W1, hW1⟩ : ∃ W, W = w.alloc (.cells (macC td) 23) := ⟨_, rfl⟩
  have b1 : Below w.heap.size w W1 := by rw [hW1]; exact below_alloc (Below.refl _ _) (Nat.le_refl _) _
  have h1 : W1.heap[g1]? = some (.cells (macC td) 23 (0, 0)) := by rw [hW1, ← hg1]; exact alloc_new w _
  obtain ⟨g2, hg2⟩ : ∃ g, W1.heap.size = g := ⟨_, rfl⟩
  obtain ⟨W2, hW2⟩ : ∃ W, W = W1.alloc (.cells (hostC tm ti) 70) := ⟨_, rfl⟩
  have b12 : Below W1.heap.size W1 W2 := by rw [hW2]; exact below_alloc (Below.refl _ _) (Nat.le_refl _) _
  have h22 : W2.heap[g2]? = some (.cells (hostC tm ti) 70 (0, 0)) := by rw [hW2, ← hg2]; exact alloc_new W1 _
  have h21 := (b12.block g1 (Array.getElem?_eq_some_iff.1 h1).1).trans h1
  have b2 := b1.trans (b12.mono b1.size)
  have hp2 := (b2.block p (Array.getElem?_eq_some_iff.1 hP).1).trans hP
  obtain ⟨g3, hg3⟩ : ∃ g, W2.heap.size = g := ⟨_, rfl⟩
  obtain ⟨W3, hW3⟩ : ∃ W, W = W2.drew.alloc (.cells msg0 76) := ⟨_, rfl⟩
  have b23 : Below W2.heap.size W2 W3 := by rw [hW3]; exact ((Below.refl _ _).drew).alloc (Nat.le_refl _) _
  have h33 : W3.heap[g3]? = some (.cells msg0 76 (0, 0)) := by rw [hW3, ← hg3]; exact alloc_new W2.drew _
  have h32 := (b23.block g2 (Array.getElem?_eq_some_iff.1 h22).1).trans h22
  have h31 := (b23.block g1 (Array.getElem?_eq_some_iff.1 h21).1).trans h21
  have hp3 := (b23.block p (Array.getElem?_eq_some_iff.1 hp2).1).trans hp2
  obtain ⟨W4, hW4⟩ : ∃ W, W = W3.setRow g3 (msgC what own ip tm ti) := ⟨_, rfl⟩
  have h43 : W4.heap[g3]? = some (.cells (msgC what own ip tm ti) 76 (0, 0)) := by rw [hW4]; exact setRow_heap _ _ _ _ _ _ h33
  have oth : ∀ x, x < W2.heap.size → W4.heap[x]? = W3.heap[x]? := fun x hx => by rw [hW4]; exact setRow_other _ _ _ _ (by omega)
  have h42 := (oth g2 (Array.getElem?_eq_some_iff.1 h22).1).trans h32
  have h41 := (oth g1 (Array.getElem?_eq_some_iff.1 h21).1).trans h31
  have hp4 := (oth p (Array.getElem?_eq_some_iff.1 hp2).1).trans hp3
  have b3 := b2.trans (b23.mono b2.size)
  have b4 : Below w.heap.size w W4 := by rw [hW4]; exact (setRow_mods _ _ _).to_below b3 b3.size (fun x hx => by rw [hx, ← hg3]; exact b2.size)
  have HP2 := hid hp2
  have H22 := hid h22
  have HG3 := hid hg3
  have HW3 := hid hW3
  have HP3 := hid hp3
  have H32 := hid h32
  have H33 := hid h33
  have HW4 := hid hW4
  have HP4 := hid hp4
  have H42 := hid h42
  have H41 := hid h41
  have H43 := hid h43
  have HB4 := hid b4
  have HOP := hid hop
  have HOW := hid how
  have HIP := hid hip
  have HTM := hid htm
  have HTI := hid hti
  have HTO := hid hto
  have HW := hW1.symm
  have HV := hW2.symm
  clear hW1 hW2 b1 h1 b12 h22 h21 b2 hp2 hg3 hW3 b23 h33 h32 h31 hp3 hW4 h43 oth h42 h41 hp4 b3 b4 hop how hip htm hti hto hP
  go_enter Try.func34, Try.ntmps34
  go_upto_region 1 with fail
  refine wp_region_held_drew (S := fun W => W.heap[p]? = some (.cells (peC own ip gm vi) 73 (0, 0)) ∧ W.heap[g2]? = some (.cells (hostC tm ti) 70 (0, 0))) (by kernel_rfl) ⟨HP2.out, H22.out⟩ (fun hS => ?_)
  refine nany_take 0 12 (.int .i64 what) rfl rfl (by kernel_rfl) (by kernel_rfl) (by kernel_rfl) (fun _ _ _ h => h) (Or.inl ⟨by rfl, ?_⟩) hS ?_
  · rintro w' hS'
    go_simp
  simp only [List.setIfInBounds_toArray, List.set_cons_zero, List.set_cons_succ]
  refine nany_take 1 13 (.pointer (some ⟨p, 0, none⟩)) rfl rfl (by kernel_rfl) (by kernel_rfl) (by kernel_rfl) (fun _ _ _ h => h) (Or.inl ⟨by rfl, ?_⟩) hS ?_
  · rintro w' hS'
    go_simp
  simp only [List.setIfInBounds_toArray, List.set_cons_zero, List.set_cons_succ]
  refine nany_take 2 14 (.pointer (some ⟨p, 0, none⟩)) rfl rfl (by kernel_rfl) (by kernel_rfl) (by kernel_rfl) (fun _ _ _ h => h) (Or.inl ⟨by rfl, ?_⟩) hS ?_
  · rintro w' hS'
    go_simp
  simp only [List.setIfInBounds_toArray, List.set_cons_zero, List.set_cons_succ]
  refine nany_take 3 15 (.pointer (some ⟨p, 0, none⟩)) rfl rfl (by kernel_rfl) (by kernel_rfl) (by kernel_rfl) (fun _ _ _ h => h) (Or.inl ⟨by rfl, ?_⟩) hS ?_
  · rintro w' hS'
    go_simp
  simp only [List.setIfInBounds_toArray, List.set_cons_zero, List.set_cons_succ]
  refine nany_take 4 16 (.agg (hostC own ip)) rfl rfl (by kernel_rfl) (by kernel_rfl) (by kernel_rfl) (fun _ _ _ h => h) (Or.inl ⟨by rfl, ?_⟩) hS ?_
  · rintro w' hS'
    exact ex_mid 70 _ rfl p 0 rfl [.int .u8 own.a, .int .u8 own.b, .int .u8 own.c, .int .u8 own.d, .int .u8 own.e, .int .u8 own.f, .int .u32 ip] (rng hS'.1 0 _ (range7 rfl rfl rfl rfl rfl rfl rfl)) _ Try.underlying70 rfl sizeHost
  simp only [List.setIfInBounds_toArray, List.set_cons_zero, List.set_cons_succ]
  refine nany_take 5 17 (.agg (hostC tm ti)) rfl rfl (by kernel_rfl) (by kernel_rfl) (by kernel_rfl) (fun _ _ _ h => h) (Or.inl ⟨by rfl, ?_⟩) hS ?_
  · rintro w' hS'
    exact ex_load 70 _ rfl g2 rfl 70 (hostC tm ti) (0, 0) _ hS'.2 Try.underlying70 sizeHost
  simp only [List.setIfInBounds_toArray, List.set_cons_zero, List.set_cons_succ]
  refine nany_take 6 18 (.agg (msgC what own ip tm ti)) rfl rfl (by kernel_rfl) (by kernel_rfl) (by kernel_rfl) (fun _ _ _ h => h) (Or.inl ⟨by rfl, ?_⟩) hS ?_
  · rintro w' hS'
    go_simp
  simp only [List.setIfInBounds_toArray, List.set_cons_zero, List.set_cons_succ]
  refine nany_one 7 (by kernel_rfl) ?_
  refine nop_value' 9 (v := .pointer (some ⟨g3, 0, none⟩)) (w' := W3) rfl (by rfl) rfl (by rw [← HG3.out, HW3.out]; go_simp) ?_
  refine ⟨⟨HP3.out, H32.out⟩, ?_⟩
  simp only [List.setIfInBounds_toArray, List.set_cons_zero, List.set_cons_succ]
  refine nany_one 8 (by kernel_rfl) ?_
  refine nop_skip (w' := W4) rfl (by rfl) rfl (by rw [HW4.out]; exact ex_store 76 _ _ rfl g3 (msgC what own ip tm ti) rfl rfl 76 _ H33.out sizeMsg rfl (msgC_one _ _ _ _ _)) ?_
  refine ⟨⟨HP4.out, H42.out⟩, ?_⟩
  refine wpAnyH_done (by kernel_rfl) ?_ _
  clear hS
  go_upto_region 2 with fail
  refine wp_region_held_drew (S := fun W => W.heap[p]? = some (.cells (peC own ip gm vi) 73 (0, 0)) ∧ W.heap[g1]? = some (.cells (macC td) 23 (0, 0)) ∧ W.heap[g3]? = some (.cells (msgC what own ip tm ti) 76 (0, 0))) (by kernel_rfl) ⟨HP4.out, H41.out, H43.out⟩ (fun hS => ?_)
  refine nany_take 0 20 (.agg (macC td)) rfl rfl (by kernel_rfl) (by kernel_rfl) (by kernel_rfl) (fun _ _ _ h => h) (Or.inl ⟨by rfl, ?_⟩) hS ?_
  · rintro w' hS'
    exact ex_mid 23 _ rfl g1 0 rfl [.int .u8 td.a, .int .u8 td.b, .int .u8 td.c, .int .u8 td.d, .int .u8 td.e, .int .u8 td.f] (rng hS'.2.1 0 _ (range6 rfl rfl rfl rfl rfl rfl)) _ Try.underlying23 rfl size6
  simp only [List.setIfInBounds_toArray, List.set_cons_zero, List.set_cons_succ]
  refine nany_take 1 21 (.pointer (some ⟨p, 0, none⟩)) rfl rfl (by kernel_rfl) (by kernel_rfl) (by kernel_rfl) (fun _ _ _ h => h) (Or.inl ⟨by rfl, ?_⟩) hS ?_
  · rintro w' hS'
    go_simp
  simp only [List.setIfInBounds_toArray, List.set_cons_zero, List.set_cons_succ]
  refine nany_take 2 22 (.pointer (some ⟨p, 0, none⟩)) rfl rfl (by kernel_rfl) (by kernel_rfl) (by kernel_rfl) (fun _ _ _ h => h) (Or.inl ⟨by rfl, ?_⟩) hS ?_
  · rintro w' hS'
    go_simp
  simp only [List.setIfInBounds_toArray, List.set_cons_zero, List.set_cons_succ]
  refine nany_take 3 23 (.pointer (some ⟨p, 0, none⟩)) rfl rfl (by kernel_rfl) (by kernel_rfl) (by kernel_rfl) (fun _ _ _ h => h) (Or.inl ⟨by rfl, ?_⟩) hS ?_
  · rintro w' hS'
    go_simp
  simp only [List.setIfInBounds_toArray, List.set_cons_zero, List.set_cons_succ]
  refine nany_take 4 24 (.pointer (some ⟨p, 0, none⟩)) rfl rfl (by kernel_rfl) (by kernel_rfl) (by kernel_rfl) (fun _ _ _ h => h) (Or.inl ⟨by rfl, ?_⟩) hS ?_
  · rintro w' hS'
    go_simp
  simp only [List.setIfInBounds_toArray, List.set_cons_zero, List.set_cons_succ]
  refine nany_take 5 25 (.agg (macC own)) rfl rfl (by kernel_rfl) (by kernel_rfl) (by kernel_rfl) (fun _ _ _ h => h) (Or.inl ⟨by rfl, ?_⟩) hS ?_
  · rintro w' hS'
    exact ex_mid 23 _ rfl p 0 rfl [.int .u8 own.a, .int .u8 own.b, .int .u8 own.c, .int .u8 own.d, .int .u8 own.e, .int .u8 own.f] (rng hS'.1 0 _ (range6 rfl rfl rfl rfl rfl rfl)) _ Try.underlying23 rfl size6
  simp only [List.setIfInBounds_toArray, List.set_cons_zero, List.set_cons_succ]
  refine nany_take 6 26 (.agg (msgC what own ip tm ti)) rfl rfl (by kernel_rfl) (by kernel_rfl) (by kernel_rfl) (fun _ _ _ h => h) (Or.inl ⟨by rfl, ?_⟩) hS ?_
  · rintro w' hS'
    exact ex_load 76 _ rfl g3 rfl 76 (msgC what own ip tm ti) (0, 0) _ hS'.2.2 Try.underlying76 sizeMsg
  simp only [List.setIfInBounds_toArray, List.set_cons_zero, List.set_cons_succ]
  refine nany_one 7 (by kernel_rfl) ?_
  refine nop_callE 27 (f := 49) (args := #[.agg (msgC what own ip tm ti)]) (R := fun v w' => ∃ a5 c5, v = .slice a5 28 c5 ∧ By w' (New W4) a5 (arpL what own ip tm ti) ∧ Below W4.heap.size W4 w') rfl (by rfl) rfl (by go_simp) ((mbytes_any W4.drew what own ip tm ti HOP.out HOW.out HIP.out HTM.out HTI.out).mono (fun e w' h => by obtain ⟨a2, c2, h1, h2, h3, h4⟩ := h; exact ⟨_, h1, a2, c2, rfl, h2, below_undrew h4⟩)) ?_
  rintro v w5 ⟨a5, c5, rfl, hy5, hb5⟩
  have hS5 := (show _ ∧ _ ∧ _ from ⟨(hb5.block p (Array.getElem?_eq_some_iff.1 hS.1).1).trans hS.1, (hb5.block g1 (Array.getElem?_eq_some_iff.1 hS.2.1).1).trans hS.2.1, (hb5.block g3 (Array.getElem?_eq_some_iff.1 hS.2.2).1).trans hS.2.2⟩)
  refine ⟨hS5, ?_⟩
  simp only [List.setIfInBounds_toArray, List.set_cons_zero, List.set_cons_succ]
  refine nany_take 8 28 (.agg (frC td own 2054 (.slice a5 28 c5))) rfl rfl (by kernel_rfl) (by kernel_rfl) (by kernel_rfl) (fun _ _ _ h => h) (Or.inl ⟨by rfl, ?_⟩) hS5 ?_
  · rintro w' hS'
    go_simp
  simp only [List.setIfInBounds_toArray, List.set_cons_zero, List.set_cons_succ]
  refine nany_one 9 (by kernel_rfl) ?_
  refine nop_callE 29 (f := 10) (args := #[.agg (frC td own 2054 (.slice a5 28 c5))]) (R := fun v w' => ∃ a6 c6, v = .tuple #[.slice a6 42 c6, .int .i64 0] ∧ By w' (New w5) a6 (frL td own 2054 (arpL what own ip tm ti)) ∧ 42 ≤ c6 ∧ Below w5.heap.size w5 w') rfl (by rfl) rfl (by go_simp) ((Write_ok w5 td own 2054 a5 28 c5 (arpL what own ip tm ti) HTO.out HOW.out (by omega) (arpL_len _ _ _ _ _) (by omega) hy5.bytes).mono (fun e w' h => by obtain ⟨a2, c2, h1, h2, h3, h4⟩ := h; exact ⟨_, h1, a2, c2, rfl, h2, h3, h4⟩)) ?_
  rintro v w6 ⟨a6, c6, rfl, hy6, hc6, hb6⟩
  have hS6 := (show _ ∧ _ ∧ _ from ⟨(hb6.block p (Array.getElem?_eq_some_iff.1 hS5.1).1).trans hS5.1, (hb6.block g1 (Array.getElem?_eq_some_iff.1 hS5.2.1).1).trans hS5.2.1, (hb6.block g3 (Array.getElem?_eq_some_iff.1 hS5.2.2).1).trans hS5.2.2⟩)
  refine ⟨hS6, ?_⟩
  simp only [List.setIfInBounds_toArray, List.set_cons_zero, List.set_cons_succ]
  refine nany_take 10 19 (.tuple #[.slice a6 42 c6, .int .i64 0]) rfl rfl (by kernel_rfl) (by kernel_rfl) (by kernel_rfl) (fun _ _ _ h => h) (Or.inl ⟨by rfl, ?_⟩) hS6 ?_
  · rintro w' hS'
    go_simp
  simp only [List.setIfInBounds_toArray, List.set_cons_zero, List.set_cons_succ]
  refine nany_take 11 30 (.slice a6 42 c6) rfl rfl (by kernel_rfl) (by kernel_rfl) (by kernel_rfl) (fun _ _ _ h => h) (Or.inl ⟨by rfl, ?_⟩) hS6 ?_
  · rintro w' hS'
    go_simp
  simp only [List.setIfInBounds_toArray, List.set_cons_zero, List.set_cons_succ]
  refine nany_take 12 31 (.int .i64 0) rfl rfl (by kernel_rfl) (by kernel_rfl) (by kernel_rfl) (fun _ _ _ h => h) (Or.inl ⟨by rfl, ?_⟩) hS6 ?_
  · rintro w' hS'
    go_simp
  simp only [List.setIfInBounds_toArray, List.set_cons_zero, List.set_cons_succ]
  refine nany_take 13 10 (.slice a6 42 c6) rfl rfl (by kernel_rfl) (by kernel_rfl) (by kernel_rfl) (fun _ _ _ h => h) (Or.inl ⟨by rfl, ?_⟩) hS6 ?_
  · rintro w' hS'
    go_simp
  simp only [List.setIfInBounds_toArray, List.set_cons_zero, List.set_cons_succ]
  refine nany_take 14 11 (.int .i64 0) rfl rfl (by kernel_rfl) (by kernel_rfl) (by kernel_rfl) (fun _ _ _ h => h) (Or.inl ⟨by rfl, ?_⟩) hS6 ?_
  · rintro w' hS'
    go_simp
  simp only [List.setIfInBounds_toArray, List.set_cons_zero, List.set_cons_succ]
  refine wpAnyH_done (by kernel_rfl) ?_ _
  have HY6 := hid hy6
  have HC6 := hid hc6
  have hB5 := HB4.out.trans (hb5.mono HB4.out.size)
  have HB6 := hid (hB5.trans (hb6.mono hB5.size))
  have HS5 := hid hB5.size
  clear hy6 hc6 hb6 hB5 hb5 hy5 hS hS5 hS6
  go_wp2
  go_ret
  exact ⟨a6, c6, rfl, HY6.out.weak (fun x hx _ => Nat.le_trans HS5.out hx), HC6.out, HB6.out⟩
end Go.Proofs.Ytlflbpemjlgdiaa
