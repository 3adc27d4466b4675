/- Both readers side by side; one item read by both. -/
import Derived.Test.YteeakkpbpffohaaXdK
import Derived.Test.YteeakkpbpffohaaXbC
namespace Go.Proofs.Yteeakkpbpffohaa
open Go.RowKit Go.Maps
set_option linter.unusedVariables false

abbrev PQ (p q : Nat) : Nat → Prop := fun b => b = p ∨ b = q
/-- The program's reader at p, the document's at q, both at r. -/
structure TR (w0 w : World) (p q : Nat) (r : Rd) : Prop where
  m : RX w 68 (PQ p q) p r
  d : RX w 29 (PQ p q) q r
  ne : p ≠ q
  hp : w0.heap.size ≤ p
  hq : w0.heap.size ≤ q
  bl : Below w0.heap.size w0 w
section
variable {w0 w w' : World} {p q : Nat} {r r' : Rd}
theorem TR.later (h : TR w0 w p q r) (hb : Below w.heap.size w w') : TR w0 w' p q r := ⟨h.m.later hb, h.d.later hb, h.ne, h.hp, h.hq, h.bl.trans (hb.mono h.bl.size)⟩
theorem TR.mine (h : TR w0 w p q r) (hm : Mods (fun b => b = p) w w') : RX w' 29 (PQ p q) q r := h.d.beside hm (fun b hb => .inl hb) (fun e => h.ne e.symm)
theorem TR.both {w2 : World} (h : TR w0 w p q r) (hx : RX w' 68 (PQ p q) p r') (hm : Mods (fun b => b = p) w w') (hd : RX w2 29 (PQ p q) q r') (hm2 : Mods (fun b => b = q) w' w2) : TR w0 w2 p q r' :=
  ⟨hx.beside hm2 (fun b hb => .inr hb) (fun e => h.ne e), hd, h.ne, h.hp, h.hq, hm2.to_below (hm.to_below h.bl h.bl.size (fun b hb => by rw [hb]; exact h.hp)) (Nat.le_trans h.bl.size hm.size) (fun b hb => by rw [hb]; exact h.hq)⟩
end
/-- What reading an item makes of a reader. -/
def rdR (r : Rd) (x : It) : Rd := if x.kd = 1 then ansR r (u32P r.l r.k) else if x.kd = 2 then ansR r (u64P r.l r.k) else if x.kd = 3 then ansR r (boolP r.l r.k) else if x.kd = 4 then ansR r (cntP r.l r.k x.nn) else ansR r (fixP r.l r.k x.nn)
set_option maxRecDepth 100000 in
set_option maxHeartbeats 8000000 in
theorem read_any {w0 w : World} {p q : Nat} {r : Rd} (h : TR w0 w p q r) (x : It) (hx : x.ok w0) :
    Calls Try.prog 10 #[.pointer (some ⟨p, 0, none⟩), .pointer (some ⟨q, 0, none⟩), .agg (itC x)] w fun e w' => e = .returned (.bool true) ∧ TR w0 w' p q (rdR r x) := by
  obtain ⟨kd, nn, v, on, a, n, c, l⟩ := x
  obtain ⟨hk, hnn, hv, hll, hb, hm, hc⟩ := hx
  simp only at hk hnn hv hll hb hm hc
  have hnn2 := hnn
  unfold II16 at hk hnn2
  obtain ⟨W1, hW1⟩ : ∃ W, W = w.alloc (.cells #[.int .i64 kd, .int .i64 nn, .int .u64 v, .bool on, .slice a n c] 33) := ⟨_, rfl⟩
  have b1 : Below w.heap.size w W1 := by rw [hW1]; exact below_alloc (Below.refl _ _) (Nat.le_refl _) _
  have z1 : W1.heap[w.heap.size]? = some (.cells #[.int .i64 kd, .int .i64 nn, .int .u64 v, .bool on, .slice a n c] 33 (0, 0)) := by rw [hW1]; exact alloc_new w _
  have h1 := h.later b1
  have c0 := cell_of z1 (i := 0) (v := .int .i64 kd) rfl
  have cN := cell_of z1 (i := 1) (v := .int .i64 nn) rfl
  have hgp : w.heap.size ≠ p := by have := h.m.lt; omega
  have hgq : w.heap.size ≠ q := by have := h.d.lt; omega
  have HGP := hid hgp
  have HGQ := hid hgq
  have HNN := hid hnn
  have H1 := hid h1
  have HB1 := hid b1
  have hW1' := hW1.symm
  clear h b1 z1 hW1 hgp hgq hb hll hm hc hnn
  by_cases e1 : kd = 1
  · subst e1
    have hit : rdR r ⟨1, nn, v, on, a, n, c, l⟩ = ansR r (u32P r.l r.k) := by simp [rdR]
    rw [hit]
    have HC := hid (RU32_any h1.m)
    have HD : Hid (∀ W, RX W 29 (PQ p q) q r → _) := hid (fun W hW => dU32_any hW)
    generalize u32P r.l r.k = R at *
    clear h1 hit
    go_enter Try.func10, Try.ntmps10
    go_wp2_with (first
      | (go_at_call 30
         (try rw [hW1'])
         refine HC.out.mono ?_
         rintro e w2 ⟨rfl, hx, hm⟩
         have HX := hid hx
         have HM := hid hm
         have HD2 := hid (HD.out w2 (H1.out.mine hm))
         clear hx hm)
      | (go_at_call 32
         refine HD2.out.mono ?_
         rintro e w3 ⟨rfl, hx, hm⟩
         have HT := hid (H1.out.both HX.out HM.out hx hm)
         clear hx hm))
    go_ret
    exact ⟨rfl, HT.out⟩
  have f1 : (kd == 1) = false := by simp [e1]
  by_cases e2 : kd = 2
  · subst e2
    have hit : rdR r ⟨2, nn, v, on, a, n, c, l⟩ = ansR r (u64P r.l r.k) := by simp [rdR]
    rw [hit]
    have HC := hid (RU64_any h1.m)
    have HD : Hid (∀ W, RX W 29 (PQ p q) q r → _) := hid (fun W hW => dU64_any hW)
    generalize u64P r.l r.k = R at *
    clear h1 hit
    go_enter Try.func10, Try.ntmps10
    go_wp2_with (first
      | (go_at_call 33
         (try rw [hW1'])
         refine HC.out.mono ?_
         rintro e w2 ⟨rfl, hx, hm⟩
         have HX := hid hx
         have HM := hid hm
         have HD2 := hid (HD.out w2 (H1.out.mine hm))
         clear hx hm)
      | (go_at_call 34
         refine HD2.out.mono ?_
         rintro e w3 ⟨rfl, hx, hm⟩
         have HT := hid (H1.out.both HX.out HM.out hx hm)
         clear hx hm))
    go_ret
    exact ⟨rfl, HT.out⟩
  have f2 : (kd == 2) = false := by simp [e2]
  by_cases e3 : kd = 3
  · subst e3
    have hit : rdR r ⟨3, nn, v, on, a, n, c, l⟩ = ansR r (boolP r.l r.k) := by simp [rdR]
    rw [hit]
    have HC := hid (RBool_any h1.m)
    have HD : Hid (∀ W, RX W 29 (PQ p q) q r → _) := hid (fun W hW => dBool_any hW)
    generalize boolP r.l r.k = R at *
    clear h1 hit
    go_enter Try.func10, Try.ntmps10
    go_wp2_with (first
      | (go_at_call 35
         (try rw [hW1'])
         refine HC.out.mono ?_
         rintro e w2 ⟨rfl, hx, hm⟩
         have HX := hid hx
         have HM := hid hm
         have HD2 := hid (HD.out w2 (H1.out.mine hm))
         clear hx hm)
      | (go_at_call 36
         refine HD2.out.mono ?_
         rintro e w3 ⟨rfl, hx, hm⟩
         have HT := hid (H1.out.both HX.out HM.out hx hm)
         clear hx hm))
    go_ret
    exact ⟨rfl, HT.out⟩
  have f3 : (kd == 3) = false := by simp [e3]
  by_cases e4 : kd = 4
  · subst e4
    have hit : rdR r ⟨4, nn, v, on, a, n, c, l⟩ = ansR r (cntP r.l r.k nn) := by simp [rdR]
    rw [hit]
    obtain ⟨R, hR⟩ : ∃ R, cntP r.l r.k nn = R := ⟨_, rfl⟩
    have HC : Hid (∀ W, TR w0 W p q r → Calls Try.prog 29 #[.pointer (some ⟨p, 0, none⟩), .int .i64 nn] W fun e w' => (∃ a2 c2, e = .returned (.slice a2 (ansV r [] R).length c2) ∧ By w' (New W) a2 (ansV r [] R) ∧ (ansV r [] R).length ≤ c2) ∧ RX w' 68 (PQ p q) p (ansR r R) ∧ Mods (fun b => b = p) W w') := hid (fun W hW => by have := RBytes_any hW.m nn HNN.out; rwa [hR] at this)
    have HD : Hid (∀ W, RX W 29 (PQ p q) q r → Calls Try.prog 37 #[.pointer (some ⟨q, 0, none⟩), .int .i64 nn] W fun e w' => BytesPost W 29 (PQ p q) q (ansV r [] R) (ansR r R) e w') := hid (fun W hW => by have := dBytes_any hW nn HNN.out; rwa [hR] at this)
    rw [hR]
    obtain ⟨V, hV⟩ : ∃ V, ansV r [] R = V := ⟨_, rfl⟩
    obtain ⟨r2, hr2⟩ : ∃ V, ansR r R = V := ⟨_, rfl⟩
    rw [hV, hr2] at HC HD
    rw [hr2]
    obtain ⟨m, hm⟩ : ∃ m, V.length = m := ⟨_, rfl⟩
    rw [hm] at HC
    have HML := hid hm
    clear h1 hit hR hV hr2 hm
    go_enter Try.func10, Try.ntmps10
    go_upto_region 9 with fail
    try simp only [Act.put]
    refine wp_region_held_drew (S := fun W => W.cell? ⟨w.heap.size, 1, none⟩ = some (.int .i64 nn)) (by kernel_rfl) (by first | exact cN | (rw [hW1']; exact cN)) (fun hS => ?_)
    (try rw [hW1'] at hS)
    (try rw [hW1'])
    obtain ⟨v0, hv0⟩ : ∃ W, W = W1.drew := ⟨_, rfl⟩
    rw [← hv0] at hS ⊢
    have HT0 := hid (show TR w0 v0 p q r by rw [hv0]; exact H1.out.later (Below.refl _ _).drew)
    clear hv0
    refine nany_take 0 32 (.pointer (some ⟨p, 0, none⟩)) rfl rfl (by kernel_rfl) (by kernel_rfl) (by kernel_rfl) (fun _ _ _ h => h) (Or.inl ⟨by rfl, ?_⟩) hS ?_
    · rintro w' hS'
      first | go_simp | (go_simp; exact hS') | (go_simp; exact hS'.1)
    simp only [List.setIfInBounds_toArray, List.set_cons_zero, List.set_cons_succ]
    refine nany_take 1 33 (.pointer (some ⟨w.heap.size, 1, none⟩)) rfl rfl (by kernel_rfl) (by kernel_rfl) (by kernel_rfl) (fun _ _ _ h => h) (Or.inl ⟨by rfl, ?_⟩) hS ?_
    · rintro w' hS'
      first | go_simp | (go_simp; exact hS') | (go_simp; exact hS'.1)
    simp only [List.setIfInBounds_toArray, List.set_cons_zero, List.set_cons_succ]
    refine nany_take 2 34 (.int .i64 nn) rfl rfl (by kernel_rfl) (by kernel_rfl) (by kernel_rfl) (fun _ _ _ h => h) (Or.inl ⟨by rfl, ?_⟩) hS ?_
    · rintro w' hS'
      first | go_simp | (go_simp; exact hS') | (go_simp; exact hS'.1)
    simp only [List.setIfInBounds_toArray, List.set_cons_zero, List.set_cons_succ]
    refine nany_take 5 37 (.pointer (some ⟨q, 0, none⟩)) rfl rfl (by kernel_rfl) (by kernel_rfl) (by kernel_rfl) (fun _ _ _ h => h) (Or.inl ⟨by rfl, ?_⟩) hS ?_
    · rintro w' hS'
      first | go_simp | (go_simp; exact hS') | (go_simp; exact hS'.1)
    simp only [List.setIfInBounds_toArray, List.set_cons_zero, List.set_cons_succ]
    refine nany_take 6 38 (.pointer (some ⟨w.heap.size, 1, none⟩)) rfl rfl (by kernel_rfl) (by kernel_rfl) (by kernel_rfl) (fun _ _ _ h => h) (Or.inl ⟨by rfl, ?_⟩) hS ?_
    · rintro w' hS'
      first | go_simp | (go_simp; exact hS') | (go_simp; exact hS'.1)
    simp only [List.setIfInBounds_toArray, List.set_cons_zero, List.set_cons_succ]
    refine nany_take 7 39 (.int .i64 nn) rfl rfl (by kernel_rfl) (by kernel_rfl) (by kernel_rfl) (fun _ _ _ h => h) (Or.inl ⟨by rfl, ?_⟩) hS ?_
    · rintro w' hS'
      first | go_simp | (go_simp; exact hS') | (go_simp; exact hS'.1)
    simp only [List.setIfInBounds_toArray, List.set_cons_zero, List.set_cons_succ]
    refine nany_one 3 (by kernel_rfl) ?_
    refine nop_callE 35 (f := 29) (args := #[.pointer (some ⟨p, 0, none⟩), .int .i64 nn]) (R := fun v w' => ∃ a2 c2, v = .slice a2 m c2 ∧ By w' (New v0) a2 V ∧ m ≤ c2 ∧ RX w' 68 (PQ p q) p r2 ∧ Mods (fun b => b = p) v0 w') rfl (by rfl) rfl (by go_simp) ((HC.out v0 HT0.out).mono (fun e w' h => by obtain ⟨⟨a2, c2, g1, g2, g3⟩, g4, g5⟩ := h; exact ⟨_, g1, a2, c2, rfl, g2, g3, g4, g5⟩)) ?_
    rintro v5_ v5 ⟨a2, c2, rfl, hy5, hc5, hx5, hm5⟩
    have hS5 := hm5.cell hS HGP.out
    refine ⟨hS5, ?_⟩
    simp only [List.setIfInBounds_toArray, List.set_cons_zero, List.set_cons_succ]
    have HX5 := hid hx5
    have HM5 := hid hm5
    have HY5 := hid hy5
    have HQ0 := hid HT0.out.d.lt
    clear hx5 hm5 hc5
    refine nwpAnyH_strong (S' := fun W => W.cell? ⟨w.heap.size, 1, none⟩ = some (.int .i64 nn) ∧ Bytes W a2 V) (fun W h => h.1) _ _ _ _ ?_
    have hS6 := And.intro hS5 hy5.bytes
    clear hy5 hS5
    refine nany_take 4 36 (.string (strOfNums V)) rfl rfl (by kernel_rfl) (by kernel_rfl) (by kernel_rfl) (fun _ _ _ h => h) (Or.inl ⟨by rfl, ?_⟩) hS6 ?_
    · rintro w' hS'
      have hc9 := conv0 hS'.2 (cap := c2) HML.out
      go_simp
    simp only [List.setIfInBounds_toArray, List.set_cons_zero, List.set_cons_succ]
    refine nany_one 8 (by kernel_rfl) ?_
    refine nop_callE 40 (f := 37) (args := #[.pointer (some ⟨q, 0, none⟩), .int .i64 nn]) (R := fun v w' => ∃ a3 c3, v = .slice a3 m c3 ∧ By w' (New v5) a3 V ∧ RX w' 29 (PQ p q) q r2 ∧ Mods (fun b => b = q) v5 w') rfl (by rfl) rfl (by go_simp) ((HD.out v5 (HT0.out.mine HM5.out)).mono (fun e w' h => by obtain ⟨⟨a3, c3, g1, g2, g3⟩, g4, g5⟩ := h; exact ⟨_, by rw [HML.out] at g1; exact g1, a3, c3, rfl, g2, g4, g5⟩)) ?_
    rintro v6_ v6 ⟨a3, c3, rfl, hy6, hx6, hm6⟩
    have hS7 := And.intro (hm6.cell hS6.1 HGQ.out) (HY5.out.keep (fun b hb hl => hm6.block b hl (fun e => by have h9 : v0.heap.size ≤ b := hb; have h8 := HQ0.out; rw [e] at h9; omega))).bytes
    refine ⟨hS7, ?_⟩
    simp only [List.setIfInBounds_toArray, List.set_cons_zero, List.set_cons_succ]
    have HT6 := hid (HT0.out.both HX5.out HM5.out hx6 hm6)
    have hcv := conv0 hy6.bytes (cap := c3) HML.out
    clear hx6 hm6 hy6
    refine nany_one 9 (by kernel_rfl) ?_
    refine nop_value' 41 (v := .string (strOfNums V)) (w' := v6) rfl (by rfl) rfl (by go_simp) ?_
    refine ⟨hS7, ?_⟩
    simp only [List.setIfInBounds_toArray, List.set_cons_zero, List.set_cons_succ]
    refine nany_one 10 (by kernel_rfl) ?_
    refine nop_value' 42 (v := .bool true) (w' := v6) rfl (by rfl) rfl (by go_simp) ?_
    refine ⟨hS7, ?_⟩
    simp only [List.setIfInBounds_toArray, List.set_cons_zero, List.set_cons_succ]
    refine nany_one 11 (by kernel_rfl) ?_
    refine nop_value' 6 (v := .bool true) (w' := v6) rfl (by rfl) rfl (by go_simp) ?_
    refine ⟨hS7, ?_⟩
    simp only [List.setIfInBounds_toArray, List.set_cons_zero, List.set_cons_succ]
    refine wpAnyH_done (by kernel_rfl) ?_ _
    clear hS7 hcv hS6 hS
    go_wp2
    go_ret
    exact ⟨rfl, HT6.out⟩
  have f4 : (kd == 4) = false := by simp [e4]
  have hit : rdR r ⟨kd, nn, v, on, a, n, c, l⟩ = ansR r (fixP r.l r.k nn) := by simp [rdR, e1, e2, e3, e4]
  rw [hit]
  obtain ⟨R, hR⟩ : ∃ R, fixP r.l r.k nn = R := ⟨_, rfl⟩
  have HC : Hid (∀ W, TR w0 W p q r → Calls Try.prog 38 #[.pointer (some ⟨p, 0, none⟩), .int .i64 nn] W fun e w' => (∃ a2 c2, e = .returned (.slice a2 (ansV r [] R).length c2) ∧ By w' (New W) a2 (ansV r [] R) ∧ (ansV r [] R).length ≤ c2) ∧ RX w' 68 (PQ p q) p (ansR r R) ∧ Mods (fun b => b = p) W w') := hid (fun W hW => by have := RFixed_any hW.m nn HNN.out; rwa [hR] at this)
  have HD : Hid (∀ W, RX W 29 (PQ p q) q r → Calls Try.prog 39 #[.pointer (some ⟨q, 0, none⟩), .int .i64 nn] W fun e w' => BytesPost W 29 (PQ p q) q (ansV r [] R) (ansR r R) e w') := hid (fun W hW => by have := dFixed_any hW nn HNN.out; rwa [hR] at this)
  rw [hR]
  obtain ⟨V, hV⟩ : ∃ V, ansV r [] R = V := ⟨_, rfl⟩
  obtain ⟨r2, hr2⟩ : ∃ V, ansR r R = V := ⟨_, rfl⟩
  rw [hV, hr2] at HC HD
  rw [hr2]
  obtain ⟨m, hm⟩ : ∃ m, V.length = m := ⟨_, rfl⟩
  rw [hm] at HC
  have HML := hid hm
  clear h1 hit hR hV hr2 hm
  go_enter Try.func10, Try.ntmps10
  go_upto_region 10 with fail
  try simp only [Act.put]
  refine wp_region_held_drew (S := fun W => W.cell? ⟨w.heap.size, 1, none⟩ = some (.int .i64 nn)) (by kernel_rfl) (by first | exact cN | (rw [hW1']; exact cN)) (fun hS => ?_)
  (try rw [hW1'] at hS)
  (try rw [hW1'])
  obtain ⟨v0, hv0⟩ : ∃ W, W = W1.drew := ⟨_, rfl⟩
  rw [← hv0] at hS ⊢
  have HT0 := hid (show TR w0 v0 p q r by rw [hv0]; exact H1.out.later (Below.refl _ _).drew)
  clear hv0
  refine nany_take 0 43 (.pointer (some ⟨p, 0, none⟩)) rfl rfl (by kernel_rfl) (by kernel_rfl) (by kernel_rfl) (fun _ _ _ h => h) (Or.inl ⟨by rfl, ?_⟩) hS ?_
  · rintro w' hS'
    first | go_simp | (go_simp; exact hS') | (go_simp; exact hS'.1)
  simp only [List.setIfInBounds_toArray, List.set_cons_zero, List.set_cons_succ]
  refine nany_take 1 44 (.pointer (some ⟨w.heap.size, 1, none⟩)) rfl rfl (by kernel_rfl) (by kernel_rfl) (by kernel_rfl) (fun _ _ _ h => h) (Or.inl ⟨by rfl, ?_⟩) hS ?_
  · rintro w' hS'
    first | go_simp | (go_simp; exact hS') | (go_simp; exact hS'.1)
  simp only [List.setIfInBounds_toArray, List.set_cons_zero, List.set_cons_succ]
  refine nany_take 2 45 (.int .i64 nn) rfl rfl (by kernel_rfl) (by kernel_rfl) (by kernel_rfl) (fun _ _ _ h => h) (Or.inl ⟨by rfl, ?_⟩) hS ?_
  · rintro w' hS'
    first | go_simp | (go_simp; exact hS') | (go_simp; exact hS'.1)
  simp only [List.setIfInBounds_toArray, List.set_cons_zero, List.set_cons_succ]
  refine nany_take 5 48 (.pointer (some ⟨q, 0, none⟩)) rfl rfl (by kernel_rfl) (by kernel_rfl) (by kernel_rfl) (fun _ _ _ h => h) (Or.inl ⟨by rfl, ?_⟩) hS ?_
  · rintro w' hS'
    first | go_simp | (go_simp; exact hS') | (go_simp; exact hS'.1)
  simp only [List.setIfInBounds_toArray, List.set_cons_zero, List.set_cons_succ]
  refine nany_take 6 49 (.pointer (some ⟨w.heap.size, 1, none⟩)) rfl rfl (by kernel_rfl) (by kernel_rfl) (by kernel_rfl) (fun _ _ _ h => h) (Or.inl ⟨by rfl, ?_⟩) hS ?_
  · rintro w' hS'
    first | go_simp | (go_simp; exact hS') | (go_simp; exact hS'.1)
  simp only [List.setIfInBounds_toArray, List.set_cons_zero, List.set_cons_succ]
  refine nany_take 7 50 (.int .i64 nn) rfl rfl (by kernel_rfl) (by kernel_rfl) (by kernel_rfl) (fun _ _ _ h => h) (Or.inl ⟨by rfl, ?_⟩) hS ?_
  · rintro w' hS'
    first | go_simp | (go_simp; exact hS') | (go_simp; exact hS'.1)
  simp only [List.setIfInBounds_toArray, List.set_cons_zero, List.set_cons_succ]
  refine nany_one 3 (by kernel_rfl) ?_
  refine nop_callE 46 (f := 38) (args := #[.pointer (some ⟨p, 0, none⟩), .int .i64 nn]) (R := fun v w' => ∃ a2 c2, v = .slice a2 m c2 ∧ By w' (New v0) a2 V ∧ m ≤ c2 ∧ RX w' 68 (PQ p q) p r2 ∧ Mods (fun b => b = p) v0 w') rfl (by rfl) rfl (by go_simp) ((HC.out v0 HT0.out).mono (fun e w' h => by obtain ⟨⟨a2, c2, g1, g2, g3⟩, g4, g5⟩ := h; exact ⟨_, g1, a2, c2, rfl, g2, g3, g4, g5⟩)) ?_
  rintro v5_ v5 ⟨a2, c2, rfl, hy5, hc5, hx5, hm5⟩
  have hS5 := hm5.cell hS HGP.out
  refine ⟨hS5, ?_⟩
  simp only [List.setIfInBounds_toArray, List.set_cons_zero, List.set_cons_succ]
  have HX5 := hid hx5
  have HM5 := hid hm5
  have HY5 := hid hy5
  have HQ0 := hid HT0.out.d.lt
  clear hx5 hm5 hc5
  refine nwpAnyH_strong (S' := fun W => W.cell? ⟨w.heap.size, 1, none⟩ = some (.int .i64 nn) ∧ Bytes W a2 V) (fun W h => h.1) _ _ _ _ ?_
  have hS6 := And.intro hS5 hy5.bytes
  clear hy5 hS5
  refine nany_take 4 47 (.string (strOfNums V)) rfl rfl (by kernel_rfl) (by kernel_rfl) (by kernel_rfl) (fun _ _ _ h => h) (Or.inl ⟨by rfl, ?_⟩) hS6 ?_
  · rintro w' hS'
    have hc9 := conv0 hS'.2 (cap := c2) HML.out
    go_simp
  simp only [List.setIfInBounds_toArray, List.set_cons_zero, List.set_cons_succ]
  refine nany_one 8 (by kernel_rfl) ?_
  refine nop_callE 51 (f := 39) (args := #[.pointer (some ⟨q, 0, none⟩), .int .i64 nn]) (R := fun v w' => ∃ a3 c3, v = .slice a3 m c3 ∧ By w' (New v5) a3 V ∧ RX w' 29 (PQ p q) q r2 ∧ Mods (fun b => b = q) v5 w') rfl (by rfl) rfl (by go_simp) ((HD.out v5 (HT0.out.mine HM5.out)).mono (fun e w' h => by obtain ⟨⟨a3, c3, g1, g2, g3⟩, g4, g5⟩ := h; exact ⟨_, by rw [HML.out] at g1; exact g1, a3, c3, rfl, g2, g4, g5⟩)) ?_
  rintro v6_ v6 ⟨a3, c3, rfl, hy6, hx6, hm6⟩
  have hS7 := And.intro (hm6.cell hS6.1 HGQ.out) (HY5.out.keep (fun b hb hl => hm6.block b hl (fun e => by have h9 : v0.heap.size ≤ b := hb; have h8 := HQ0.out; rw [e] at h9; omega))).bytes
  refine ⟨hS7, ?_⟩
  simp only [List.setIfInBounds_toArray, List.set_cons_zero, List.set_cons_succ]
  have HT6 := hid (HT0.out.both HX5.out HM5.out hx6 hm6)
  have hcv := conv0 hy6.bytes (cap := c3) HML.out
  clear hx6 hm6 hy6
  refine nany_one 9 (by kernel_rfl) ?_
  refine nop_value' 52 (v := .string (strOfNums V)) (w' := v6) rfl (by rfl) rfl (by go_simp) ?_
  refine ⟨hS7, ?_⟩
  simp only [List.setIfInBounds_toArray, List.set_cons_zero, List.set_cons_succ]
  refine nany_one 10 (by kernel_rfl) ?_
  refine nop_value' 53 (v := .bool true) (w' := v6) rfl (by rfl) rfl (by go_simp) ?_
  refine ⟨hS7, ?_⟩
  simp only [List.setIfInBounds_toArray, List.set_cons_zero, List.set_cons_succ]
  refine nany_one 11 (by kernel_rfl) ?_
  refine nop_value' 6 (v := .bool true) (w' := v6) rfl (by rfl) rfl (by go_simp) ?_
  refine ⟨hS7, ?_⟩
  simp only [List.setIfInBounds_toArray, List.set_cons_zero, List.set_cons_succ]
  refine wpAnyH_done (by kernel_rfl) ?_ _
  clear hS7 hcv hS6 hS
  go_wp2
  go_ret
  exact ⟨rfl, HT6.out⟩
end Go.Proofs.Yteeakkpbpffohaa
