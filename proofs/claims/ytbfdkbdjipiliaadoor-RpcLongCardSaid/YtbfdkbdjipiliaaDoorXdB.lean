/- XdA, XdB in one text. -/
import Derived.Test.YtbfdkbdjipiliaaDoorXbB
/- Reading: a row of bytes and a place, its numbers; the document's numbers. -/
namespace Go.Proofs.YtbfdkbdjipiliaaDoor
open Go.RowKit Go.Maps
set_option linter.unusedVariables false

/-- The number of n bytes at a place, if it is there. -/
def numQ (l : List Int) (k n : Nat) : Option Int := if k + n ≤ l.length then some (beOf ((l.drop k).take n)) else none
theorem numQ_bd {l : List Int} {k n : Nat} {v : Int} (h : numQ l k n = some v) (hl : ∀ x ∈ l, IsB x) : 0 ≤ v ∧ v < 256 ^ n := by
  unfold numQ at h
  split at h
  · rename_i hk
    simp at h
    subst h
    have := beOf_bd ((l.drop k).take n) (fun x hx => hl x (List.mem_of_mem_drop (List.mem_of_mem_take hx)))
    rw [List.length_take, List.length_drop, Nat.min_eq_left (by omega)] at this
    exact this
  · cases h
theorem rd_num (l : List Int) (k n : Nat) (hn : n = 4 ∨ n = 8) : rdBe l k n = (numQ l k n).getD 0 ∧ rdErr l.length k n = if (numQ l k n).isSome then 0 else 11 := by
  have hw : widB (n : Int) = true := by rcases hn with rfl | rfl <;> rfl
  unfold numQ
  by_cases h : k + n ≤ l.length
  · have hi : insB l.length k n = true := by simp [insB]; omega
    obtain ⟨e1, _, e2⟩ := rd_yes l k n hw hi
    rw [if_pos h, e1, e2]
    exact ⟨rfl, rfl⟩
  · have hi : insB l.length k n = false := by simp [insB]; omega
    obtain ⟨e1, _, e2⟩ := rd_out l k n hw hi
    rw [if_neg h, e1, e2]
    exact ⟨rfl, rfl⟩
/-- A row that is read from the left on, in block q; X: what may turn. -/
structure RQ (w : World) (X : Nat → Prop) (q : Nat) (a : Option Addr) (c : Nat) (l : List Int) (k : Nat) : Prop where
  box : w.heap[q]? = some (.cells #[.slice a l.length c, .int .i64 k] 101 (0, 0))
  xq : X q
  hb : ∀ W, Mods X w W → Bytes W a l
  hc : l.length ≤ c
  hl : l.length ≤ 900000
section
variable {w w' : World} {X : Nat → Prop} {q : Nat} {a : Option Addr} {c : Nat} {l : List Int} {k : Nat}
theorem RQ.bytes (h : RQ w X q a c l k) : Bytes w a l := h.hb w (Mods.refl _ _)
theorem RQ.turn {k' : Nat} (h : RQ w X q a c l k) (hm : Mods (fun b => b = q) w w') (hb : w'.heap[q]? = some (.cells #[.slice a l.length c, .int .i64 k'] 101 (0, 0))) : RQ w' X q a c l k' :=
  ⟨hb, h.xq, fun W hW => h.hb W ((hm.weak (al' := X) (fun b hb => .inl (by rw [hb]; exact h.xq))).tr hW), h.hc, h.hl⟩
theorem RQ.later (h : RQ w X q a c l k) (hb : Below w.heap.size w w') : RQ w' X q a c l k :=
  ⟨(hb.block q (Array.getElem?_eq_some_iff.1 h.box).1).trans h.box, h.xq, fun W hW => h.hb W ((Mods.of_below hb).tr hW), h.hc, h.hl⟩
end
set_option maxRecDepth 100000 in
set_option maxHeartbeats 4000000 in
theorem rnumber_any {w : World} {X : Nat → Prop} {q : Nat} {a : Option Addr} {c : Nat} {l : List Int} {k : Nat} (h : RQ w X q a c l k) (hk : k ≤ 900000) (n : Nat) (hn : n = 4 ∨ n = 8) (N : Int) (hN : N = n) :
    Calls Tryd.prog 63 #[.pointer (some ⟨q, 0, none⟩), .int .i64 N] w fun e w' => e = .returned (.tuple #[.int .u64 ((numQ l k n).getD 0), .int .i64 (if (numQ l k n).isSome then 0 else 11)]) ∧ RQ w' X q a c l (k + n) ∧ Mods (fun b => b = q) w w' := by
  subst hN
  obtain ⟨e1, e2⟩ := rd_num l k n hn
  have HBE : Hid (∀ W, Below w.heap.size w W → Calls Tryd.prog 69 #[.slice a l.length c, .int .i64 k, .int .i64 n] W fun e w' => e = .returned (.tuple #[.int .u64 ((numQ l k n).getD 0), .int .i64 (if (numQ l k n).isSome then 0 else 11)]) ∧ Below W.heap.size W w') := hid (fun W hW => by
    refine (numBe_any a c l k n W (by have := h.hl; unfold maxLen; omega) h.hc (h.bytes.later hW)).mono ?_
    rintro e w' ⟨rfl, q', rfl⟩
    rw [e1, e2]
    exact ⟨rfl, below_drewN (Below.refl _ _) _⟩)
  have hbx := h.box
  have c0 := cell_of hbx (i := 0) (v := .slice a l.length c) rfl
  have c1 := cell_of hbx (i := 1) (v := .int .i64 k) rfl
  have hn8 : n ≤ 8 := by omega
  have hw1 : IntKind.i64.wrap ((k : Int) + n) = (k : Int) + n := IntWalk.i64_in _ (by omega)
  obtain ⟨ln, hln⟩ : ∃ x, l.length = x := ⟨_, rfl⟩
  obtain ⟨V, hV⟩ : ∃ x, (numQ l k n).getD 0 = x := ⟨_, rfl⟩
  obtain ⟨E, hE⟩ : ∃ x : Int, (if (numQ l k n).isSome then (0 : Int) else 11) = x := ⟨_, rfl⟩
  rw [hV, hE] at HBE ⊢
  rw [hln] at HBE hbx c0
  have HH := hid h
  have HBX := hid hbx
  have HLN := hid hln
  clear h hbx hln hV hE e1 e2 hn
  go_enter Tryd.func63, Tryd.ntmps63
  go_upto_region 1 with fail
  try simp only [Act.put]
  refine wp_region_held_drew (S := (fun w' => w'.cell? ⟨q, 0, none⟩ = some (.slice a ln c) ∧ w'.cell? ⟨q, 1, none⟩ = some (.int .i64 k))) (by kernel_rfl) ⟨c0, c1⟩ (fun hS => ?_)
  obtain ⟨v0, hv0⟩ : ∃ W, W = w.drew := ⟨_, rfl⟩
  rw [← hv0] at hS ⊢
  have HB0 := hid (show Below w.heap.size w v0 by rw [hv0]; exact (Below.refl _ _).drew)
  clear hv0 c0 c1
  refine nany_take 0 9 (.pointer (some ⟨q, 0, none⟩)) rfl rfl (by kernel_rfl) (by kernel_rfl) (by kernel_rfl) (fun _ _ _ h => h) (Or.inl ⟨by rfl, ?_⟩) hS ?_
  · rintro w' hS'
    first | go_simp | (go_simp; exact hS'.1) | (go_simp; exact hS'.2)
  simp only [List.setIfInBounds_toArray, List.set_cons_zero, List.set_cons_succ]
  refine nany_take 1 10 (.pointer (some ⟨q, 0, none⟩)) rfl rfl (by kernel_rfl) (by kernel_rfl) (by kernel_rfl) (fun _ _ _ h => h) (Or.inl ⟨by rfl, ?_⟩) hS ?_
  · rintro w' hS'
    first | go_simp | (go_simp; exact hS'.1) | (go_simp; exact hS'.2)
  simp only [List.setIfInBounds_toArray, List.set_cons_zero, List.set_cons_succ]
  refine nany_take 2 11 (.pointer (some ⟨q, 0, none⟩)) rfl rfl (by kernel_rfl) (by kernel_rfl) (by kernel_rfl) (fun _ _ _ h => h) (Or.inl ⟨by rfl, ?_⟩) hS ?_
  · rintro w' hS'
    first | go_simp | (go_simp; exact hS'.1) | (go_simp; exact hS'.2)
  simp only [List.setIfInBounds_toArray, List.set_cons_zero, List.set_cons_succ]
  refine nany_take 3 12 (.slice a ln c) rfl rfl (by kernel_rfl) (by kernel_rfl) (by kernel_rfl) (fun _ _ _ h => h) (Or.inl ⟨by rfl, ?_⟩) hS ?_
  · rintro w' hS'
    first | go_simp | (go_simp; exact hS'.1) | (go_simp; exact hS'.2)
  simp only [List.setIfInBounds_toArray, List.set_cons_zero, List.set_cons_succ]
  refine nany_take 4 13 (.pointer (some ⟨q, 0, none⟩)) rfl rfl (by kernel_rfl) (by kernel_rfl) (by kernel_rfl) (fun _ _ _ h => h) (Or.inl ⟨by rfl, ?_⟩) hS ?_
  · rintro w' hS'
    first | go_simp | (go_simp; exact hS'.1) | (go_simp; exact hS'.2)
  simp only [List.setIfInBounds_toArray, List.set_cons_zero, List.set_cons_succ]
  refine nany_take 5 14 (.pointer (some ⟨q, 0, none⟩)) rfl rfl (by kernel_rfl) (by kernel_rfl) (by kernel_rfl) (fun _ _ _ h => h) (Or.inl ⟨by rfl, ?_⟩) hS ?_
  · rintro w' hS'
    first | go_simp | (go_simp; exact hS'.1) | (go_simp; exact hS'.2)
  simp only [List.setIfInBounds_toArray, List.set_cons_zero, List.set_cons_succ]
  refine nany_take 6 15 (.pointer (some ⟨q, 1, none⟩)) rfl rfl (by kernel_rfl) (by kernel_rfl) (by kernel_rfl) (fun _ _ _ h => h) (Or.inl ⟨by rfl, ?_⟩) hS ?_
  · rintro w' hS'
    first | go_simp | (go_simp; exact hS'.1) | (go_simp; exact hS'.2)
  simp only [List.setIfInBounds_toArray, List.set_cons_zero, List.set_cons_succ]
  refine nany_take 7 16 (.int .i64 k) rfl rfl (by kernel_rfl) (by kernel_rfl) (by kernel_rfl) (fun _ _ _ h => h) (Or.inl ⟨by rfl, ?_⟩) hS ?_
  · rintro w' hS'
    first | go_simp | (go_simp; exact hS'.1) | (go_simp; exact hS'.2)
  simp only [List.setIfInBounds_toArray, List.set_cons_zero, List.set_cons_succ]
  refine nany_take 8 17 (.int .i64 n) rfl rfl (by kernel_rfl) (by kernel_rfl) (by kernel_rfl) (fun _ _ _ h => h) (Or.inl ⟨by rfl, ?_⟩) hS ?_
  · rintro w' hS'
    first | go_simp | (go_simp; exact hS'.1) | (go_simp; exact hS'.2)
  simp only [List.setIfInBounds_toArray, List.set_cons_zero, List.set_cons_succ]
  refine nany_one 9 (by kernel_rfl) ?_
  refine nop_callE 18 (f := 69) (args := #[.slice a ln c, .int .i64 k, .int .i64 n]) (R := fun v w' => v = .tuple #[.int .u64 V, .int .i64 E] ∧ Below v0.heap.size v0 w') rfl (by rfl) rfl (by go_simp) ((HBE.out v0 HB0.out).mono (fun e w' h => ⟨_, h.1, rfl, h.2⟩)) ?_
  rintro v v5 ⟨rfl, hb5⟩
  have hS5 := And.intro (cell_later hb5 hS.1) (cell_later hb5 hS.2)
  have HB5 := hid (HB0.out.trans (hb5.mono HB0.out.size))
  refine ⟨hS5, ?_⟩
  simp only [List.setIfInBounds_toArray, List.set_cons_zero, List.set_cons_succ]
  refine nany_take 10 8 (.tuple #[.int .u64 V, .int .i64 E]) rfl rfl (by kernel_rfl) (by kernel_rfl) (by kernel_rfl) (fun _ _ _ h => h) (Or.inl ⟨by rfl, ?_⟩) hS5 ?_
  · rintro w' hS'
    first | go_simp | (go_simp; exact hS'.1) | (go_simp; exact hS'.2)
  simp only [List.setIfInBounds_toArray, List.set_cons_zero, List.set_cons_succ]
  refine nany_take 11 19 (.int .u64 V) rfl rfl (by kernel_rfl) (by kernel_rfl) (by kernel_rfl) (fun _ _ _ h => h) (Or.inl ⟨by rfl, ?_⟩) hS5 ?_
  · rintro w' hS'
    first | go_simp | (go_simp; exact hS'.1) | (go_simp; exact hS'.2)
  simp only [List.setIfInBounds_toArray, List.set_cons_zero, List.set_cons_succ]
  refine nany_take 12 20 (.int .i64 E) rfl rfl (by kernel_rfl) (by kernel_rfl) (by kernel_rfl) (fun _ _ _ h => h) (Or.inl ⟨by rfl, ?_⟩) hS5 ?_
  · rintro w' hS'
    first | go_simp | (go_simp; exact hS'.1) | (go_simp; exact hS'.2)
  simp only [List.setIfInBounds_toArray, List.set_cons_zero, List.set_cons_succ]
  refine nany_take 13 6 (.int .u64 V) rfl rfl (by kernel_rfl) (by kernel_rfl) (by kernel_rfl) (fun _ _ _ h => h) (Or.inl ⟨by rfl, ?_⟩) hS5 ?_
  · rintro w' hS'
    first | go_simp | (go_simp; exact hS'.1) | (go_simp; exact hS'.2)
  simp only [List.setIfInBounds_toArray, List.set_cons_zero, List.set_cons_succ]
  refine nany_take 14 7 (.int .i64 E) rfl rfl (by kernel_rfl) (by kernel_rfl) (by kernel_rfl) (fun _ _ _ h => h) (Or.inl ⟨by rfl, ?_⟩) hS5 ?_
  · rintro w' hS'
    first | go_simp | (go_simp; exact hS'.1) | (go_simp; exact hS'.2)
  simp only [List.setIfInBounds_toArray, List.set_cons_zero, List.set_cons_succ]
  refine wpAnyH_done (by kernel_rfl) ?_ _
  clear hS hb5
  have hb5 := (HB5.out.block q (Array.getElem?_eq_some_iff.1 HBX.out).1).trans HBX.out
  have c1 := cell_of hb5 (i := 1) (v := .int .i64 k) rfl
  have f1 := froz_of hb5 1
  have h6 := setc hb5 1 (.int .i64 ((k : Int) + n))
  have M6 := hid ((Mods.of_below (al := fun b => b = q) HB5.out).setCell q 1 (.int .i64 ((k : Int) + n)) rfl)
  have H6 := hid h6
  clear hb5 h6 hS5
  go_wp2
  go_ret2
  refine ⟨rfl, HH.out.turn M6.out ?_, M6.out⟩
  have h7 := H6.out
  rw [HLN.out]
  simpa using h7
end Go.Proofs.YtbfdkbdjipiliaaDoor

/- Reading: numbers and truths of a row. -/
namespace Go.Proofs.YtbfdkbdjipiliaaDoor
open Go.RowKit Go.Maps
set_option linter.unusedVariables false

/-- What a call reads at a place: a value, an error, where it ends. -/
structure Rs (α : Type) where
  v : α
  e : Int
  k : Nat
def u32P (l : List Int) (k : Nat) : Rs Int := match numQ l k 4 with | none => ⟨0, 11, k⟩ | some v => ⟨v, 0, k + 4⟩
def u64P (l : List Int) (k : Nat) : Rs Int := match numQ l k 8 with | none => ⟨0, 11, k⟩ | some v => ⟨v, 0, k + 8⟩
def boolP (l : List Int) (k : Nat) : Rs Bool := match numQ l k 4 with | none => ⟨false, 11, k⟩ | some v => if 1 < v then ⟨false, 15, k⟩ else ⟨decide (v = 1), 0, k + 4⟩
section
variable {w : World} {X : Nat → Prop} {q : Nat} {a : Option Addr} {c : Nat} {l : List Int} {k : Nat}
set_option maxRecDepth 100000 in
set_option maxHeartbeats 1000000 in
theorem ru32_any (h : RQ w X q a c l k) (hk : k ≤ 900000) :
    Calls Tryd.prog 52 #[.pointer (some ⟨q, 0, none⟩)] w fun e w' => e = .returned (.tuple #[.int .u32 (u32P l k).v, .int .i64 (u32P l k).e]) ∧ RQ w' X q a c l (k + 4) ∧ Mods (fun b => b = q) w w' := by
  have HC := hid (rnumber_any h hk 4 (.inl rfl) 4 rfl)
  have hI := h.bytes.isB
  unfold u32P
  cases hq : numQ l k 4 with
  | none =>
    rw [hq] at HC
    simp only [Option.getD_none, Option.isSome_none, Bool.false_eq_true, if_false] at HC
    clear h hq hI
    go_enter Tryd.func52, Tryd.ntmps52
    go_wp2_with (go_at_call 63; refine HC.out.mono ?_; rintro e w2 ⟨rfl, hx, hm⟩; have HX := hid hx; have HM := hid hm; clear hx hm)
    go_ret2
    exact ⟨rfl, HX.out, HM.out⟩
  | some v =>
    have hv := numQ_bd hq hI
    rw [hq] at HC
    simp only [Option.getD_some, Option.isSome_some, if_true] at HC
    have hw32 : IntKind.u32.wrap v = v := IntWalk.u32_in _ (by omega)
    clear h hq hI hv
    go_enter Tryd.func52, Tryd.ntmps52
    go_wp2_with (go_at_call 63; refine HC.out.mono ?_; rintro e w2 ⟨rfl, hx, hm⟩; have HX := hid hx; have HM := hid hm; clear hx hm)
    go_ret2
    exact ⟨rfl, HX.out, HM.out⟩
end
end Go.Proofs.YtbfdkbdjipiliaaDoor
