/- SchedExits: the calls of Exit, Holder, State and Lock, where workers are ready, wait for a lock, or have ended. -/
import Derived.Test.YtacmdhlemolngaaScEa
namespace Go.Proofs.Ytacmdhlemolngaa
open Go.RowKit Go.Maps

theorem Ey.stw {A : Ab} {N : Nat} (h : Ey A N) {x : Nat} (hx : x < N) : A.has (x : Int) = true := h.has (by omega) (by omega)
theorem exit_ey {w : World} {p n N : Nat} {lab : Nat → Own} {A : Ab} {en : List Bool} (h : Sc w p lab A n) (hE : Ey A N) (hM : Mk A N en) (hN : N ≤ 12) (hn : n ≤ 1000000) (x : Nat) (hx : x < N) :
    Calls Try.prog 29 #[.pointer (some ⟨p, 0, none⟩), .int .i64 x] w fun e w' => ∃ er : Int, e = .returned (.int .i64 er) ∧ (en.getD x false = true ∧ er = 2 ∨ en.getD x false = false ∧ er = 0) ∧ ∃ lab' A', Sc w' p lab' A' (n + 1) ∧ Keep lab w lab' w' ∧ Ey A' N ∧ Mk A' N (en.set x true) := by
  have hhas := hE.stw hx
  have hm := hM.2 x hx
  by_cases h5 : (A.wk (x : Int)).st = 5
  · have ha : allowR A x 1 = 2 := by unfold allowR; rw [hhas, h5]; rfl
    refine (Exit_no h x (by rw [ha]; omega)).mono ?_
    rintro e w' ⟨rfl, rfl⟩
    rw [ha]
    exact ⟨2, rfl, .inl ⟨hm.2 h5, rfl⟩, lab, A, h.more (by omega), Keep.refl _ _, hE, hM.exit hE.len hx (fun y hy => ⟨.inr, fun e => e.elim (fun e => by rw [e]; exact h5) id⟩)⟩
  · have hf : Fit A := hE.inv.fit (by rw [hE.len]; omega)
    have h4 : (A.wk (x : Int)).st ≠ 4 := by rcases hE.st _ hhas with e | e | e <;> omega
    have ha : allowR A x 1 = 0 := by
      unfold allowR
      rw [hhas]
      rcases hE.st _ hhas with e | e | e
      · rw [e]; rfl
      · rw [e]; rfl
      · exact absurd e h5
    refine (Exit_ok h (by omega) x ha hhas (Leaves.of h hf (by omega) hhas h4) (fun L M _ => (hE.inv.fin hhas).hands.fit (by rw [hands_len, (fin_wk hhas).1, hE.len]; omega))).mono ?_
    rintro e w' ⟨rfl, L, hL, lab', hS, hK⟩
    obtain ⟨g1, g2⟩ := hE.exit hhas hL
    refine ⟨0, rfl, .inr ⟨?_, rfl⟩, lab', _, hS, hK, g1, hM.exit hE.len hx g2⟩
    cases hb : en.getD x false with
    | false => rfl
    | true => exact absurd (hm.1 hb) h5
/-- Who holds a lock has not ended. -/
theorem hold_ey {N : Nat} {A : Ab} {en : List Bool} (hE : Ey A N) (hM : Mk A N en) (k : Int) (hk : IsI k) : ∃ (x : Nat) (b : Bool), fstI (A.lk k) = .tuple #[.int .i64 x, .bool b] ∧ (b = true → x < N ∧ en.getD x false = false) := by
  unfold fstI
  cases hl : A.lk k with
  | nil => exact ⟨0, false, rfl, by simp⟩
  | cons a t =>
    have hh := hE.inv.l0 k a (by rw [hl]; simp)
    have hb := has_bd hh
    rw [hE.len] at hb
    have h5 := hE.hd k hk a (by rw [hl]; rfl)
    refine ⟨a.toNat, true, ?_, fun _ => ⟨by omega, ?_⟩⟩
    · rw [show ((a.toNat : Nat) : Int) = a by omega]; rfl
    · have := hM.2 a.toNat (by omega)
      rw [show ((a.toNat : Nat) : Int) = a by omega] at this
      cases hb : en.getD a.toNat false with
      | false => rfl
      | true => exact absurd (this.1 hb) h5
/-- The workers from k on. -/
structure Ez (A : Ab) (N : Nat) (en : List Bool) (k : Nat) : Prop where
  inv : Inv A none
  len : A.ws.length = N
  st : ∀ i : Nat, k ≤ i → i < N → (en.getD i false = true ↔ (A.wk (i : Int)).st = 5) ∧ ((A.wk (i : Int)).st = 1 ∨ (A.wk (i : Int)).st = 3 ∨ (A.wk (i : Int)).st = 5) ∧ ((A.wk (i : Int)).st = 3 → 0 ≤ (A.wk (i : Int)).row ∧ (A.wk (i : Int)).row < 4)
theorem Ez.of {A : Ab} {N : Nat} {en : List Bool} (h : Ey A N) (hM : Mk A N en) : Ez A N en 0 := ⟨h.inv, h.len, fun i _ hi => ⟨hM.2 i hi, h.st _ (h.stw hi), h.row _ (h.stw hi)⟩⟩
theorem Ez.has {A : Ab} {N : Nat} {en : List Bool} {k : Nat} (h : Ez A N en k) {i : Nat} (hi : i < N) : A.has (i : Int) = true := by unfold Ab.has; rw [h.len]; simpa using hi
theorem Ez.next {A : Ab} {N : Nat} {en : List Bool} {k : Nat} (h : Ez A N en k) : Ez (lockS A k 9) N en (k + 1) := ⟨h.inv.lockS _ _ (isI_of (by omega) (by omega)), by rw [lockS_len]; exact h.len, fun i hi hN => by
  rcases (lockS_wk (k : Int) 9 (i : Int) (h.has hN)).2 with e | ⟨e, _⟩
  · rw [e]; exact h.st i (by omega) hN
  · omega⟩
/-- What State and Lock answer of the next one, and who holds what it waits for. -/
theorem Ez.says {A : Ab} {N : Nat} {en : List Bool} {k : Nat} (h : Ez A N en k) (hk : k < N) : ∃ (st er : Int) (b : Bool), stateR A k = .tuple #[.int .i64 st, .int .i64 0] ∧ lockR A k 9 = .tuple #[.bool b, .int .i64 er] ∧
    ((st = 5 ∧ er = 2 ∧ en.getD k false = true) ∨ (st = 1 ∧ er = 0 ∧ en.getD k false = false) ∨ (st = 3 ∧ er = 8 ∧ en.getD k false = false ∧ lockS A k 9 = A ∧ ∃ r : Nat, r < 4 ∧ ∃ a t, A.lk (r : Int) = a :: t ∧ a ≠ (k : Int))) := by
  have hhas := h.has hk
  obtain ⟨h1, h2, h3⟩ := h.st k (Nat.le_refl _) hk
  have hs : stateR A k = .tuple #[.int .i64 (A.wk (k : Int)).st, .int .i64 0] := stateR_has hhas
  have he : (A.wk (k : Int)).st ≠ 5 → en.getD k false = false := fun hne => by
    cases hb : en.getD k false with
    | false => rfl
    | true => exact absurd (h1.1 hb) hne
  rcases h2 with e | e | e
  · have ha : allowR A k 0 = 0 := by unfold allowR; rw [hhas, e]; rfl
    exact ⟨1, 0, _, by rw [hs, e], by unfold lockR; rw [if_pos ha], .inr (.inl ⟨rfl, rfl, he (by omega)⟩)⟩
  · have ha : allowR A k 0 = 8 := by unfold allowR; rw [hhas, e]; rfl
    have hl : lockS A k 9 = A := by unfold lockS; rw [ha, if_neg (by omega)]
    obtain ⟨r1, r2⟩ := h3 e
    have hin := h.inv.l2 k hhas e (by simp)
    have hnd := h.inv.ndl (A.wk (k : Int)).row
    refine ⟨3, 8, false, by rw [hs, e], by unfold lockR; rw [ha, if_neg (by omega)], .inr (.inr ⟨rfl, rfl, he (by omega), hl, (A.wk (k : Int)).row.toNat, by omega, ?_⟩)⟩
    rw [show (((A.wk (k : Int)).row.toNat : Nat) : Int) = (A.wk (k : Int)).row by omega]
    cases hlk : A.lk (A.wk (k : Int)).row with
    | nil => rw [hlk] at hin; simp at hin
    | cons a t =>
      rw [hlk] at hin hnd
      exact ⟨a, t, rfl, fun e2 => (List.nodup_cons.1 hnd).1 (by rw [e2]; exact hin)⟩
  · have ha : allowR A k 0 = 2 := by unfold allowR; rw [hhas, e]; rfl
    exact ⟨5, 2, false, by rw [hs, e], by unfold lockR; rw [ha, if_neg (by omega)], .inl ⟨rfl, rfl, h1.2 e⟩⟩
/-- Somebody but i holds one of the locks below k. -/
def hel (A : Ab) (i : Int) : Nat → Bool
  | 0 => false
  | k + 1 => hel A i k || (!(A.lk (k : Int)).isEmpty && decide ((A.lk (k : Int)).headD 0 ≠ i))
theorem hel_mono (A : Ab) (i : Int) : ∀ (k r : Nat), r < k → (∃ a t, A.lk (r : Int) = a :: t ∧ a ≠ i) → hel A i k = true
  | 0, _, h, _ => by omega
  | k + 1, r, h, ⟨a, t, e, hne⟩ => by
    rw [hel]
    by_cases hr : r = k
    · subst hr
      rw [e]
      simp [hne]
    · rw [hel_mono A i k r (by omega) ⟨a, t, e, hne⟩]; rfl
/-- A row of marks of the law's own. -/
def Lq (w0 w : World) (lab : Nat → Own) (be : Nat) (en : List Bool) : Prop := w.heap[be]? = some (.cells (en.map Value.bool).toArray 4 (0, 0)) ∧ lab be = .no ∧ w0.heap.size ≤ be
theorem Lq.keep {w0 w w' : World} {lab lab' : Nat → Own} {be : Nat} {en : List Bool} (h : Lq w0 w lab be en) (hk : Keep lab w lab' w') : Lq w0 w' lab' be en := by
  have hl : be < w.heap.size := (Array.getElem?_eq_some_iff.1 h.1).1
  exact ⟨(hk.block hl h.2.1).trans h.1, hk.lab hl h.2.1, h.2.2⟩
theorem Lq.cell {w0 w : World} {lab : Nat → Own} {be : Nat} {en : List Bool} (h : Lq w0 w lab be en) {i : Nat} (hi : i < en.length) : w.cell? ⟨be, i, none⟩ = some (.bool (en.getD i false)) := cell_of h.1 (by simp [hi, List.getD])
theorem Lq.froz {w0 w : World} {lab : Nat → Own} {be : Nat} {en : List Bool} (h : Lq w0 w lab be en) (i : Nat) : w.frozen? ⟨be, i, none⟩ = false := froz_of h.1 i
theorem Lq.set {w0 w : World} {lab : Nat → Own} {be : Nat} {en : List Bool} (h : Lq w0 w lab be en) (i : Nat) : Lq w0 (w.setCell ⟨be, i, none⟩ (.bool true)) lab be (en.set i true) := by
  refine ⟨?_, h.2⟩
  rw [setc h.1 i (.bool true)]
  simp [List.map_set]
theorem Lq.mods {w : World} {be : Nat} (i : Nat) (v : Value) : Mods (fun b => b = be) w (w.setCell ⟨be, i, none⟩ v) := (Mods.refl _ _).setCell _ _ _ rfl
theorem info4 : (Try.prog.info? 4).map (fun i => (i.zero, i.size, i.bytes)) = some (some (.bool false), 1, 1) := by kernel_rfl
theorem Lq.made {w0 w : World} {lab : Nat → Own} (hb : w0.heap.size ≤ w.heap.size) (hn : ∀ b, lab b ≠ .no → b < w.heap.size) (N : Nat) : Lq w0 (w.alloc (.cells (madeCells #[.bool false] N) 4)) lab w.heap.size (List.replicate N false) := by
  refine ⟨?_, ?_, hb⟩
  · rw [alloc_new]
    have e : madeCells #[.bool false] N = ((List.replicate N false).map Value.bool).toArray := by
      apply Array.ext'
      apply List.ext_getElem
      · simp [madeCells]
      · intro i h1 h2
        simp [madeCells, Nat.mod_one]
    rw [e]
  · refine Classical.byContradiction (fun h => ?_)
    have := hn _ h
    omega
end Go.Proofs.Ytacmdhlemolngaa
