/- IbH, IbI in one text. -/
import Derived.Test.YtaplmlldmhdhoaaGreatDoorIbG
import Derived.Test.YtaplmlldmhdhoaaGreatDoorIaA
/- fill, reach. -/
namespace Go.Proofs.YtaplmlldmhdhoaaGreatDoor
open Go.RowKit Go.Maps
set_option linter.unusedVariables false

variable {w w' : World} {pf pd n N : Nat} {S S' T : Nat → Prop} {i : Int} {base : Value} {P P' : Int → Option (List Int)} {bc c c' : Nat → List Int} {A0 : Array Value} {size : Int} {ptr : Nat → Nat}
def updP (ptr : Nat → Nat) (s b : Nat) : Nat → Nat := fun j => if j = s then b else ptr j
/-- A pointer that led nowhere leads to x, a new block of noughts. -/
def fillC (c : Nat → List Int) (F : Nat → Bool) (x blk slot : Nat) : Nat → List Int :=
  updN (if blk = 0 then updN c 69 (bitB (flip1 F x)) else updN (updN c 69 (bitB (flip1 F x))) blk (encPs ((ptrsL (updN c 69 (bitB (flip1 F x)) blk)).set slot x))) x zeros512
def fillP (ptr : Nat → Nat) (x blk slot : Nat) : Nat → Nat := if blk = 0 then updP ptr slot x else ptr
/-- Where a hole may stand. -/
def HoleOk (blk slot N : Nat) : Prop := (blk = 0 ∧ slot < 9) ∨ (69 < blk ∧ blk < N ∧ slot < 128)
theorem Fw.setPtr (h : Fw w pf pd S N i base T bc n P c A0 size ptr) {A : Array Value} (hA : w.heap[pf]? = some (.cells A 135 (0, 0))) (slot b : Nat) (hs : slot < 9) (hw : w'.heap[pf]? = some (.cells (A.setIfInBounds (15 + slot) (n64 b)) 135 (0, 0))) (hm : Mods (fun g => g = pf) w w') : Fw w' pf pd S N i base T bc n P c A0 size (updP ptr slot b) := by
  obtain ⟨hD, ⟨A', h1, h2, h3⟩, h4, h5⟩ := h
  rw [hA] at h1
  simp only [Option.some.injEq, Obj.cells.injEq] at h1
  obtain ⟨rfl, _⟩ := h1
  refine ⟨hD.mods hm (fun g hg e => by subst e; rcases hg with hg | hg; exact h4 hg; exact h5 hg), ⟨_, hw, ⟨by simp [h2.sz], ?_, ?_, fun j hj => ?_⟩, fun j hj hj2 hj3 => ?_⟩, h4, h5⟩
  · rw [Array.getElem?_setIfInBounds_ne (by omega)]; exact h2.view
  · rw [Array.getElem?_setIfInBounds_ne (by omega)]; exact h2.len
  · unfold updP
    by_cases e : j = slot
    · subst e
      rw [Array.getElem?_setIfInBounds_self_of_lt (by have := h2.sz; omega), if_pos rfl]
    · rw [Array.getElem?_setIfInBounds_ne (by omega), if_neg e]; exact h2.ptr j hj
  · rw [Array.getElem?_setIfInBounds_ne (by omega)]; exact h3 j hj hj2 hj3
set_option maxRecDepth 100000 in
set_option maxHeartbeats 4000000 in
theorem fpoint_any (h : Fw w pf pd S N i base T bc n P c A0 size ptr) (hn : n < 900000) (ph blk slot nx b : Nat) (hh : w.heap[ph]? = some (.cells #[n64 2, n64 blk, n64 slot, n64 nx] 181 (0, 0))) (hph : ¬ S ph) (ho : HoleOk blk slot N) (hb : b < 4294967296) :
    Calls Tryz.prog 101 #[ptrV pf, ptrV ph, n64 b] w fun e w' => e = .returned .nilIface ∧ ∃ S' n' P', n' ≤ n + 1 ∧ Fw w' pf pd S' N i base T bc n' P' (if blk = 0 then c else updN c blk (encPs ((ptrsL (c blk)).set slot b))) A0 size (fillP ptr b blk slot) ∧ KpF S pf w S' w' := by
  have h' := h
  obtain ⟨hD, ⟨A, h1, h2, h3⟩, h4, h5⟩ := h
  rcases ho with ⟨rfl, hs⟩ | ⟨hb1, hb2, hs⟩
  · refine (point_0 w pf pd ph slot b nx A size ptr h1 h2 hh hs).mono ?_
    rintro e w' ⟨rfl, hw, hm⟩
    refine ⟨rfl, S, n, P, by omega, ?_, fun _ hg => .inl hg, hm.weak (fun b hb => .inl (.inr hb))⟩
    rw [if_pos rfl]
    unfold fillP
    rw [if_pos rfl]
    exact h'.setPtr h1 slot b hs hw hm
  · refine (point_1 hD hn pf ph slot b nx blk A size ptr h1 h2 hh hs hb2 (by omega) hb h4 hph).mono ?_
    rintro e w' ⟨rfl, S', hd, hk⟩
    have hf := h'.kp hk hd
    have e1 : (if blk = 0 then c else updN c blk (encPs ((ptrsL (c blk)).set slot b))) = updN c blk (encPs ((ptrsL (c blk)).set slot b)) := if_neg (by omega)
    have e2 : fillP ptr b blk slot = ptr := if_neg (by omega)
    rw [e1, e2]
    exact ⟨rfl, S', n + 1, _, Nat.le_refl _, hf, .of_kp hk⟩
set_option maxRecDepth 100000 in
set_option maxHeartbeats 4000000 in
theorem fill_any (h : Fw w pf pd S N i base T bc n P c A0 size ptr) (hn : n < 800000) (D : Nat) (hD : planD N i = (D : Int)) (F : Nat → Bool) (hF : c 69 = bitB F) (x : Nat) (hx : LowF F D N x) (ph blk slot nx : Nat) (hh : w.heap[ph]? = some (.cells #[n64 2, n64 blk, n64 slot, n64 nx] 181 (0, 0))) (hph : ¬ S ph) (hpf : ph ≠ pf) (ho : HoleOk blk slot N) :
    Calls Tryz.prog 85 #[ptrV pf, ptrV ph] w fun e w' => e = .returned .nilIface ∧ ∃ S' n' P', n' ≤ n + 3 ∧ Fw w' pf pd S' N i base T bc n' P' (fillC c F x blk slot) A0 size (fillP ptr x blk slot) ∧ KpF S pf w S' w' := by
  have mkB : ∀ W : World, (Instr.makeSlice 59 (.int .i64 512) (.int .i64 512)).run Tryz.prog W = .ok (.slice (some ⟨W.heap.size, 0, none⟩) 512 512) (W.alloc (.cells (madeCells #[.int .u8 0] 512) 5)) := run_make_row' (P := Tryz.prog) 59 5 (.int .u8 0) 1 Tryz.underlying59 info5 rfl .i64 .i64 512 (by omega) (by omega)
  have f0 := h.view
  have HT := hid (h.D.TakeBlock (by omega) D hD F hF x hx)
  have HF0 := hid h
  have hN := h.D.nN
  have HX : Hid (x < N ∧ N ≤ 4096) := hid ⟨hx.2.1, hN⟩
  have HHH := hid (And.intro hh (And.intro hph (And.intro hpf ho)))
  have HN := hid hn
  obtain ⟨c1, hc1⟩ : ∃ c1, c1 = updN c 69 (bitB (flip1 F x)) := ⟨_, rfl⟩
  obtain ⟨CF, hCF⟩ : ∃ CF, CF = fillC c F x blk slot := ⟨_, rfl⟩
  obtain ⟨PF, hPF⟩ : ∃ PF, PF = fillP ptr x blk slot := ⟨_, rfl⟩
  rw [← hc1] at HT
  rw [← hCF, ← hPF]
  have HCF : Hid (CF = updN (if blk = 0 then c1 else updN c1 blk (encPs ((ptrsL (c1 blk)).set slot x))) x zeros512) := hid (by rw [hCF, hc1]; rfl)
  have HPF := hid hPF
  clear h hCF hPF hh hph hpf ho hx hF hD hc1 hN hn
  go_enter Tryz.func85, Tryz.ntmps85
  go_wp2_with fail
  refine HT.out.mono ?_
  rintro e w1 ⟨rfl, S1, hd1, hk1⟩
  have hF1 := HF0.out.kp hk1 hd1
  obtain ⟨hh, hph, hpf, ho⟩ := HHH.out
  have hl := (Array.getElem?_eq_some_iff.1 hh).1
  have HPT := hid (fpoint_any hF1 (by have := HN.out; omega) ph blk slot nx x ((hk1.block hl hph).trans hh) (hk1.off hl hph) ho (by have := HX.out; omega))
  have HK1 := hid hk1
  obtain ⟨c2, hc2⟩ : ∃ c2, c2 = (if blk = 0 then c1 else updN c1 blk (encPs ((ptrsL (c1 blk)).set slot x))) := ⟨_, rfl⟩
  rw [← hc2] at HPT HCF
  rw [← HPF.out] at HPT
  clear hd1 hk1 hF1 hh hph hpf ho hl HT f0 hc2
  go_wp2_with fail
  refine HPT.out.mono ?_
  rintro e w2 ⟨rfl, S2, n2, P2, hn2, hf2, hk2⟩
  have f2 := hf2.view
  have HF2 := hid hf2
  have HK2 := hid hk2
  have HN2 := hid hn2
  have HPU := hid (fun (W : World) (hW : W = w2.drew.alloc (.cells (madeCells #[.int .u8 0] 512) 5)) => show Calls Tryz.prog 84 #[ptrV pd, n64 x, .slice (some ⟨w2.heap.size, 0, none⟩) 512 512] W (fun e w' => e = .returned .nilIface ∧ ∃ S', Fw w' pf pd S' N i base T bc (n2 + 1) (upd P2 (x : Int) (some zeros512)) (updN c2 x zeros512) A0 size PF ∧ KpF S2 pf w2 S' w') by
    have hb : Below w2.heap.size w2 W := by rw [hW]; exact ((Below.refl _ _).drew).alloc (Nat.le_refl _) _
    have hy : By W (New w2.drew) (some ⟨w2.heap.size, 0, none⟩) zeros512 := by rw [hW]; exact made512_by w2.drew
    refine ((hf2.later hb).D.Put (by have := HN.out; omega) x HX.out.1 _ zeros512 zeros_len _ 512 hy).mono ?_
    rintro e w' ⟨rfl, S', hd', hk'⟩
    exact ⟨rfl, S', (hf2.later hb).kp hk' hd', (KpF.below hb).trans (.of_kp hk')⟩)
  have fA : (w2.drew.alloc (.cells (madeCells #[.int .u8 0] 512) 5)).cell? ⟨pf, 0, none⟩ = some (ptrV pd) := cell_later (w := w2) (((Below.refl _ _).drew).alloc (Nat.le_refl _) _) f2
  clear hf2 hk2 hn2 HPT
  go_wp2_with fail
  go_region_held3 (fun w' => w'.cell? ⟨pf, 0, none⟩ = some (ptrV pd)) ((first | exact f2 | exact fA | exact HS3.out)) ((first | (go_at_call 84; refine (HPU.out _ rfl).mono ?_; rintro e w3 ⟨rfl, S3, hf3, hk3⟩; have HS3 := hid hf3.view; have HF3 := hid hf3; have HK3 := hid hk3; clear hf3 hk3)))
  go_wp2
  go_ret
  rw [HCF.out]
  exact ⟨rfl, S3, n2 + 1, _, by have := HN2.out; omega, HF3.out, (KpF.of_kp HK1.out).trans (HK2.out.trans HK3.out)⟩
end Go.Proofs.YtaplmlldmhdhoaaGreatDoor

/- reach: find that takes a block for each hole on its way. -/
namespace Go.Proofs.YtaplmlldmhdhoaaGreatDoor
open Go.RowKit Go.Maps
set_option linter.unusedVariables false

theorem fillC_69 (c : Nat → List Int) (F : Nat → Bool) (x blk slot : Nat) (hx : x ≠ 69) (hb : blk ≠ 69) : fillC c F x blk slot 69 = bitB (flip1 F x) := by
  unfold fillC
  rw [updN_other _ _ (fun e => hx e.symm)]
  split
  · rw [updN_same]
  · rw [updN_other _ _ (fun e => hb e.symm), updN_same]
/-- How a block is reached: the state ahead and behind. -/
inductive Reach (k D N : Nat) : Nat → (Nat → List Int) → (Nat → Bool) → (Nat → Nat) → (Nat → List Int) → (Nat → Bool) → (Nat → Nat) → Nat → Prop
  | done {c : Nat → List Int} {F : Nat → Bool} {ptr : Nat → Nat} {a : Nat} : FindOk c ptr N k → findF c ptr k = .ok a → Reach k D N 0 c F ptr c F ptr a
  | fill {m : Nat} {c c' : Nat → List Int} {F F' : Nat → Bool} {ptr ptr' : Nat → Nat} {a blk slot nx x : Nat} : FindOk c ptr N k → findF c ptr k = .error (blk, slot, nx) → HoleOk blk slot N → LowF F D N x → Reach k D N m (fillC c F x blk slot) (flip1 F x) (fillP ptr x blk slot) c' F' ptr' a → Reach k D N (m + 1) c F ptr c' F' ptr' a
theorem exists_least {p : Nat → Prop} (h : ∃ m, p m) : ∃ m, p m ∧ ∀ j, p j → m ≤ j := by
  obtain ⟨m, hm⟩ := h
  induction m using Nat.strongRecOn with
  | _ m ih =>
    by_cases h2 : ∃ j, j < m ∧ p j
    · obtain ⟨j, hj, hp⟩ := h2
      exact ih j hj hp
    · exact ⟨m, hm, fun j hj => Nat.le_of_not_lt (fun hl => h2 ⟨j, hl, hj⟩)⟩
open Classical in
noncomputable def leastN (p : Nat → Prop) : Nat := if h : ∃ m, p m then Classical.choose (exists_least h) else 0
theorem leastN_le {p : Nat → Prop} {m : Nat} (h : p m) : leastN p ≤ m := by
  unfold leastN
  rw [dif_pos ⟨m, h⟩]
  exact (Classical.choose_spec (exists_least ⟨m, h⟩)).2 m h
theorem leastN_spec {p : Nat → Prop} (h : ∃ m, p m) : p (leastN p) := by
  unfold leastN
  rw [dif_pos h]
  exact (Classical.choose_spec (exists_least h)).1
variable {w w' : World} {pf pd n N : Nat} {S S' T : Nat → Prop} {i : Int} {base : Value} {P P' : Int → Option (List Int)} {bc c c' : Nat → List Int} {A0 : Array Value} {size : Int} {ptr : Nat → Nat}
theorem Gl.kpf (h : Gl w) (hk : KpF S pf w S' w') (hS : ¬ S 1) (hp : pf ≠ 1) : Gl w' := hk.2.cell h (fun e => by rcases e with e | e; exact hS e; exact hp e.symm)
theorem Gl.lt (h : Gl w) : 1 < w.heap.size := World.block_lt_of_cell? w _ h
theorem KpF.off0 (hk : KpF S pf w S' w') (hS : ¬ S 1) (hw : 1 < w.heap.size) : ¬ S' 1 := fun e => by rcases hk.1 1 e with h | h; exact hS h; omega
set_option maxRecDepth 100000 in
set_option maxHeartbeats 4000000 in
theorem reach_any (h : Fw w pf pd S N i base T bc n P c A0 size ptr) (hG : Gl w) (hS0 : ¬ S 1) (hp0 : pf ≠ 1) (D : Nat) (hD : planD N i = (D : Int)) (F : Nat → Bool) (hF : c 69 = bitB F) (k m : Nat) (hk : k < 100000000) (hn : n + 3 * m < 800000) (c' : Nat → List Int) (F' : Nat → Bool) (ptr' : Nat → Nat) (a : Nat) (hR : Reach k D N m c F ptr c' F' ptr' a) :
    Calls Tryz.prog 68 #[ptrV pf, n64 k] w fun e w' => e = .returned (.tuple #[n64 a, .nilIface]) ∧ ∃ S' n' P', n' ≤ n + 3 * m ∧ Fw w' pf pd S' N i base T bc n' P' c' A0 size ptr' ∧ c' 69 = bitB F' ∧ KpF S pf w S' w' := by
  obtain ⟨RR, hRR⟩ : ∃ RR : World → Nat → Prop, RR = fun wr m' => ∃ S1 n1 P1 c1 F1 ptr1, Fw wr pf pd S1 N i base T bc n1 P1 c1 A0 size ptr1 ∧ c1 69 = bitB F1 ∧ n1 + 3 * m' ≤ n + 3 * m ∧ KpF S pf w S1 wr ∧ Reach k D N m' c1 F1 ptr1 c' F' ptr' a := ⟨_, rfl⟩
  have HRR := hid hRR
  have H0 : Hid (RR w m) := hid (by rw [hRR]; exact ⟨S, n, P, c, F, ptr, h, hF, Nat.le_refl _, KpF.refl _ _ _, hR⟩)
  obtain ⟨_, _, hD8, hD70⟩ := planD_nat h.D.p
  have HD70 : Hid (70 ≤ D) := hid (by omega)
  have HG := hid (And.intro hG (And.intro hS0 hp0))
  have HDD := hid hD
  have HN := hid hn
  clear h hRR hR hF hG hS0 hp0 hD hn
  go_enter Tryz.func68, Tryz.ntmps68
  go_wp2_with fail
  go_loopw [6] (fun _ wr => ∃ m', RR wr m') (fun _ wr => leastN (RR wr))
  case atStart => exact ⟨m, H0.out⟩
  case round =>
    rename World => V
    have hl := leastN_spec hrel
    obtain ⟨M, hM⟩ : ∃ M, M = leastN (RR V) := ⟨_, rfl⟩
    rw [← hM] at hl
    have HM := hid hM
    rw [HRR.out] at hl
    obtain ⟨S1, n1, P1, c1, F1, ptr1, hf, hF1, hn1, hk1, hR1⟩ := hl
    have HF := hid hf
    have HK := hid hk1
    have HGV : Hid (Gl V) := hid (HG.out.1.kpf hk1 HG.out.2.1 HG.out.2.2)
    cases hR1 with
    | done ho hfind =>
      obtain ⟨A, h1, h2, h3⟩ := hf.A
      have HFI := find_any hf.D pf A size _ h1 h2 k hk ho
      rw [hfind] at HFI
      replace HFI := hid HFI
      have HF69 := hid hF1
      clear hM hrel hf hk1 h1 h2 h3 ho hfind hF1 H0
      go_wp2_with fail
      refine HFI.out.mono ?_
      rintro e w1 ⟨hfe, hb1⟩
      obtain rfl : e = .returned (.tuple #[n64 a, .nilIface]) := hfe
      obtain ⟨W2, hW2⟩ : ∃ W, W = w1.alloc (.cells #[.pointer none] 178) := ⟨_, rfl⟩
      have hb2 : Below w1.heap.size w1 W2 := by rw [hW2]; exact (Below.refl _ _).alloc (Nat.le_refl _) _
      have HB2 : Hid (Below V.heap.size V W2) := hid (hb1.trans (hb2.mono hb1.size))
      have HAS := hid (as_nil (.iface 179 (.pointer (some ⟨w1.heap.size, 0, none⟩))) W2)
      clear hb1 hb2 HFI
      go_wp2_with (first | (rw [← hW2]; clear hW2))
      refine HAS.out.mono ?_
      rintro e w3 ⟨rfl, hw3⟩
      rw [hw3]
      clear hw3 HAS
      go_wp2
      go_ret2
      exact ⟨rfl, S1, n1, P1, by omega, HF.out.later HB2.out, HF69.out, HK.out.trans (.below HB2.out)⟩
    | @fill m2 _ _ _ _ _ _ _ blk slot nx x ho hfind hho hx hR2 =>
      obtain ⟨A, h1, h2, h3⟩ := hf.A
      have HFI := find_any hf.D pf A size _ h1 h2 k hk ho
      rw [hfind] at HFI
      replace HFI := hid HFI
      have HF69 := hid hF1
      have HX := hid hx
      have HHO := hid hho
      have HR2 := hid hR2
      have HN1 := hid hn1
      clear hM hrel hf hk1 h1 h2 h3 ho hfind hF1 hx hho hR2 H0 hn1
      go_wp2_with fail
      refine HFI.out.mono ?_
      rintro e w1 ⟨hfe, hb1⟩
      obtain ⟨ph, rfl, hph, hlo⟩ := hfe
      obtain ⟨W2, hW2⟩ : ∃ W, W = w1.alloc (.cells #[.pointer none] 178) := ⟨_, rfl⟩
      have hb2 : Below w1.heap.size w1 W2 := by rw [hW2]; exact (Below.refl _ _).alloc (Nat.le_refl _) _
      have h2 : W2.heap[w1.heap.size]? = some (.cells #[.pointer none] 178 (0, 0)) := by rw [hW2]; exact alloc_new w1 _
      obtain ⟨t, ht⟩ : ∃ t, t = w1.heap.size := ⟨_, rfl⟩
      rw [← ht] at h2
      have hB2 : Below V.heap.size V W2 := hb1.trans (hb2.mono hb1.size)
      have HB2 := hid hB2
      have hphl := (Array.getElem?_eq_some_iff.1 hph).1
      have HPH : Hid (W2.heap[ph]? = some (.cells #[n64 2, n64 blk, n64 slot, n64 nx] 181 (0, 0)) ∧ V.heap.size ≤ ph ∧ ph ≠ t ∧ V.heap.size ≤ t) := hid ⟨(hb2.block ph hphl).trans hph, hlo, by omega, by rw [ht]; exact hb1.size⟩
      have HAS := hid (As_hole ph t (.pointer none) W2 (HGV.out.later hB2) (cell_of h2 rfl) (froz_of h2 0))
      have HT2 := hid h2
      have ht' := ht.symm
      clear hb1 hb2 HFI hph hlo hphl hB2 h2 ht
      go_wp2_with (first | (rw [← hW2]; clear hW2))
      clear ht'
      refine HAS.out.mono ?_
      rintro e w4 ⟨rfl, w3, hb3, hw4⟩
      have ht3 := (hb3.block t (Array.getElem?_eq_some_iff.1 HT2.out).1).trans HT2.out
      have t4 : w4.cell? ⟨t, 0, none⟩ = some (ptrV ph) := by rw [hw4]; exact cell_of (setc ht3 0 _) rfl
      have hB4 : Below V.heap.size V w4 := by rw [hw4]; exact (HB2.out.trans (hb3.mono HB2.out.size)).setCell HPH.out.2.2.2 _
      have hp4 : w4.heap[ph]? = some (.cells #[n64 2, n64 blk, n64 slot, n64 nx] 181 (0, 0)) := by
        rw [hw4, Below.heap_setCell _ _ _ _ (fun e => HPH.out.2.2.1 e)]
        exact (hb3.block ph (Array.getElem?_eq_some_iff.1 HPH.out.1).1).trans HPH.out.1
      have hx69 : x ≠ 69 := by have := HX.out.1; have := HD70.out; omega
      have hb69 : blk ≠ 69 := by rcases HHO.out with h | h <;> omega
      have HFL := hid (fill_any (HF.out.later hB4) (by have := HN.out; have := HN1.out; omega) D HDD.out F1 HF69.out x HX.out ph blk slot nx hp4 (fun e => by have := HF.out.D.s ph e; have := HPH.out.2.1; omega) (fun e => by have := HF.out.lt; have := HPH.out.2.1; omega) HHO.out)
      have HB4 := hid hB4
      have HC69 := hid (fillC_69 c1 F1 x blk slot hx69 hb69)
      clear hb3 hw4 ht3 hB4 hp4 hx69 hb69 HAS
      go_wp2_with fail
      refine HFL.out.mono ?_
      rintro e w5 ⟨rfl, S5, n5, P5, hn5, hf5, hk5⟩
      have HF5 := hid hf5
      have HK5 := hid hk5
      have HN5 := hid hn5
      clear hf5 hk5 hn5 HFL t4
      have HNEW : Hid (RR w5 m2) := hid (by
        rw [HRR.out]
        exact ⟨S5, n5, P5, _, _, _, HF5.out, HC69.out, by have := HN5.out; have := HN1.out; omega, HK.out.trans ((KpF.below HB4.out).trans HK5.out), HR2.out⟩)
      go_wp2
      go_roundw
      case rel => exact ⟨m2, HNEW.out⟩
      case measure =>
        have := leastN_le HNEW.out
        have := HM.out
        omega
end Go.Proofs.YtaplmlldmhdhoaaGreatDoor
