/- The law's own: numbers in bounds, a block of bytes; the chapter's example. -/
import Derived.Test.YtdfnfcimajomeaaCcJ
namespace Go.Proofs.Ytdfnfcimajomeaa
open Go.RowKit Go.Maps

def wi (at_ n : Int) : Int := if at_.tmod n < 0 then at_.tmod n + n else at_.tmod n
theorem wi_bd (at_ n : Int) (h : 0 < n) : 0 ≤ wi at_ n ∧ wi at_ n < n := by
  unfold wi
  have h1 := Int.tmod_lt_of_pos at_ h
  have h2 : -n < at_.tmod n := by
    rcases Int.lt_or_le at_ 0 with h3 | h3
    · have h4 := Int.neg_tmod (-at_) n
      rw [Int.neg_neg] at h4
      rw [h4]
      have := Int.tmod_lt_of_pos (-at_) h
      omega
    · have := Int.tmod_nonneg n h3
      omega
  split <;> omega
theorem wrap_wi {x n : Int} (h0 : 0 < n) (hn : n < 1099511627776) (h : x.tmod n < 0) : IntKind.i64.wrap (x.tmod n + n) = x.tmod n + n := by
  have h1 := wi_bd x n h0
  unfold wi at h1
  rw [if_pos h] at h1
  exact IntWalk.i64_in _ (by omega)
set_option maxHeartbeats 400000 in
theorem within_any (x n : Int) (h0 : 0 < n) (hn : n < 1099511627776) (w : World) : Calls Try.prog 16 #[.int .i64 x, .int .i64 n] w fun e w' => e = .returned (.int .i64 (wi x n)) ∧ w' = w := by
  have hne : ¬ (n = 0) := by omega
  have hne' : n ≠ 0 := by omega
  by_cases h : x.tmod n < 0
  · have hw := wrap_wi h0 hn h
    have e : wi x n = x.tmod n + n := by unfold wi; rw [if_pos h]
    rw [e]
    go_enter Try.func16, Try.ntmps16
    go_wp2
    go_ret
    exact ⟨rfl, rfl⟩
  · have e : wi x n = x.tmod n := by unfold wi; rw [if_neg h]
    rw [e]
    go_enter Try.func16, Try.ntmps16
    go_wp2
    go_ret
    exact ⟨rfl, rfl⟩

/-- A block of bytes of the law's own. -/
structure Bk (w0 w : World) (S : Nat → Prop) (g : Nat) (d : List Int) : Prop where
  hh : w.heap[g]? = some (.cells (u8s d).toArray 5 (0, 0))
  off : ¬ S g
  low : w0.heap.size ≤ g
  len : d.length = 512
/-- A cache, and what lay there before the law is as it was. -/
structure Hv (w0 w : World) (p : Nat) (S : Nat → Prop) (A : Cs) (m : Nat) : Prop where
  ca : Ca w p S A m
  bel : Below w0.heap.size w0 w
  low : ∀ b, S b → w0.heap.size ≤ b
section
variable {w0 w w' : World} {p m g : Nat} {S S' : Nat → Prop} {A A' : Cs} {d : List Int}
theorem Bk.lt (h : Bk w0 w S g d) : g < w.heap.size := (Array.getElem?_eq_some_iff.1 h.hh).1
theorem Bk.keep (h : Bk w0 w S g d) (hk : Kp S w S' w') : Bk w0 w' S' g d := ⟨(hk.block h.lt h.off).trans h.hh, hk.off h.lt h.off, h.low, h.len⟩
theorem Bk.mods (h : Bk w0 w S g d) {P : Nat → Prop} (hm : Mods P w w') (hn : ¬ P g) : Bk w0 w' S g d := ⟨(hm.block g h.lt hn).trans h.hh, h.off, h.low, h.len⟩
theorem Bk.dat (h : Bk w0 w S g d) : Dat w S (.slice (some ⟨g, 0, none⟩) 512 512) d := ⟨some ⟨g, 0, none⟩, 512, by rw [h.len], fun _ => ⟨g, 0, rfl, fun j v hj => by
  rw [add_addr, Nat.zero_add]
  exact cell_of h.hh (by rw [List.getElem?_toArray]; exact hj), h.off, h.lt⟩⟩
theorem Hv.step (h : Hv w0 w p S A m) {m' : Nat} (hc : Ca w' p S' A' m') (hk : Kp S w S' w') : Hv w0 w' p S' A' m' := ⟨hc, (hk.below0 h.bel h.low).1, (hk.below0 h.bel h.low).2⟩
theorem Hv.below (h : Hv w0 w p S A m) (hb : Below w.heap.size w w') : Hv w0 w' p S A m := h.step (h.ca.below hb) (Kp.below hb)
theorem Hv.outside (h : Hv w0 w p S A m) {P : Nat → Prop} (hm : Mods P w w') (hP : ∀ b, P b → ¬ S b) (hl : ∀ b, P b → w0.heap.size ≤ b) : Hv w0 w' p S A m := ⟨h.ca.outside hm hP, hm.to_below h.bel h.bel.size hl, h.low⟩
theorem Hv.more (h : Hv w0 w p S A m) {m' : Nat} (hm : m ≤ m') : Hv w0 w p S A m' := ⟨h.ca.more hm, h.bel, h.low⟩
theorem Hv.fill (h : Hv w0 w p S A m) (hb : Bk w0 w S g d) (k : Int) (hk : IsI k) (hm : m < 1000000000) :
    Calls Try.prog 17 #[pv p, .int .i64 k, .slice (some ⟨g, 0, none⟩) 512 512] w fun e w' => e = .returned (.int .i64 (fillR A k 512)) ∧ ∃ S', Hv w0 w' p S' (fillS A k d) (m + 1) ∧ Bk w0 w' S' g d ∧ Kp S w S' w' := by
  have := Fill_any h.ca k hk _ d hb.dat hm
  rw [hb.len] at this
  exact this.mono (fun e w' ⟨h1, S', h2, h3⟩ => ⟨h1, S', h.step h2 h3, hb.keep h3, h3⟩)
theorem Hv.put (h : Hv w0 w p S A m) (hb : Bk w0 w S g d) (k : Int) (hk : IsI k) (hm : m < 1000000000) :
    Calls Try.prog 19 #[pv p, .int .i64 k, .slice (some ⟨g, 0, none⟩) 512 512] w fun e w' => e = .returned (.int .i64 (putR A k 512)) ∧ ∃ S', Hv w0 w' p S' (putS A k d) (m + 1) ∧ Bk w0 w' S' g d ∧ Kp S w S' w' := by
  have := Put_any h.ca k hk _ d hb.dat hm
  rw [hb.len] at this
  exact this.mono (fun e w' ⟨h1, S', h2, h3⟩ => ⟨h1, S', h.step h2 h3, hb.keep h3, h3⟩)
end
/-- A block of noughts is made. -/
theorem made_bk (w : World) : (w.alloc (.cells (madeCells #[.int .u8 0] 512) 5)).heap[w.heap.size]? = some (.cells (u8s z512).toArray 5 (0, 0)) := by
  rw [alloc_new]
  have e : madeCells #[Value.int .u8 0] 512 = (u8s z512).toArray := by
    apply Array.ext'
    rw [toList_madeCells_one]
    show _ = List.map (fun x => Value.int .u8 x) (List.replicate 512 0)
    rw [List.map_replicate]
  rw [e]
theorem Hv.made {w0 w : World} {p m : Nat} {S : Nat → Prop} {A : Cs} (h : Hv w0 w p S A m) : ∃ d, Bk w0 (w.alloc (.cells (madeCells #[.int .u8 0] 512) 5)) S w.heap.size d ∧ Hv w0 (w.alloc (.cells (madeCells #[.int .u8 0] 512) 5)) p S A m :=
  ⟨z512, ⟨made_bk w, fun e => by have := h.ca.lt _ e; omega, h.bel.size, List.length_replicate⟩, h.below ((Below.refl _ _).alloc (Nat.le_refl _) _)⟩
theorem make512 (w : World) : (Instr.makeSlice 40 (.int .i64 512) (.int .i64 512)).run Try.prog w = .ok (.slice (some ⟨w.heap.size, 0, none⟩) 512 512) (w.alloc (.cells (madeCells #[.int .u8 0] 512) 5)) :=
  run_make_row' (P := Try.prog) 40 5 (.int .u8 0) 1 Try.underlying40 info5 rfl .i64 .i64 512 (by omega) (by omega) w
/-! ### pure steps -/
theorem badR_ok {k : Int} (h : 0 ≤ k) : badR k 512 = 0 := by unfold badR; rw [if_neg (by omega), if_pos rfl]
theorem fill_ok {A A1 : Cs} {k : Int} (h0 : 0 ≤ k) (hm : k ∉ nums A.row) (hr : A.room = some A1) (d : List Int) (hd : d.length = 512) : fillR A k 512 = 0 ∧ fillS A k d = A1.add ⟨k, d, false, 0⟩ := by
  have h1 : fillR A k 512 = 0 := by unfold fillR; rw [if_pos (badR_ok h0), if_neg hm, hr, if_neg (by simp)]
  refine ⟨h1, ?_⟩
  unfold fillS
  rw [hd, if_pos h1, hr]
  rfl
theorem fill_full {A : Cs} {k : Int} (h0 : 0 ≤ k) (hm : k ∉ nums A.row) (hr : A.room = none) (d : List Int) (hd : d.length = 512) : fillR A k 512 = 7 ∧ fillS A k d = A := by
  have h1 : fillR A k 512 = 7 := by unfold fillR; rw [if_pos (badR_ok h0), if_neg hm, hr, if_pos rfl]
  refine ⟨h1, ?_⟩
  unfold fillS
  rw [hd, h1, if_neg (by omega)]
theorem put_new {A A1 : Cs} {k : Int} (h0 : 0 ≤ k) (hm : k ∉ nums A.row) (hr : A.room = some A1) (d : List Int) (hd : d.length = 512) : putR A k 512 = 0 ∧ putS A k d = A1.add ⟨k, d, true, 0⟩ := by
  have h1 : putR A k 512 = 0 := by unfold putR; rw [if_pos (badR_ok h0), if_neg hm, hr, if_neg (by simp)]
  refine ⟨h1, ?_⟩
  unfold putS
  rw [hd, if_pos h1, hr, if_neg hm]
  rfl
theorem put_full {A : Cs} {k : Int} (h0 : 0 ≤ k) (hm : k ∉ nums A.row) (hr : A.room = none) (d : List Int) (hd : d.length = 512) : putR A k 512 = 7 ∧ putS A k d = A := by
  have h1 : putR A k 512 = 7 := by unfold putR; rw [if_pos (badR_ok h0), if_neg hm, hr, if_pos rfl]
  refine ⟨h1, ?_⟩
  unfold putS
  rw [hd, h1, if_neg (by omega)]
def e1 (k : Int) (d : List Int) : Ec := ⟨k, d, false, 0⟩
set_option maxRecDepth 100000 in
set_option maxHeartbeats 2000000 in
theorem known_any (w : World) : Calls Try.prog 7 #[] w fun e w' => e = .returned (.bool true) ∧ Below w.heap.size w w' := by
  have hmk := make512
  have i1 : IsI 1 := isI_of (by omega) (by omega)
  have i2 : IsI 2 := isI_of (by omega) (by omega)
  have i3 : IsI 3 := isI_of (by omega) (by omega)
  have HF1 : Hid (∀ d : List Int, d.length = 512 → fillR ⟨2, []⟩ 1 512 = 0 ∧ fillS ⟨2, []⟩ 1 d = ⟨2, [e1 1 d]⟩) := hid (fun d hd => fill_ok (A := ⟨2, []⟩) (A1 := ⟨2, []⟩) (k := 1) (by omega) (by simp [nums]) rfl d hd)
  have HF2 : Hid (∀ d : List Int, d.length = 512 → fillR ⟨2, [e1 1 d]⟩ 2 512 = 0 ∧ fillS ⟨2, [e1 1 d]⟩ 2 d = ⟨2, [e1 1 d, e1 2 d]⟩) := hid (fun d hd => fill_ok (A := ⟨2, [e1 1 d]⟩) (A1 := ⟨2, [e1 1 d]⟩) (k := 2) (by omega) (by simp [nums, e1]) rfl d hd)
  have HF3 : Hid (∀ d : List Int, d.length = 512 → fillR ⟨2, [e1 2 d, e1 1 d]⟩ 3 512 = 0 ∧ fillS ⟨2, [e1 2 d, e1 1 d]⟩ 3 d = ⟨2, [e1 1 d, e1 3 d]⟩) := hid (fun d hd => fill_ok (A := ⟨2, [e1 2 d, e1 1 d]⟩) (A1 := ⟨2, [e1 1 d]⟩) (k := 3) (by omega) (by simp [nums, e1]) (by simp [Cs.room, may, Cs.cut, wo, e1]) d hd)
  have HU : Hid (∀ d : List Int, (Cs.mk 2 [e1 1 d, e1 2 d]).use 1 = ⟨2, [e1 2 d, e1 1 d]⟩ ∧ (1 : Int) ∈ nums (Cs.mk 2 [e1 1 d, e1 2 d]).row ∧ (2 : Int) ∉ nums (Cs.mk 2 [e1 1 d, e1 3 d]).row) := hid (fun d => ⟨by simp [Cs.use, Cs.at, atL, wo, e1], by simp [nums, e1], by simp [nums, e1]⟩)
  have HN := hid (New_ok w 2 (by omega) (by omega))
  rw [show ((2 : Nat) : Int) = 2 from rfl] at HN
  go_enter Try.func7, Try.ntmps7
  go_wp2_with fail
  refine HN.out.mono ?_
  rintro e w1 ⟨p, S, rfl, hc, hb, hl⟩
  obtain ⟨d, hbk, hv⟩ := (⟨hc, hb, hl⟩ : Hv w w1 p S ⟨2, []⟩ 0).made
  have HBK := hid hbk
  have HV := hid hv
  have HL := hid hbk.len
  clear hc hb hl hbk hv
  go_wp2_with fail
  refine (HV.out.fill HBK.out 1 i1 (by omega)).mono ?_
  rintro e w2 ⟨rfl, S2, h2, hb2, _⟩
  rw [(HF1.out d HL.out).2] at h2
  rw [(HF1.out d HL.out).1]
  have HV2 := hid h2
  have HB2 := hid hb2
  clear h2 hb2
  go_wp2_with fail
  refine (HV2.out.fill HB2.out 2 i2 (by omega)).mono ?_
  rintro e w3 ⟨rfl, S3, h3, hb3, _⟩
  rw [(HF2.out d HL.out).2] at h3
  rw [(HF2.out d HL.out).1]
  have HV3 := hid h3
  have HB3 := hid hb3
  clear h3 hb3
  go_wp2_with fail
  refine (Get_has HV3.out.ca 1 i1 (HU.out d).2.1).mono ?_
  rintro e w4 ⟨v4, S4, rfl, h4, hk4, _⟩
  rw [(HU.out d).1] at h4
  have HV4 := hid (HV3.out.step h4 hk4)
  have HB4 := hid (HB3.out.keep hk4)
  clear h4 hk4
  go_wp2_with fail
  refine (HV4.out.fill HB4.out 3 i3 (by omega)).mono ?_
  rintro e w5 ⟨rfl, S5, h5, hb5, _⟩
  rw [(HF3.out d HL.out).2] at h5
  rw [(HF3.out d HL.out).1]
  have HV5 := hid h5
  clear h5 hb5
  go_wp2_with fail
  refine (Get_no HV5.out.ca 2 i2 (HU.out d).2.2).mono ?_
  rintro e w6 ⟨rfl, hw6⟩
  rw [hw6]
  clear hw6
  have HHE := hid (Held_any HV5.out.ca)
  simp only [List.length_cons, List.length_nil] at HHE
  go_wp2_with fail
  refine HHE.out.mono ?_
  rintro e w7 ⟨v7, rfl, h7, hb7⟩
  obtain ⟨a7, c7, e7⟩ := owns_slice h7
  subst e7
  have HB7 := hid (HV5.out.bel.trans (hb7.mono HV5.out.bel.size))
  clear h7 hb7
  go_wp2_with fail
  go_ret
  exact ⟨rfl, HB7.out⟩
end Go.Proofs.Ytdfnfcimajomeaa
