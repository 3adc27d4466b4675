/- The frame of a row: what the listed variable holds; what came in, opened. -/
import Derived.Test.YtgeecahpfjllgaaGreatDoorTie
import Derived.Test.YtgeecahpfjllgaaGreatDoorCards
import Derived.Test.YtgeecahpfjllgaaGreatDoorYkA
import Derived.WalkKit
import Derived.ProofKit
import Derived.OpenShut
import Derived.ChangeSame
import Derived.ChangeVars
import Derived.JoinedOf
import Derived.RowKit
import Derived.RowKitTokens
import Derived.LaidLaws
import Derived.LaidHandle
import Derived.Stop.Joined
import Derived.Below
import Derived.ChangeOld
import Derived.ChangeArms
import Derived.WideShapes
import Derived.Deep.Slices
namespace Go.Proofs.YtgeecahpfjllgaaGreatDoor
open Go.ChangeShapes Go.WideShapes Go.ChangeAt Go.RowKit Go.Deep
set_option linter.unusedVariables false

theorem own : ownKnob Tryz.prog.godebug = none := by kernel_rfl
theorem laidOut : laidOutB Tryz.prog = true := by kernel_rfl
theorem etG : Tryz.prog.globalNamed "errors.errorType" = some 0 := by kernel_rfl
theorem rtG : (Tryz.prog.cutTypes.find? (·.1 == "internal/reflectlite.rtype")).map (·.2) = some 133 := by kernel_rfl
theorem oneRowG : ((List.range (302 - 100)).filter fun t => Tryz.prog.rowNamed t [101, 114, 114, 111, 114]) = [46] := by kernel_rfl
theorem sizeG : Tryz.prog.types.size = 302 - 100 := by kernel_rfl
def laid1 : List (String × DataW Unit) := [("errors.errorType", Rows.laid_errors_errorType)]
/-- What the condition gives a walk. -/
theorem gl_of_laid {W : World} (h : laidMetH Tryz.prog laid1 W) : Gl W := by
  have h' : laidMet Tryz.prog [] W ∧ handlesMet Tryz.prog laid1 W := h
  obtain ⟨name, u, ty, e1, e2, e3, e4, e5⟩ := h'.2 _ (List.mem_singleton.2 rfl)
  have en : name = [101, 114, 114, 111, 114] := (Option.some.inj e1).symm
  subst en
  obtain rfl := Option.some.inj (rtG.symm.trans e2)
  have hm : ty ∈ (List.range (302 - 100)).filter fun t => Tryz.prog.rowNamed t [101, 114, 114, 111, 114] := List.mem_filter.2 ⟨List.mem_range.2 (by rw [← sizeG]; exact e3), e4⟩
  rw [oneRowG] at hm
  obtain rfl := List.mem_singleton.1 hm
  have hh : typeHandle Tryz.prog 46 = .pointer (some ⟨1, 46, none⟩) := by kernel_rfl
  rw [hh] at e5
  have := World.var?_cell etG e5 0
  unfold Gl
  simpa using this
/-- A world that meets the condition. -/
noncomputable def laidWorld (os : Os) : World :=
  let w0 := World.holding Tryz.prog os ⟨#[], #[], []⟩
  { w0 with heap := w0.heap.modify 0 fun
      | .cells _ t frozen => .cells #[.iface 133 (.agg #[.pointer (some ⟨1, 46, none⟩)])] t frozen
      | o => o }
theorem laidWorld_met (os : Os) (args : Array Value) : laidMetH Tryz.prog laid1 ((laidWorld os).forCall (fun _ _ => 0) ⟨#[], args, []⟩).memory :=
  laidMetH_of_parts (laidMet_nil _ _) (by kernel_rfl)
theorem u64_wf {x : Int} (h : (Lit.int .u64 x).wf = true) : 0 ≤ x ∧ x < 18446744073709551616 := by
  have h1 : IntKind.u64.min = 0 := rfl
  have h2 : IntKind.u64.max = 18446744073709551615 := rfl
  simp only [Lit.wf, Bool.and_eq_true, decide_eq_true_eq] at h
  omega
theorem i64_wf {x : Int} (h : (Lit.int .i64 x).wf = true) : -9223372036854775808 ≤ x ∧ x < 9223372036854775808 := by
  have h1 : IntKind.i64.min = -9223372036854775808 := rfl
  have h2 : IntKind.i64.max = 9223372036854775807 := rfl
  simp only [Lit.wf, Bool.and_eq_true, decide_eq_true_eq] at h
  omega
theorem cells3 : Tryz.prog.cellsOf 3 = 1 := by kernel_rfl
theorem cells5 : Tryz.prog.cellsOf 5 = 1 := by kernel_rfl
theorem cells32 : Tryz.prog.cellsOf 22 = 1 := by kernel_rfl
theorem cells22 : Tryz.prog.cellsOf 26 = 1 := by kernel_rfl
theorem cells25 : Tryz.prog.cellsOf 23 = 1 := by kernel_rfl
theorem cellsCr : Tryz.prog.cellsOf 25 = 3 := by kernel_rfl
theorem cellsCa : Tryz.prog.cellsOf 28 = 8 := by kernel_rfl
theorem trod_bytes {H : Type} {enc : TypeId × Value → H} {W : World} {base fuel : Nat} {sp : Nat → Bool} {held : Bool} {cs : List Value} {x : DataW H × List MemPlace}
    (h : DataW.trod enc Tryz.prog W base sp held fuel 26 cs = some x) : ∃ a cap l, cs = [.slice a l.length cap] ∧ Bytes W a l ∧ l.length ≤ maxLen ∧ l.length ≤ cap ∧ (a = none → cap = 0) := by
  rcases open_slice Tryz.underlying26 h with ⟨hcs, _⟩ | ⟨a, len, cap, m, n, D, Pl, hcs, _, hl, hm, hmm, _, hel⟩
  · exact ⟨none, 0, [], hcs, fun i hi => by simp at hi, by simp, by simp, fun _ => rfl⟩
  · rw [cells5] at hel
    have hlm : len ≤ m := by rw [hmm]; split <;> omega
    have hq : ∀ i, i < len → ∃ q : Int, W.cell? (a.add i) = some (.int .u8 q) ∧ IsB q := fun i hi => by
      obtain ⟨cs', h1, h2⟩ := hel i (by omega)
      obtain ⟨q, rfl, _, hw⟩ := DataW.trod_int Tryz.underlying5 h2
      rw [Nat.mul_one] at h1
      have := bounds_u8 hw
      exact ⟨q, cell_of_cells?_one h1, by unfold IsB; omega⟩
    obtain ⟨f, hf⟩ := choose_lt (α := Int) hq
    refine ⟨some a, cap, (List.range len).map f, by simpa using hcs, fun i hi => ?_, by simp; omega, by simp; omega, fun e => by cases e⟩
    have hi' : i < len := by simpa using hi
    obtain ⟨h1, h2⟩ := hf i hi'
    have hsp : a.spot = none := by simpa [Addr.add] using World.cell?_spot (hf 0 (by omega)).1
    obtain ⟨b, off, sp⟩ := a
    simp only at hsp
    subst hsp
    have e : ((List.range len).map f).getD i 0 = f i := by simp [List.getD, hi']
    rw [e]
    rw [add_addr] at h1
    exact ⟨b, off, rfl, h1, h2⟩
set_option maxRecDepth 100000 in
theorem open_bytes {H : Type} {enc : TypeId × Value → H} {W : World} {base : Nat} {v : Value} {d : DataW H} {p : List MemPlace} (hval : Value.okWide Tryz.prog W .any base 26 v) (h : DataW.Trod enc Tryz.prog W 0 (fun _ => true) true 26 v d p) :
    ∃ a cap l, v = .slice a l.length cap ∧ Bytes W a l ∧ (l.length ≤ maxLen ∧ l.length ≤ cap ∧ (a = none → cap = 0)) := by
  obtain ⟨a0, len0, cap0, rfl⟩ := okWide_slice Tryz.underlying26 hval
  obtain ⟨fuel, hf⟩ := h
  obtain ⟨a, cap, l, h1, h2, h3, h4, h5⟩ := trod_bytes hf
  exact ⟨a, cap, l, by simpa [Value.cells] using h1, h2, h3, h4, h5⟩
theorem take1 {α : Type} (l : List α) (off : Nat) (h : off < l.length) : (l.drop off).take 1 = [l[off]] := by
  rw [List.drop_eq_getElem_cons h]
  rfl
theorem pick_lt {α : Type} [Inhabited α] {n : Nat} {p : Nat → α → Prop} (h : ∀ i, i < n → ∃ x, p i x) : ∃ f : Nat → α, ∀ i, i < n → p i (f i) :=
  ⟨fun i => if hi : i < n then (h i hi).choose else default, fun i hi => by simp only [hi, dif_pos]; exact (h i hi).choose_spec⟩
section
variable {H : Type} {enc : TypeId × Value → H} {W : World}
theorem int_at {fuel : Nat} {t : TypeId} {k : IntKind} {l : List Value} {x : DataW H × List MemPlace} (off : Nat) (hu : Tryz.prog.underlying t = some (.int k)) (hc : Tryz.prog.cellsOf t = 1) (hl : off < l.length)
    (h : DataW.trod enc Tryz.prog W 0 (fun _ => true) true fuel t ((l.drop off).take (Tryz.prog.cellsOf t)) = some x) : ∃ n, l[off]? = some (.int k n) ∧ (Lit.int k n).wf = true := by
  rw [hc, take1 l off hl] at h
  obtain ⟨n, e, _, hw⟩ := DataW.trod_int hu h
  injection e with e1 _
  exact ⟨n, by rw [List.getElem?_eq_getElem hl, e1], hw⟩
theorem bytes_at {fuel : Nat} {l : List Value} {x : DataW H × List MemPlace} (off : Nat) (hl : off < l.length)
    (h : DataW.trod enc Tryz.prog W 0 (fun _ => true) true fuel 26 ((l.drop off).take (Tryz.prog.cellsOf 26)) = some x) : ∃ a n c body, l[off]? = some (.slice a n c) ∧ body.length = n ∧ Bytes W a body ∧ n ≤ maxLen ∧ n ≤ c := by
  rw [cells22, take1 l off hl] at h
  obtain ⟨a, cap, body, e, h1, h2, h3, _⟩ := trod_bytes h
  injection e with e1 _
  exact ⟨a, body.length, cap, body, by rw [List.getElem?_eq_getElem hl, e1], rfl, h1, h2, h3⟩
end
theorem trod_u32s {H : Type} {enc : TypeId × Value → H} {W : World} {fuel : Nat} {cs : List Value} {x : DataW H × List MemPlace}
    (h : DataW.trod enc Tryz.prog W 0 (fun _ => true) true fuel 23 cs = some x) : ∃ a cap l, cs = [.slice a l.length cap] ∧ U32s W a l ∧ l.length ≤ maxLen ∧ l.length ≤ cap := by
  rcases open_slice Tryz.underlying23 h with ⟨hcs, _⟩ | ⟨a, len, cap, m, n, D, Pl, hcs, _, hl, hm, hmm, _, hel⟩
  · exact ⟨none, 0, [], hcs, fun i hi => by simp at hi, by simp, by simp⟩
  · rw [cells32] at hel
    have hlm : len ≤ m := by rw [hmm]; split <;> omega
    have hq : ∀ i, i < len → ∃ q : Int, W.cell? (a.add i) = some (.int .u32 q) ∧ IsU q := fun i hi => by
      obtain ⟨cs', h1, h2⟩ := hel i (by omega)
      obtain ⟨q, rfl, _, hw⟩ := DataW.trod_int Tryz.underlying22 h2
      rw [Nat.mul_one] at h1
      have := bounds_u32 hw
      exact ⟨q, cell_of_cells?_one h1, by unfold IsU; omega⟩
    obtain ⟨f, hf2⟩ := pick_lt hq
    have hsp : 0 < len → a.spot = none := fun h0 => by simpa [Addr.add] using World.cell?_spot (hf2 0 h0).1
    refine ⟨some a, cap, (List.range len).map f, by simpa using hcs, fun i hi => ?_, by simp; omega, by simp; omega⟩
    have hi' : i < len := by simpa using hi
    have e : ((List.range len).map f).getD i 0 = f i := by simp [List.getD, hi']
    rw [e]
    obtain ⟨h1, h2⟩ := hf2 i hi'
    have hs := hsp (by omega)
    obtain ⟨b, off, sp⟩ := a
    simp only at hs
    subst hs
    rw [add_addr] at h1
    exact ⟨b, off, rfl, h1, h2⟩
section
variable {H : Type} {enc : TypeId × Value → H} {W : World}
theorem u32s_at {fuel : Nat} {l : List Value} {x : DataW H × List MemPlace} (off : Nat) (hl : off < l.length)
    (h : DataW.trod enc Tryz.prog W 0 (fun _ => true) true fuel 23 ((l.drop off).take (Tryz.prog.cellsOf 23)) = some x) : ∃ a n c gs, l[off]? = some (.slice a n c) ∧ gs.length = n ∧ U32s W a gs ∧ n ≤ maxLen ∧ n ≤ c := by
  rw [cells25, take1 l off hl] at h
  obtain ⟨a, cap, gs, e, h1, h2, h3⟩ := trod_u32s h
  injection e with e1 _
  exact ⟨a, gs.length, cap, gs, by rw [List.getElem?_eq_getElem hl, e1], rfl, h1, h2, h3⟩
/-- Credentials in memory. -/
structure CrV (W : World) (u g : Int) (a : Option Addr) (n c : Nat) (gs : List Int) : Prop where
  hu : IsU u
  hg : IsU g
  hn : gs.length = n
  hs : U32s W a gs
  hm : n ≤ maxLen
  hc : n ≤ c
theorem isU_wf {n : Int} (h : (Lit.int .u32 n).wf = true) : IsU n := by have := bounds_u32 h; unfold IsU; omega
set_option maxRecDepth 100000 in
theorem cred_at {fuel : Nat} {l : List Value} {x : DataW H × List MemPlace} (off : Nat) (hl : off + 3 ≤ l.length)
    (h : DataW.trod enc Tryz.prog W 0 (fun _ => true) true fuel 25 ((l.drop off).take (Tryz.prog.cellsOf 25)) = some x) :
    ∃ u g a n c gs, (∀ j, j < 3 → l[off + j]? = (crC u g a n c)[j]?) ∧ CrV W u g a n c gs := by
  rw [cellsCr] at h
  have hll : ((l.drop off).take 3).length = 3 := by rw [List.length_take, List.length_drop]; omega
  have hget : ∀ j, j < 3 → ((l.drop off).take 3)[j]? = l[off + j]? := fun j hj => by rw [List.getElem?_take, if_pos hj, List.getElem?_drop]
  obtain ⟨xs, nf, _, _, _, hxl, hfl⟩ := DataW.trod_struct Tryz.underlying25 h
  have hx : xs.length = 3 := hxl
  have get : ∀ j, j < 3 → ∃ y, xs[j]? = some y := fun j hj => ⟨_, List.getElem?_eq_getElem (by omega)⟩
  obtain ⟨y0, g0⟩ := get 0 (by omega)
  obtain ⟨y1, g1⟩ := get 1 (by omega)
  obtain ⟨y2, g2⟩ := get 2 (by omega)
  obtain ⟨u, e0, w0⟩ := int_at (k := .u32) 0 (by kernel_rfl) (by kernel_rfl) (by rw [hll]; omega) ((hfl 0 _ rfl).trans g0)
  obtain ⟨g, e1, w1⟩ := int_at (k := .u32) 1 (by kernel_rfl) (by kernel_rfl) (by rw [hll]; omega) ((hfl 1 _ rfl).trans g1)
  obtain ⟨a, n, c, gs, e2, hbl, hbb, hbm, hbc⟩ := u32s_at 2 (by rw [hll]; omega) ((hfl 2 _ rfl).trans g2)
  refine ⟨u, g, a, n, c, gs, fun j hj => ?_, ⟨isU_wf w0, isU_wf w1, hbl, hbb, hbm, hbc⟩⟩
  rw [← hget j hj]
  rcases (show j = 0 ∨ j = 1 ∨ j = 2 by omega) with rfl | rfl | rfl
  · exact e0
  · exact e1
  · exact e2
set_option maxRecDepth 100000 in
theorem open_cred {base : Nat} {v : Value} {d : DataW H} {p : List MemPlace} (hval : Value.okWide Tryz.prog W .any base 25 v) (h : DataW.Trod enc Tryz.prog W 0 (fun _ => true) true 25 v d p) :
    ∃ u g a n c gs, v = .agg (crC u g a n c) ∧ CrV W u g a n c gs := by
  obtain ⟨cs, rfl, hsz⟩ := okWide_struct Tryz.underlying25 hval
  obtain ⟨fuel, hf⟩ := h
  rw [show (Value.agg cs).cells = cs from rfl] at hf
  rw [cellsCr] at hsz
  have hlen : cs.toList.length = 3 := by rw [Array.length_toList]; exact hsz
  obtain ⟨u, g, a, n, c, gs, he, r⟩ := cred_at (W := W) (enc := enc) (l := cs.toList) 0 (by omega) (by rw [cellsCr, List.drop_zero, List.take_of_length_le (by omega)]; exact hf)
  refine ⟨u, g, a, n, c, gs, ?_, r⟩
  congr 1
  apply Array.ext_getElem?
  intro j
  by_cases hi : j < 3
  · have := he j hi
    rw [Nat.zero_add, Array.getElem?_toList] at this
    exact this
  · rw [Array.getElem?_eq_none (by omega), Array.getElem?_eq_none (by show 3 ≤ j; omega)]
/-- A call in memory. -/
structure CaV (W : World) (C : Ca) (ag : Option Addr) (ng cg : Nat) (ab : Option Addr) (nb cb : Nat) : Prop where
  ok : C.ok
  hng : C.cr.gids.length = ng
  hgs : U32s W ag C.cr.gids
  hgm : ng ≤ maxLen
  hgc : ng ≤ cg
  hnb : C.body.length = nb
  hb : Bytes W ab C.body
  hbm : nb ≤ maxLen
  hbc : nb ≤ cb
abbrev caV (C : Ca) (ag : Option Addr) (ng cg : Nat) (ab : Option Addr) (nb cb : Nat) : Array Value := caC C.xid C.prog C.vers C.proc C.cr.uid C.cr.gid (.slice ag ng cg) (.slice ab nb cb)
set_option maxRecDepth 100000 in
theorem open_rcall {base : Nat} {v : Value} {d : DataW H} {p : List MemPlace} (hval : Value.okWide Tryz.prog W .any base 28 v) (h : DataW.Trod enc Tryz.prog W 0 (fun _ => true) true 28 v d p) :
    ∃ C ag ng cg ab nb cb, v = .agg (caV C ag ng cg ab nb cb) ∧ CaV W C ag ng cg ab nb cb := by
  obtain ⟨cs, rfl, hsz⟩ := okWide_struct Tryz.underlying28 hval
  obtain ⟨fuel, hf⟩ := h
  rw [show (Value.agg cs).cells = cs from rfl] at hf
  rw [cellsCa] at hsz
  obtain ⟨l, hl⟩ : ∃ l, l = cs.toList := ⟨_, rfl⟩
  have hlen : l.length = 8 := by rw [hl, Array.length_toList]; exact hsz
  rw [← hl] at hf
  obtain ⟨xs, nf, _, _, _, hxl, hfl⟩ := DataW.trod_struct Tryz.underlying28 hf
  have hx : xs.length = 6 := hxl
  have get : ∀ j, j < 6 → ∃ y, xs[j]? = some y := fun j hj => ⟨_, List.getElem?_eq_getElem (by omega)⟩
  obtain ⟨y0, g0⟩ := get 0 (by omega)
  obtain ⟨y1, g1⟩ := get 1 (by omega)
  obtain ⟨y2, g2⟩ := get 2 (by omega)
  obtain ⟨y3, g3⟩ := get 3 (by omega)
  obtain ⟨y4, g4⟩ := get 4 (by omega)
  obtain ⟨y5, g5⟩ := get 5 (by omega)
  obtain ⟨x, e0, w0⟩ := int_at (k := .u32) 0 (by kernel_rfl) (by kernel_rfl) (by omega) ((hfl 0 _ rfl).trans g0)
  obtain ⟨pr, e1, w1⟩ := int_at (k := .u32) 1 (by kernel_rfl) (by kernel_rfl) (by omega) ((hfl 1 _ rfl).trans g1)
  obtain ⟨vv, e2, w2⟩ := int_at (k := .u32) 2 (by kernel_rfl) (by kernel_rfl) (by omega) ((hfl 2 _ rfl).trans g2)
  obtain ⟨k, e3, w3⟩ := int_at (k := .u32) 3 (by kernel_rfl) (by kernel_rfl) (by omega) ((hfl 3 _ rfl).trans g3)
  obtain ⟨u, g, ag, ng, cg, gs, hc, hcr⟩ := cred_at 4 (by omega) ((hfl 4 _ rfl).trans g4)
  obtain ⟨ab, nb, cb, body, e7, hbl, hbb, hbm, hbc⟩ := bytes_at 7 (by omega) ((hfl 5 _ rfl).trans g5)
  refine ⟨⟨x, pr, vv, k, ⟨u, g, gs⟩, body⟩, ag, ng, cg, ab, nb, cb, ?_, ⟨⟨isU_wf w0, isU_wf w1, isU_wf w2, isU_wf w3, hcr.hu, hcr.hg, hcr.hs.isU⟩, hcr.hn, hcr.hs, hcr.hm, hcr.hc, hbl, hbb, hbm, hbc⟩⟩
  congr 1
  apply Array.ext_getElem?
  intro j
  rw [← Array.getElem?_toList, ← hl]
  by_cases hi : j < 8
  · rcases (show j = 0 ∨ j = 1 ∨ j = 2 ∨ j = 3 ∨ j = 4 ∨ j = 5 ∨ j = 6 ∨ j = 7 by omega) with rfl | rfl | rfl | rfl | rfl | rfl | rfl | rfl
    · exact e0
    · exact e1
    · exact e2
    · exact e3
    · exact hc 0 (by omega)
    · exact hc 1 (by omega)
    · exact hc 2 (by omega)
    · exact e7
  · rw [List.getElem?_eq_none (by omega), Array.getElem?_eq_none (by show 8 ≤ j; omega)]
end
end Go.Proofs.YtgeecahpfjllgaaGreatDoor
