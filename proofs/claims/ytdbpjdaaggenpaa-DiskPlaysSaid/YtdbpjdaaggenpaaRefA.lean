/- The document's own disk, as the statements hold it: what it is in memory. -/
import Derived.Test.YtdbpjdaaggenpaaKeepsM
namespace Go.Proofs.Ytdbpjdaaggenpaa
open Go.RowKit

def plat (A : Abs) (k : Int) : List Int := (A.P k).getD zeros

/-- One of its blocks. -/
structure REnt where
  at_ : Int
  ad : Nat
  sv : Value
  vv : Value

/-- The document's disk: a list of blocks that were written once. -/
structure RDiskAt (w : World) (px : Nat) (vL : Value) (es : List REnt) (A : Abs) (al : Nat → Prop) : Prop where
  lt : ∀ b, al b → b < w.heap.size
  box : w.heap[px]? = some (.cells #[.int .i64 A.N, vL] 37 (0, 0))
  apx : al px
  row : w.ownsRow 0 69 1 vL es.length (es.map fun e => Value.pointer (some ⟨e.ad, 0, none⟩))
  aL : ∀ g, vL.ownBlock = some g → al g
  ent : ∀ e ∈ es, w.heap[e.ad]? = some (.cells #[.int .i64 e.at_, e.sv, e.vv] 73 (0, 0)) ∧ al e.ad ∧ Row w al e.sv (plat A e.at_) ∧ Rows2 w al e.vv (A.V e.at_) ∧ IsI e.at_
  apart : es.Pairwise (fun e f => e.at_ ≠ f.at_ ∧ e.ad ≠ f.ad ∧ ∀ g, e.vv.ownBlock = some g → f.vv.ownBlock ≠ some g)
  none_ : ∀ k, (∀ e ∈ es, e.at_ ≠ k) → A.P k = none ∧ A.V k = []
  hN : 1 ≤ A.N ∧ A.N ≤ 65536
  vN : ∀ k, A.V k ≠ [] → 0 ≤ k ∧ k < A.N

theorem RDiskAt.keep {w w' : World} {px : Nat} {vL : Value} {es : List REnt} {A : Abs} {al : Nat → Prop} (h : RDiskAt w px vL es A al) (hs : w.heap.size ≤ w'.heap.size) (hk : ∀ b, al b → w'.heap[b]? = w.heap[b]?) : RDiskAt w' px vL es A al where
  lt := fun b hb => Nat.lt_of_lt_of_le (h.lt b hb) hs
  box := (hk _ h.apx).trans h.box
  apx := h.apx
  row := owns_keep h.row (fun g hg => hk g (h.aL g hg))
  aL := h.aL
  ent := fun e he => by
    obtain ⟨h1, h2, h3, h4, h5⟩ := h.ent e he
    exact ⟨(hk _ h2).trans h1, h2, h3.keep (fun g _ hg _ => hk g hg) (fun _ hg => hg), h4.keep (fun g _ hg _ => hk g hg) (fun g hg => hk g (let ⟨_, _, _, _, h6⟩ := h4; h6 g hg)) (fun _ hg => hg), h5⟩
  apart := h.apart
  none_ := h.none_
  hN := h.hN
  vN := h.vN

theorem ptr_cell {w : World} {vL : Value} {es : List REnt} (h : w.ownsRow 0 69 1 vL es.length (es.map fun e => Value.pointer (some ⟨e.ad, 0, none⟩))) :
    ∃ a cap, vL = .slice a es.length cap ∧ ∀ i, (hi : i < es.length) → ∃ b off, a = some ⟨b, off, none⟩ ∧ w.cell? ⟨b, off + i, none⟩ = some (.pointer (some ⟨es[i].ad, 0, none⟩)) := by
  rcases h.2 with ⟨rfl, h0⟩ | ⟨g, cap, cur, rfl, _, hh, hc1, _, hcs, ht⟩
  · exact ⟨none, 0, by rw [h0], fun i hi => by omega⟩
  · refine ⟨_, cap, rfl, fun i hi => ⟨g, 0, rfl, ?_⟩⟩
    have : cur[i]? = some (.pointer (some ⟨es[i].ad, 0, none⟩)) := by
      have e : (cur.toList.take (es.length * 1))[i]? = (es.map fun e => Value.pointer (some ⟨e.ad, 0, none⟩))[i]? := by rw [ht]
      rw [List.getElem?_take, if_pos (by omega), List.getElem?_map, List.getElem?_eq_getElem hi] at e
      rw [← Array.getElem?_toList, e]
      rfl
    simp [World.cell?, hh, this]

/-- At: the place of a block among those that were written once. -/
def findAt (es : List REnt) (k : Int) : Option REnt := es.find? fun e => e.at_ == k
def ptrOf : Option REnt → Option Addr
  | some e => some ⟨e.ad, 0, none⟩
  | none => none

set_option maxRecDepth 100000 in
set_option maxHeartbeats 1000000 in
theorem At_any (w : World) (px : Nat) (vL : Value) (es : List REnt) (A : Abs) (al : Nat → Prop) (d : RDiskAt w px vL es A al) (hl : es.length ≤ 1099511627776) (k : Int) :
    Calls Try.prog 31 #[.pointer (some ⟨px, 0, none⟩), .int .i64 k] w fun e w' => e = .returned (.pointer (ptrOf (findAt es k))) ∧ w' = w := by
  obtain ⟨a, cap, rfl, hcell⟩ := ptr_cell d.row
  have hc1 : w.cell? ⟨px, 1, none⟩ = some (.slice a es.length cap) := by simp [World.cell?, d.box]
  have HD := hid d
  have HC := hid hcell
  clear d hcell
  go_enter Try.func31, Try.ntmps31
  go_wp2_with fail
  go_loop [5] (fun i => ∃ j : Nat, j ≤ es.length ∧ i = .int .i64 j ∧ ∀ e ∈ es.take j, e.at_ ≠ k) (fun i => es.length - (RowKit.intOf i).toNat)
  case atStart => exact ⟨0, Nat.zero_le _, rfl, by simp⟩
  case round =>
    obtain ⟨j, hj, rfl, hno⟩ := hrel
    have HNo := hid hno
    clear hno
    by_cases hlt : j < es.length
    · have hji : (j : Int) < (es.length : Int) := by omega
      obtain ⟨b, off, ha, hcp⟩ := HC.out j hlt
      subst ha
      obtain ⟨hbx, _⟩ := HD.out.ent es[j] (List.getElem_mem hlt)
      have hca : w.cell? ⟨es[j].ad, 0, none⟩ = some (.int .i64 es[j].at_) := by simp [World.cell?, hbx]
      have htk : es.take (j + 1) = es.take j ++ [es[j]] := by rw [List.take_add_one, List.getElem?_eq_getElem hlt]; rfl
      have hfind : es[j].at_ = k → findAt es k = some es[j] := fun e =>
        List.find?_eq_some_iff_append.2 ⟨by simp [e], es.take j, es.drop (j + 1), by rw [← List.drop_eq_getElem_cons hlt, List.take_append_drop], fun x hx => by simpa using HNo.out x hx⟩
      obtain ⟨ent, hent⟩ : ∃ ent, ent = es[j] := ⟨_, rfl⟩
      rw [← hent] at hcp hca htk hfind
      have HTk := hid htk
      have HFi := hid hfind
      clear hbx htk hfind hent
      by_cases hk : ent.at_ = k
      · have HF := hid (HFi.out hk)
        subst hk
        go_wp2
        go_ret
        exact ⟨by rw [HF.out]; rfl, rfl⟩
      · go_wp2
        go_round
        case rel =>
          refine ⟨j + 1, by omega, by go_num, ?_⟩
          rw [HTk.out]
          intro e he
          rcases List.mem_append.1 he with h | h
          · exact HNo.out e h
          · simp at h; rw [h]; exact hk
        case measure => simp [RowKit.intOf]; omega
    · have hji : ¬ ((j : Int) < (es.length : Int)) := by omega
      have hnone : findAt es k = none := by
        unfold findAt
        rw [List.find?_eq_none]
        intro x hx
        have := HNo.out x (by rw [List.take_of_length_le (by omega)]; exact hx)
        simpa using this
      have HF := hid hnone
      clear hnone
      go_wp2
      go_ret
      exact ⟨by rw [HF.out]; rfl, rfl⟩
end Go.Proofs.Ytdbpjdaaggenpaa
