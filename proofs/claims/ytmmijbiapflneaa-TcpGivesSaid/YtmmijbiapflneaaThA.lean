/- The law's known. -/
import Derived.Test.YtmmijbiapflneaaTeC
import Derived.Test.YtmmijbiapflneaaTfD
import Derived.Test.YtmmijbiapflneaaTgC
namespace Go.Proofs.Ytmmijbiapflneaa
open Go.RowKit Go.Maps
set_option linter.unusedVariables false
theorem map_one {L : List Sx} {x : Sg} (h : L.map (·.p) = [x]) : ∃ a c, L = [⟨x, a, c⟩] := by
  cases L with
  | nil => simp at h
  | cons y l =>
    cases l with
    | nil => simp at h; subst h; exact ⟨y.a, y.c, rfl⟩
    | cons z l => simp at h
section
variable {w w' : World} {p : Nat} {S : Nat → Prop} {c : Cn} {vc vm vw : Value} {e : Ending}
theorem OutPost.one (h : OutPost w p S c vc vm vw e w') {x : Sg} (hx : outQ c = [x]) : ∃ b off cap a2 c2, e = .returned (.slice (some ⟨b, off, none⟩) 1 cap) ∧ (∀ j u, (sxV ⟨x, a2, c2⟩)[j]? = some u → w'.cell? ⟨b, off + j, none⟩ = some u) ∧ By w' (fun y => w.heap.size ≤ y) a2 x.dat ∧ 1 ≤ cap ∧ w.heap.size ≤ b ∧ CnX w' p S (quietS c) vc vm vw ∧ Kp S w S w' := by
  obtain ⟨v, L, rfl, hsl, hL, hX, hK⟩ := h
  rw [hx] at hL
  obtain ⟨a2, c2, rfl⟩ := map_one hL
  obtain ⟨b, off, cap, rfl, hc, hb, hcell, hby, _⟩ := hsl.at_ (i := 0) (by simp)
  refine ⟨b, off, cap, a2, c2, rfl, fun j u hj => ?_, hby, hc, hb, hX, hK⟩
  have := hcell j u hj
  rwa [Nat.zero_mul, Nat.zero_add] at this
theorem OutPost.zero (h : OutPost w p S c vc vm vw e w') (hx : outQ c = []) : ∃ a cap, e = .returned (.slice a 0 cap) ∧ CnX w' p S (quietS c) vc vm vw ∧ Kp S w S w' := by
  obtain ⟨v, L, rfl, hsl, hL, hX, hK⟩ := h
  rw [hx] at hL
  obtain rfl : L = [] := by cases L with
    | nil => rfl
    | cons y l => simp at hL
  obtain ⟨a, c, rfl⟩ := hsl.slice
  exact ⟨a, c, rfl, hX, hK⟩
end
theorem RW.bytes {w : World} {a : Option Addr} {n cp : Nat} {l : List Int} (h : RW w 5 1 (.slice a n cp) n (u8s l)) (hl : l.length = n) (hb : ∀ x ∈ l, IsB x) : Bytes w a l := by
  by_cases h0 : 0 < n
  · obtain ⟨b, off, cap, e, _, _, hc, _⟩ := h.at_ h0
    simp only [Value.slice.injEq] at e
    obtain ⟨rfl, _, _⟩ := e
    exact Bytes.mk_ hb (fun i hi => hc i _ (u8s_get hi))
  · obtain rfl : l = [] := List.eq_nil_of_length_eq_zero (by omega)
    exact Bytes.nil_ _ _
def kC0 : Cn := newC ⟨9, 2049, 100, 0, 2, 5000, 0, []⟩ 7
def kC2 : Cn := ⟨101, [], fun _ => none, 0, true, false, 0, 8, 8, [], 5000, 536, 0, 0, false, false, 2049, 9, 2, false, false, false⟩
def kE3 : Int → Option Int := upd (upd (fun _ => none) 103 (some 97)) 104 (some 98)
def kC3 : Cn := ⟨101, [], kE3, 2, true, false, 0, 8, 8, [], 5000, 536, 0, 0, false, false, 2049, 9, 2, false, true, false⟩
def kC4 : Cn := ansOpS { kC3 with st := 2 } ⟨0, 0, 101, 8, 16, 5000, 0, [120, 121]⟩
theorem kC2_is : ansOpS { quietS kC0 with st := 2 } ⟨0, 0, 101, 8, 16, 5000, 0, []⟩ = kC2 := by kernel_rfl
theorem kC3_is : ansOpS { kC2 with st := 2 } ⟨0, 0, 103, 8, 16, 5000, 0, [97, 98]⟩ = kC3 := by kernel_rfl
theorem kC4_st : kC4.st = 2 := by kernel_rfl
theorem kC4_came : kC4.came = [120, 121, 97, 98] := by kernel_rfl
theorem kE3_ok : ∀ x y, kC3.E x = some y → IsB y := by
  intro x y h
  have h2 : kE3 x = some y := h
  unfold kE3 upd at h2
  unfold IsB
  split at h2
  · simp at h2; omega
  · split at h2
    · simp at h2; omega
    · simp at h2
theorem known_xyab : strOfNums [120, 121, 97, 98] = ⟨#[120, 121, 97, 98]⟩ := by kernel_rfl
end Go.Proofs.Ytmmijbiapflneaa
