/- The laws' own: lists that are the same. -/
import Derived.Test.YtjnhcbompgmknaaMemF
namespace Go.Proofs.Ytjnhcbompgmknaa
open Go.RowKit

def CInts (w : World) (a : Option Addr) (l : List Int) : Prop := ∀ i, i < l.length → ∃ b off, a = some ⟨b, off, none⟩ ∧ w.cell? ⟨b, off + i, none⟩ = some (.int .i64 (l.getD i 0))
def CBufs (w : World) (a : Option Addr) (l : List Bf) : Prop := ∀ i, i < l.length → ∃ b off, a = some ⟨b, off, none⟩ ∧ w.cell? ⟨b, off + i * 3, none⟩ = some (.int .i64 (l.getD i default).addr) ∧
  w.cell? ⟨b, off + i * 3 + 1, none⟩ = some (.int .i64 (l.getD i default).len) ∧ w.cell? ⟨b, off + i * 3 + 2, none⟩ = some (.bool (l.getD i default).wt)

set_option maxRecDepth 100000 in
set_option maxHeartbeats 1000000 in
theorem sameInts_same (w : World) (a b : Option Addr) (ca cb : Nat) (l : List Int) (hl : l.length ≤ 4294967296) (h1 : CInts w a l) (h2 : CInts w b l) :
    Calls Try.prog 14 #[.slice a l.length ca, .slice b l.length cb] w fun e w' => e = .returned (.bool true) ∧ ∃ q, w' = w.drewN q := by
  have H1 := hid h1
  have H2 := hid h2
  clear h1 h2
  generalize hln : l.length = len at *
  have HLN := hid hln
  clear hln
  go_enter Try.func14, Try.ntmps14
  go_wp2
  go_loopw [5] (fun x wx => ∃ k : Nat, k ≤ len ∧ x = .int .i64 k ∧ ∃ q, wx = w.drewN q) (fun x _ => len - (RowKit.intOf x).toNat)
  case atStart => exact ⟨0, Nat.zero_le _, rfl, 0, rfl⟩
  case round =>
    obtain ⟨k, hk, rfl, q, rfl⟩ := hrel
    by_cases hlt : k < len
    · have hki : (k : Int) < len := by omega
      obtain ⟨b1, o1, ha1, c1⟩ := H1.out k (by rw [HLN.out]; exact hlt)
      obtain ⟨b2, o2, ha2, c2⟩ := H2.out k (by rw [HLN.out]; exact hlt)
      subst ha1 ha2
      generalize l.getD k 0 = x at *
      have e1 : IntKind.i64.wrap ((k : Int) + 1) = (k : Int) + 1 := IntWalk.i64_in _ (by omega)
      have hk0 : (0 : Int) ≤ (k : Int) := by omega
      go_wp2
      go_quiet (fail)
      go_wp2
      go_roundw
      case rel => exact ⟨k + 1, by omega, by go_num, _, rfl⟩
      case measure => simp only [RowKit.intOf]; omega
    · have hki : ¬ ((k : Int) < len) := by omega
      go_wp2
      go_ret
      exact ⟨rfl, _, rfl⟩

set_option maxRecDepth 100000 in
set_option maxHeartbeats 1000000 in
theorem sameBufs_same (w : World) (a b : Option Addr) (ca cb : Nat) (l : List Bf) (hl : l.length ≤ 4294967296) (h1 : CBufs w a l) (h2 : CBufs w b l) :
    Calls Try.prog 28 #[.slice a l.length ca, .slice b l.length cb] w fun e w' => e = .returned (.bool true) ∧ ∃ q, w' = w.drewN q := by
  have H1 := hid h1
  have H2 := hid h2
  clear h1 h2
  generalize hln : l.length = len at *
  have HLN := hid hln
  clear hln
  go_enter Try.func28, Try.ntmps28
  go_wp2
  go_loopw [5] (fun x wx => ∃ k : Nat, k ≤ len ∧ x = .int .i64 k ∧ ∃ q, wx = w.drewN q) (fun x _ => len - (RowKit.intOf x).toNat)
  case atStart => exact ⟨0, Nat.zero_le _, rfl, 0, rfl⟩
  case round =>
    obtain ⟨k, hk, rfl, q, rfl⟩ := hrel
    by_cases hlt : k < len
    · have hki : (k : Int) < len := by omega
      obtain ⟨b1, o1, ha1, c1, c2, c3⟩ := H1.out k (by rw [HLN.out]; exact hlt)
      obtain ⟨b2, o2, ha2, c4, c5, c6⟩ := H2.out k (by rw [HLN.out]; exact hlt)
      subst ha1 ha2
      generalize l.getD k default = x at *
      obtain ⟨x1, x2, x3⟩ := x
      simp only at c1 c2 c3 c4 c5 c6
      have e1 : IntKind.i64.wrap ((k : Int) + 1) = (k : Int) + 1 := IntWalk.i64_in _ (by omega)
      have hk0 : (0 : Int) ≤ (k : Int) := by omega
      go_wp2
      go_quiet (fail)
      go_wp2
      go_roundw
      case rel => exact ⟨k + 1, by omega, by go_num, _, rfl⟩
      case measure => simp only [RowKit.intOf]; omega
    · have hki : ¬ ((k : Int) < len) := by omega
      go_wp2
      go_ret
      exact ⟨rfl, _, rfl⟩
end Go.Proofs.Ytjnhcbompgmknaa
