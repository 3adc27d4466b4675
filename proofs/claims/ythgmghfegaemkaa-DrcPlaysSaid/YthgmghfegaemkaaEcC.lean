/- readMessage. -/
import Derived.Test.YthgmghfegaemkaaEcB
namespace Go.Proofs.Ythgmghfegaemkaa
open Go.RowKit Go.Maps
set_option linter.unusedVariables false

abbrev msgC (what : Int) (m : Mac) (i : Int) (k : Mac) (j : Int) : Array Value := #[.int .i64 what, .int .u8 m.a, .int .u8 m.b, .int .u8 m.c, .int .u8 m.d, .int .u8 m.e, .int .u8 m.f, .int .u32 i, .int .u8 k.a, .int .u8 k.b, .int .u8 k.c, .int .u8 k.d, .int .u8 k.e, .int .u8 k.f, .int .u32 j]
abbrev msg0 : Array Value := #[.int .i64 0, .int .u8 0, .int .u8 0, .int .u8 0, .int .u8 0, .int .u8 0, .int .u8 0, .int .u32 0, .int .u8 0, .int .u8 0, .int .u8 0, .int .u8 0, .int .u8 0, .int .u8 0, .int .u32 0]
theorem msgC_one (what : Int) (m : Mac) (i : Int) (k : Mac) (j : Int) : (msgC what m i k j).all (·.oneCell') = true := by simp [Value.oneCell']
theorem msg0_one : msg0.all (·.oneCell') = true := by simp [Value.oneCell']
/-- What a message is: 1 or 2. -/
def opOf (l : List Int) : Int := beOf ((l.drop 6).take 2)
def badM (l : List Int) : Prop := macOf l ≠ headM ∨ (opOf l ≠ 1 ∧ opOf l ≠ 2)
theorem opOf_bd (l : List Int) (h : ∀ x ∈ l, IsB x) (hk : 8 ≤ l.length) : 0 ≤ opOf l ∧ opOf l < 65536 := by
  have := be_cut_bd l 6 2 h (by omega)
  unfold opOf; omega
set_option maxRecDepth 100000 in
theorem cutLa (b off len cap lo : Nat) (h : lo ≤ len) (hc : len ≤ cap) : ∃ ad : Addr, (∀ W : World, (Instr.slice 34 (.slice (some ⟨b, off, none⟩) len cap) (some (.int .i64 lo)) none none).run Try.prog W = .ok (.slice (some ad) (len - lo) (cap - lo)) W) ∧ ∀ (w : World) (l : List Int), l.length = len → Bytes w (some ⟨b, off, none⟩) l → Bytes w (some ad) (l.drop lo) := by
  by_cases h2 : cap = lo
  · refine ⟨⟨b, off, none⟩, fun W => ?_, fun w l hl _ => ?_⟩
    · have hz : (sizeOf 5).run Try.prog W = .ok 1 W := by kernel_rfl
      rw [run_slice_l (P := Try.prog) W 34 (some ⟨b, off, none⟩) len cap Try.underlying34 .i64 lo (by omega) (by omega)]
      have e : Try.prog.elem 34 = 5 := by kernel_rfl
      rw [e, hz]
      simp [sliced, h2]
    · rw [List.drop_of_length_le (by omega)]; exact Bytes.nil_ _ _
  · refine ⟨⟨b, off + lo, none⟩, fun W => ?_, fun w l hl hb => ?_⟩
    · have hz : (sizeOf 5).run Try.prog W = .ok 1 W := by kernel_rfl
      rw [run_slice_l (P := Try.prog) W 34 (some ⟨b, off, none⟩) len cap Try.underlying34 .i64 lo (by omega) (by omega)]
      have e : Try.prog.elem 34 = 5 := by kernel_rfl
      rw [e, hz]
      simp [sliced, Addr.add, h2]
    · have := hb.cut lo (len - lo)
      rwa [List.take_of_length_le (by simp; omega)] at this
theorem cutL (b off len cap lo : Nat) (h : lo ≤ len) (hc : len ≤ cap) : ∃ a', (∀ W : World, (Instr.slice 34 (.slice (some ⟨b, off, none⟩) len cap) (some (.int .i64 lo)) none none).run Try.prog W = .ok (.slice a' (len - lo) (cap - lo)) W) ∧ ∀ (w : World) (l : List Int), l.length = len → Bytes w (some ⟨b, off, none⟩) l → Bytes w a' (l.drop lo) := by
  obtain ⟨ad, h1, h2⟩ := cutLa b off len cap lo h hc
  exact ⟨some ad, h1, h2⟩
theorem cutLs (b off len cap lo : Nat) (h : lo ≤ len) (hc : len ≤ cap) : ∃ a', (∀ W : World, (Instr.slice 34 (.slice (some ⟨b, off, none⟩) len cap) (some (.int .i64 lo)) none none).run Try.prog W = .ok (.slice a' (len - lo) (cap - lo)) W) ∧ (∀ (w : World) (l : List Int), l.length = len → Bytes w (some ⟨b, off, none⟩) l → Bytes w a' (l.drop lo)) ∧ ∃ ad, a' = some ad := by
  obtain ⟨ad, h1, h2⟩ := cutLa b off len cap lo h hc
  exact ⟨some ad, h1, h2, ad, rfl⟩
end Go.Proofs.Ythgmghfegaemkaa
