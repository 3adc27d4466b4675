/- Sums, prefixes, numbers at places: the program's. -/
import Derived.Test.YtoplbmbeadpilaaVbA
import Derived.Lib.SlBytesConst
import Derived.Laws.BytesArg
import Derived.Lib.Bytes
namespace Go.Proofs.Ytoplbmbeadpilaa
open Go.RowKit Go.Maps
set_option linter.unusedVariables false

theorem Tab.later {w w' : World} (h : Tab w) (hb : Below w.heap.size w w') : Tab w' := fun i hi => cell_later hb (h i hi)
theorem rows_new (w : World) (l : List Int) (a : Option Addr) (c n : Nat) (hn : n = l.length) (h : Bytes w a l) : RowsOf (w.alloc (.cells #[.slice a n c] 35)) (some ⟨w.heap.size, 0, none⟩) [l] := by
  subst hn
  intro i hi
  obtain rfl : i = 0 := by simp at hi; omega
  refine ⟨w.heap.size, 0, a, c, rfl, ?_, ?_⟩
  · rw [Nat.zero_add, new_cell _ _ _ _ 0 (by simp)]; simp
  · exact h.later ((Below.refl _ _).alloc (Nat.le_refl _) _)
theorem bytesOf_inj : ∀ (l m : List Int), (∀ x ∈ l, IsB x) → (∀ x ∈ m, IsB x) → Lib.bytesOf l = Lib.bytesOf m → l = m := by
  intro l
  induction l with
  | nil => intro m _ _ h; cases m with
    | nil => rfl
    | cons y m => simp [Lib.bytesOf] at h
  | cons x l ih => intro m hl hm h; cases m with
    | nil => simp [Lib.bytesOf] at h
    | cons y m =>
      simp only [Lib.bytesOf, List.map_cons, List.cons.injEq] at h
      have e1 := ih m (fun z hz => hl z (by simp [hz])) (fun z hz => hm z (by simp [hz])) h.2
      have hx := hl x (by simp)
      have hy := hm y (by simp)
      unfold IsB at hx hy
      have e2 := congrArg UInt8.toNat h.1
      simp at e2
      have : x = y := by omega
      rw [this, e1]
theorem bytes_conv {w : World} {a : Option Addr} {cap k : Nat} {l : List Int} (h : Bytes w a l) (hk : l.length = k) : ∀ q : Nat, (convert 35 9 (.slice a k cap)).run Try.prog (w.drewN q) = .ok (.string (strOfNums l)) (w.drewN q) := by
  intro q
  by_cases hp : 0 < l.length
  · obtain ⟨b, off, rfl, hc⟩ := h.open_ hp
    exact run_convert_bytes_arg (w.drewN q) (P := Try.prog) 35 5 Try.underlying35 Try.underlying5 b off k cap l hk (fun i hi => hc i (by omega)) 9 Try.underlying9
  · obtain rfl : l = [] := List.eq_nil_of_length_eq_zero (by omega)
    simp at hk
    subst hk
    cases a with
    | none => exact run_convert_bytes_nil (w.drewN q) 35 5 Try.underlying35 Try.underlying5 0 cap 9 Try.underlying9
    | some a =>
      show (convert 35 9 (.slice (some a) 0 cap)).run Try.prog (w.drewN q) = _
      rw [run_convert_bytes_string (w.drewN q) 35 9 5 _ _ cap Try.underlying35 Try.underlying5 Try.underlying9, run_bytesToString (w.drewN q) a 0 cap [] (by simpa using run_loadCells_list (P := Try.prog) (w.drewN q) a [] (fun j v hj => by simp at hj))]
      rfl
theorem conv0 {w : World} {a : Option Addr} {cap k : Nat} {l : List Int} (h : Bytes w a l) (hk : l.length = k) : (convert 35 9 (.slice a k cap)).run Try.prog w = .ok (.string (strOfNums l)) w := bytes_conv h hk 0
theorem str_eq {l m : List Int} (hl : ∀ x ∈ l, IsB x) (hm : ∀ x ∈ m, IsB x) : ((strOfNums l).toList == (strOfNums m).toList) = decide (l = m) := by
  rw [Lib.strOfNums_toList, Lib.strOfNums_toList]
  by_cases h : l = m
  · subst h; simp
  · rw [decide_eq_false h, beq_eq_false_iff_ne]
    exact fun e => h (bytesOf_inj l m hl hm e)
set_option maxRecDepth 100000 in
theorem cutH_run (a : Option Addr) (len cap hi : Nat) (hh : hi ≤ cap) (W : World) : (Instr.slice 35 (.slice a len cap) none (some (.int .i64 hi)) none).run Try.prog W = .ok (.slice a hi cap) W := by
  have hz : (sizeOf 5).run Try.prog W = .ok 1 W := by kernel_rfl
  rw [run_slice_h (P := Try.prog) W 35 a len cap Try.underlying35 .i64 hi (by omega) (by omega)]
  have e : Try.prog.elem 35 = 5 := by kernel_rfl
  rw [e, hz]
  cases a <;> simp [sliced, Addr.add]
/-- A number of n bytes at a place of bytes. -/
def rdN (l : List Int) (p n : Nat) : Int := leOf ((l.drop p).take n)
theorem rdN_bd (l : List Int) (p n : Nat) (h : ∀ x ∈ l, IsB x) (hn : n ≤ 8) : 0 ≤ rdN l p n ∧ rdN l p n < 256 ^ n := by
  have hb := leOf_bd ((l.drop p).take n) (fun x hx => h x (List.mem_of_mem_drop (List.mem_of_mem_take hx)))
  refine ⟨hb.1, Int.lt_of_lt_of_le hb.2 ?_⟩
  have hle : ((l.drop p).take n).length ≤ n := by simp; omega
  have h3 : ((256 ^ ((l.drop p).take n).length : Nat) : Int) ≤ ((256 ^ n : Nat) : Int) := Int.ofNat_le.2 (Nat.pow_le_pow_right (by decide : 0 < 256) hle)
  rw [Int.natCast_pow, Int.natCast_pow] at h3
  exact h3
theorem strW {X Y : List Int} {B : List UInt8} (hX : ∀ x ∈ X, IsB x) (hY : ∀ x ∈ Y, IsB x) (e : (strOfNums Y).toList = B) : (strOfNums X).toList = B ↔ X = Y := by
  have := str_eq hX hY
  rw [e] at this
  constructor
  · intro h
    rw [h] at this
    simpa using this.symm
  · intro h
    rw [h]; exact e
theorem supW_str : (strOfNums supW).toList = [85, 78, 68, 67, 82, 79, 70, 49] := by rw [Lib.strOfNums_toList]; rfl
end Go.Proofs.Ytoplbmbeadpilaa
