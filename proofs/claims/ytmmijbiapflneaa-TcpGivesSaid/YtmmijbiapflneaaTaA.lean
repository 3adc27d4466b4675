/- Segments and connections: what they are, and what stands for them in memory. -/
import Derived.Test.YtmmijbiapflneaaPaC
namespace Go.Proofs.Ytmmijbiapflneaa
open Go.RowKit Go.Maps
set_option linter.unusedVariables false

def s32 (a b : Int) : Int := (a - b) % 4294967296
def a32 (a b : Int) : Int := (a + b) % 4294967296
theorem s32_bd (a b : Int) : 0 ≤ s32 a b ∧ s32 a b < 4294967296 := by unfold s32; omega
theorem s32_u (a b : Int) : IsU (s32 a b) := by unfold IsU s32; omega
theorem a32_u (a b : Int) : IsU (a32 a b) := by unfold IsU a32; omega
theorem wrapU_sub (a b : Int) : IntKind.u32.wrap (a - b) = s32 a b := by rw [IntKind.wrap_u32]; rfl
theorem wrapU_add (a b : Int) : IntKind.u32.wrap (a + b) = a32 a b := by rw [IntKind.wrap_u32]; rfl
theorem wrapI_u {x : Int} (h : IsU x) : IntKind.i64.wrap x = x := IntWalk.i64_in _ (by unfold IsU at h; omega)
theorem wrapU_nat (n : Nat) (h : n ≤ 900000) : IntKind.u32.wrap (n : Int) = n := by rw [IntKind.wrap_u32]; omega
def lessB (a b : Int) : Bool := !(a == b) && decide (s32 b a < 2147483648)

structure Sg where
  fr : Int
  to_ : Int
  seq : Int
  ack : Int
  fl : Int
  win : Int
  mss : Int
  dat : List Int
@[reducible] def sgC (f t s a l w m : Int) (v : Value) : Array Value := #[.int .i64 f, .int .i64 t, .int .u32 s, .int .u32 a, .int .i64 l, .int .i64 w, .int .i64 m, v]
abbrev sgA (s : Sg) (a : Option Addr) (n c : Nat) : Array Value := sgC s.fr s.to_ s.seq s.ack s.fl s.win s.mss (.slice a n c)
def Sg.ok (s : Sg) : Prop := IsU s.seq ∧ IsU s.ack ∧ II s.fl ∧ II s.win ∧ II s.mss ∧ (∀ x ∈ s.dat, IsB x) ∧ II s.fr ∧ II s.to_
theorem sizeSg : (Try.prog.info? 30).map (·.size) = some 8 := by kernel_rfl
theorem sgC_one (f t s a l w m : Int) (b : Option Addr) (n c : Nat) : (sgC f t s a l w m (.slice b n c)).all (·.oneCell') = true := by simp [sgC, Value.oneCell']
theorem boxS (w : World) (cells : Array Value) (t : TypeId) : ∃ W, W = w.alloc (.cells cells t) ∧ W.heap[w.heap.size]? = some (.cells cells t (0, 0)) ∧ Below w.heap.size w W :=
  ⟨_, rfl, alloc_new w _, below_alloc (Below.refl _ _) (Nat.le_refl _) _⟩
def hasB (fl k : Int) : Bool := bits .and .i64 fl k != 0
set_option maxRecDepth 100000 in
set_option maxHeartbeats 1000000 in
theorem has_any (w : World) (f t s a l wi m k : Int) (v : Value) :
    Calls Try.prog 23 #[.agg (sgC f t s a l wi m v), .int .i64 k] w fun e w' => e = .returned (.bool (hasB l k)) ∧ Below w.heap.size w w' := by
  obtain ⟨W1, hW1, h1, b1⟩ := boxS w (sgC f t s a l wi m v) 30
  obtain ⟨g, hg⟩ : ∃ g, w.heap.size = g := ⟨_, rfl⟩
  rw [hg] at h1
  have p4 := cell_of h1 (i := 4) (v := .int .i64 l) rfl
  have HB := hid b1
  have HW := hW1.symm
  clear b1 h1 hW1
  go_enter Try.func23, Try.ntmps23
  go_wp2
  go_ret
  exact ⟨rfl, HB.out⟩
set_option maxRecDepth 100000 in
set_option maxHeartbeats 1000000 in
theorem end_any (w : World) (f t s a l wi m : Int) (b : Option Addr) (n c : Nat) (hn : n ≤ 900000) :
    Calls Try.prog 52 #[.agg (sgC f t s a l wi m (.slice b n c))] w fun e w' => e = .returned (.int .u32 (a32 s n)) ∧ Below w.heap.size w w' := by
  obtain ⟨W1, hW1, h1, b1⟩ := boxS w (sgC f t s a l wi m (.slice b n c)) 30
  obtain ⟨g, hg⟩ : ∃ g, w.heap.size = g := ⟨_, rfl⟩
  rw [hg] at h1
  have p2 := cell_of h1 (i := 2) (v := .int .u32 s) rfl
  have p7 := cell_of h1 (i := 7) (v := .slice b n c) rfl
  have q1 := wrapU_nat n hn
  have q2 := wrapU_add s n
  have HB := hid b1
  have HW := hW1.symm
  clear b1 h1 hW1
  go_enter Try.func52, Try.ntmps52
  go_wp2
  go_ret
  exact ⟨rfl, HB.out⟩
set_option maxRecDepth 100000 in
set_option maxHeartbeats 1000000 in
theorem Less_any (w : World) (a b : Int) :
    Calls Try.prog 20 #[.int .u32 a, .int .u32 b] w fun e w' => e = .returned (.bool (lessB a b)) ∧ w' = w := by
  have q2 := wrapU_sub b a
  by_cases h : a = b
  · have h1 : (a != b) = false := by simp [h]
    have h2 : lessB a b = false := by unfold lessB; simp [h]
    rw [h2]
    clear h h2
    go_enter Try.func20, Try.ntmps20
    go_wp2
    go_ret
    exact ⟨rfl, rfl⟩
  · have h1 : (a != b) = true := by simp [h]
    have h2 : lessB a b = decide (s32 b a < 2147483648) := by unfold lessB; simp [h]
    rw [h2]
    clear h h2
    go_enter Try.func20, Try.ntmps20
    go_wp2
    go_ret
    exact ⟨rfl, rfl⟩
end Go.Proofs.Ytmmijbiapflneaa
