/- slices.DeleteFunc as it lies at this program, over addresses. -/
import Derived.Shelf.SlicesE.DeleteFunc
import Derived.Test.YtlflbpemjlgdiaaEcH
namespace Go.Proofs
open Go.Shelf
def Try.delF_ren : Go.Shelf.Ren := ⟨fun | 6 => 51 | 10 => 45 | n => n, fun | 0 => 0 | 3 => 3 | 4 => 4 | 22 => 52 | 23 => 40 | 25 => 93 | n => n, fun | n => n⟩
theorem Try.delF : Go.Proofs.SlLaysH.n10 Try.prog Try.delF_ren := {
  mixed := by kernel_rfl
  f6 := Exists.intro ( "slices.IndexFunc[[]uint32,uint32]") ⟨by kernel_rfl, Try.func51.trans (congrArg some (by kernel_rfl))⟩
  f10 := Exists.intro ( "slices.DeleteFunc[[]uint32,uint32]") ⟨by kernel_rfl, Try.func45.trans (congrArg some (by kernel_rfl))⟩
  t0 := Try.underlying0
  a0 := Try.isAgg0
  z0 := Try.sizeOf0
  v0 := Try.zeroValue0
  t3 := Try.underlying3
  a3 := Try.isAgg3
  z3 := Try.sizeOf3
  v3 := Try.zeroValue3
  t4 := Try.underlying4
  a4 := Try.isAgg4
  z4 := Try.sizeOf4
  v4 := Try.zeroValue4
  t22 := Try.underlying52
  a22 := Try.isAgg52
  z22 := Try.sizeOf52
  v22 := Try.zeroValue52
  a23 := Try.isAgg40
  z23 := Try.sizeOf40
  t25 := Try.underlying93
  a25 := Try.isAgg93
  z25 := Try.sizeOf93
  v25 := Try.zeroValue93 }
end Go.Proofs
namespace Go.Proofs.Ytlflbpemjlgdiaa
open Go.RowKit Go.Maps Go.Lib Go.Sort
set_option linter.unusedVariables false
/-- The closure: is it this one? -/
theorem forget1_gives (ip x : Int) (B : Nat) (W : World) (hc : W.cell? ⟨B, 0, none⟩ = some (.int .u32 ip)) :
    FnGives Try.prog 46 #[.pointer (some ⟨B, 0, none⟩)] #[.int .u32 x] (.bool (decide (x = ip))) W := by
  show Calls Try.prog 46 #[.int .u32 x, .pointer (some ⟨B, 0, none⟩)] W _
  go_enter Try.func46, Try.ntmps46
  go_wp2
  go_ret
  exact ⟨rfl, 0, rfl⟩
theorem forget1_at (ip : Int) (B : Nat) (w : World) (hB : B < w.heap.size) (hcell : w.cell? ⟨B, 0, none⟩ = some (.int .u32 ip)) :
    PredAt Try.prog 46 #[.pointer (some ⟨B, 0, none⟩)] (Value.int .u32) (fun x => decide (x = ip)) w :=
  fun W x hb => forget1_gives ip x B W ((hb.cell (p := ⟨B, 0, none⟩) hB).trans hcell)
theorem forget1_over (ip : Int) (B blk off size : Nat) (w : World) (hB : B < w.heap.size) (hne : B ≠ blk) (hcell : w.cell? ⟨B, 0, none⟩ = some (.int .u32 ip)) :
    PredOver Try.prog 46 #[.pointer (some ⟨B, 0, none⟩)] (Value.int .u32) (fun x => decide (x = ip)) blk off size w :=
  fun n os dk x _ => forget1_gives ip x B _ (by
    unfold sortWorld
    rw [cell?_grow _ _ _ (by show B < (putRow _ _ _ _ _).heap.size; rw [size_putRow]; exact hB), cell?_putRow_other _ _ blk off _ _ (Or.inl hne)]
    exact hcell)
theorem delF_any (blk off cap B : Nat) (d : Array Int) (ip : Int) (w : World) (hH : Holds (Value.int .u32) w blk off d) (hB : B < w.heap.size) (hne : B ≠ blk) (hcell : w.cell? ⟨B, 0, none⟩ = some (.int .u32 ip)) (hsz : d.size ≤ 1000000) (hcap : d.size ≤ cap) :
    Calls Try.prog 45 #[.slice (some ⟨blk, off, none⟩) d.size cap, .func (.func 46) #[] #[.pointer (some ⟨B, 0, none⟩)]] w fun e w' => e = .returned (.slice (some ⟨blk, off, none⟩) (d.toList.filter fun x => !decide (x = ip)).length cap) ∧
      ∃ q, w' = putRow (Value.int .u32) (Sort.ahead w q) blk off ((d.toList.filter fun x => !decide (x = ip)) ++ List.replicate (d.size - (d.toList.filter fun x => !decide (x = ip)).length) 0).toArray := by
  have eg : ∀ args w, (callFunc 46 args).run Try.prog w = .ok (.enter 46 args) w := enters_of Try.func46 (by kernel_rfl) rfl
  have hcon := AnyE.slices_DeleteFunc Try.delF (Value.int .u32) (fun _ => rfl) (fun x => decide (x = ip)) 46 #[.pointer (some ⟨B, 0, none⟩)] eg 0 Try.zeroValue40 blk off cap d w (forget1_at ip B w hB hcell) (forget1_over ip B blk off d.size w hB hne hcell) hH (by omega) hcap
  exact hcon
end Go.Proofs.Ytlflbpemjlgdiaa
