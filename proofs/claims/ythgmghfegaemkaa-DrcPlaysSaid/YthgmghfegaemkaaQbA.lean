/- Tables of calls: is a call done; the first one that is. -/
import Derived.Test.YthgmghfegaemkaaQaB
import Derived.BigQuiet
namespace Go.Proofs.Ythgmghfegaemkaa
open Go.RowKit Go.Maps
set_option linter.unusedVariables false

theorem fieldPr (x y : Value) (W : World) : (Instr.field 58 (.agg #[x, y]) 0).run Try.prog W = .ok x W := by kernel_rfl
theorem sizeKy : (Try.prog.info? 33).map (·.size) = some 5 := by kernel_rfl
theorem zeroPr (w : World) : (zeroValue 58).run Try.prog w = .ok (.agg #[.int .i64 0, .slice none 0 0]) w := by kernel_rfl
/-- How far a call has come, as the program holds it. -/
def stI : Option (Option (List Int)) → Int
  | none => 0
  | some none => 2
  | some (some _) => 3
theorem MT.st {w : World} {S : Nat → Prop} {L : Tl} {M : Ky → Option Value} (h : MT w S L M) {k : Ky} (hk : k.Ok) : ∃ a m c, (M k).getD (.agg #[.int .i64 0, .slice none 0 0]) = .agg #[.int .i64 (stI (fndT L k)), .slice a m c] := by
  cases hf : fndT L k with
  | none => rw [(h k hk).2 hf]; exact ⟨none, 0, 0, rfl⟩
  | some o =>
    obtain ⟨v, hv, he⟩ := (h k hk).1 o hf
    rw [hv]
    cases o with
    | none => exact ⟨none, 0, 0, he⟩
    | some l => obtain ⟨a, c, e, _⟩ := he; exact ⟨a, _, c, e⟩
set_option maxRecDepth 100000 in
set_option maxHeartbeats 1000000 in
theorem isDone_any (w : World) (p : Nat) (S : Nat → Prop) (n : Nat) (L : Tl) (c gm : Nat) (vo : Value) (h : TbX w p S n L c gm vo) (k : Ky) (hk : k.Ok) :
    Calls Try.prog 18 #[.pointer (some ⟨p, 0, none⟩), kV k] w fun e w' => e = .returned (.bool (decide (stI (fndT L k) = 3))) ∧ Below w.heap.size w w' := by
  obtain ⟨W1, hW1⟩ : ∃ W, W = w.alloc (.cells (kL k).toArray 33) := ⟨_, rfl⟩
  obtain ⟨g, hg⟩ : ∃ g, w.heap.size = g := ⟨_, rfl⟩
  have b1 : Below w.heap.size w W1 := by rw [hW1]; exact below_alloc (Below.refl _ _) (Nat.le_refl _) _
  have h1 := h.later b1
  have hg1 : W1.heap[g]? = some (.cells (kL k).toArray 33 (0, 0)) := by rw [hW1, ← hg]; exact alloc_new w _
  obtain ⟨M, hM, hT⟩ := h1.mp
  obtain ⟨a, m, cc, hlv⟩ := hT.st hk
  have hlk : ∀ q, (Instr.lookup 54 (.map (some gm)) (.agg #[.int .u32 k.ip, .int .i64 k.port, .int .u32 k.xid, .int .u32 k.proc, .int .u32 k.sum]) false).run Try.prog (W1.drewN q) = .ok (.agg #[.int .i64 (stI (fndT L k)), .slice a m cc]) (W1.drewN q) := fun q => by
    rw [← hlv]; exact (hM.keep (w' := W1.drewN q) rfl).look Try.underlying54 (zeroPr _) hk
  have c1 : W1.cell? ⟨p, 1, none⟩ = some (.map (some gm)) := cell_of h1.box rfl
  have k0 : W1.cell? ⟨g, 0, none⟩ = some (.int .u32 k.ip) := cell_of hg1 rfl
  have k1 : W1.cell? ⟨g, 1, none⟩ = some (.int .i64 k.port) := cell_of hg1 rfl
  have k2 : W1.cell? ⟨g, 2, none⟩ = some (.int .u32 k.xid) := cell_of hg1 rfl
  have k3 : W1.cell? ⟨g, 3, none⟩ = some (.int .u32 k.proc) := cell_of hg1 rfl
  have k4 : W1.cell? ⟨g, 4, none⟩ = some (.int .u32 k.sum) := cell_of hg1 rfl
  have hfd := fun (W : World) => fieldPr (.int .i64 (stI (fndT L k))) (.slice a m cc) W
  have HB := hid b1
  have HW := hW1.symm
  generalize stI (fndT L k) = st at *
  clear hW1 b1 h1 hg1 hM hT hlv h
  go_enter Try.func18, Try.ntmps18
  go_wp2_with fail
  go_quiet (fail)
  go_wp2
  go_ret
  exact ⟨rfl, below_drewN HB.out nq⟩
def dnT (L : Tl) (j : Nat) : Bool := (L.getD j default).2.isSome
def dixI (L : Tl) : Int := match dIx L with
  | some i => i
  | none => -1
theorem dnT_at {L : Tl} {j : Nat} (hj : j < L.length) : dnT L j = L[j].2.isSome := by simp [dnT, List.getD, hj]
theorem dixI_hit {L : Tl} {i : Nat} (hi : i < L.length) (h : dnT L i = true) (h' : ∀ j, j < i → dnT L j = false) : dixI L = i := by
  have : dIx L = some i := by
    unfold dIx
    rw [List.findIdx?_eq_some_iff_getElem]
    refine ⟨hi, by rw [dnT_at hi] at h; exact h, fun j hj => ?_⟩
    have := h' j hj
    rw [dnT_at (by omega)] at this
    simpa using this
  unfold dixI
  rw [this]
theorem dixI_miss {L : Tl} (h' : ∀ j, j < L.length → dnT L j = false) : dixI L = -1 := by
  have : dIx L = none := by
    rw [dIx_none]
    intro e he
    obtain ⟨j, hj, rfl⟩ := List.getElem_of_mem he
    rw [← dnT_at hj]; exact h' j hj
  unfold dixI
  rw [this]
theorem st_done {L : Tl} (hn : (L.map (·.1)).Nodup) {j : Nat} (hj : j < L.length) : decide (stI (fndT L L[j].1) = 3) = dnT L j := by
  rw [fndT_at hn hj, dnT_at hj]
  cases L[j].2 <;> rfl
set_option maxRecDepth 100000 in
set_option maxHeartbeats 2000000 in
/-- slices.IndexFunc of the keys, asked is one done. -/
theorem FirstDone_any (w : World) (p : Nat) (S : Nat → Prop) (n : Nat) (L : Tl) (c gm : Nat) (b off m cap : Nat) (h : TbX w p S n L c gm (.slice (some ⟨b, off, none⟩) m cap)) (hm : L.length = m) (hbig : m ≤ 1000000) (hcap : m ≤ cap)
    (hc : ∀ j u, (rowT L)[j]? = some u → w.cell? ⟨b, off + j, none⟩ = some u) :
    Calls Try.prog 17 #[.slice (some ⟨b, off, none⟩) m cap, .func (.func 18) #[.pointer (some ⟨p, 0, none⟩)] #[]] w fun e w' => e = .returned (.int .i64 (dixI L)) ∧ Below w.heap.size w w' := by
  have HC : Hid (∀ j, j < m → ∀ W, Below w.heap.size w W → ∃ k : Ky, (∀ W, Below w.heap.size w W → Calls Try.prog 18 #[.pointer (some ⟨p, 0, none⟩), .agg #[.int .u32 k.ip, .int .i64 k.port, .int .u32 k.xid, .int .u32 k.proc, .int .u32 k.sum]] W fun e w' => e = .returned (.bool (dnT L j)) ∧ Below W.heap.size W w') ∧ W.cell? ⟨b, off + j * 5, none⟩ = some (.int .u32 k.ip) ∧ W.cell? ⟨b, off + j * 5 + 1, none⟩ = some (.int .i64 k.port) ∧ W.cell? ⟨b, off + j * 5 + 2, none⟩ = some (.int .u32 k.xid) ∧ W.cell? ⟨b, off + j * 5 + 3, none⟩ = some (.int .u32 k.proc) ∧ W.cell? ⟨b, off + j * 5 + 4, none⟩ = some (.int .u32 k.sum)) := hid (fun j hj W hW => by
    have hj2 : j < L.length := by omega
    have g (i : Nat) (u : Value) (hu : (kL L[j].1)[i]? = some u) : W.cell? ⟨b, off + j * 5 + i, none⟩ = some u := by
      refine cell_later hW ?_
      rw [Nat.add_assoc]
      exact hc _ u (rowT_at hj2 i u hu)
    refine ⟨L[j].1, fun W hW => ?_, g 0 _ rfl, g 1 _ rfl, g 2 _ rfl, g 3 _ rfl, g 4 _ rfl⟩
    rw [← st_done h.nd hj2]
    exact isDone_any W p S n L c gm _ (h.later hW) _ (h.ok _ (List.getElem_mem _)))
  have HH : Hid (∀ i, i < m → dnT L i = true → (∀ j, j < i → dnT L j = false) → dixI L = i) := hid (fun i hi => dixI_hit (by omega))
  have HI : Hid ((∀ j, j < m → dnT L j = false) → dixI L = -1) := hid (fun h => dixI_miss (by rw [hm]; exact h))
  clear h hc hm
  generalize dnT L = dn at *
  generalize dixI L = res at *
  go_enter Try.func17, Try.ntmps17
  go_wp2
  go_loopg [5, 8] m (fun gg _ s8 wr => ∃ kk : Nat, kk ≤ m ∧ m - kk ≤ gg ∧ s8 = .int .i64 kk ∧ Aside (Below w.heap.size w wr) ∧ Aside (∀ j, j < kk → dn j = false))
  case atStart => exact ⟨0, Nat.zero_le _, by omega, rfl, Below.refl _ w, fun j hj => absurd hj (Nat.not_lt_zero _)⟩
  case round =>
    obtain ⟨kk, hkk, hg, rfl, BW, A⟩ := hrel
    by_cases hlt : kk < m
    · obtain ⟨k, hcall, k0, k1, k2, k3, k4⟩ := HC.out kk hlt wr BW.out
      have HCL := hid (hcall wr BW.out)
      have HHI := hid (HH.out kk hlt)
      clear hcall
      cases hq : dn kk with
      | true =>
        rw [hq] at HCL HHI
        go_wp2_with fail
        refine HCL.out.mono ?_
        rintro e w' ⟨rfl, hb'⟩
        have HB := hid (BW.out.trans (hb'.mono BW.out.size))
        clear HCL hb' k0 k1 k2 k3 k4 HC
        go_wp2
        go_ret
        exact ⟨ret_int (HHI.out trivial A.out).symm, HB.out⟩
      | false =>
        rw [hq] at HCL
        go_wp2_with fail
        refine HCL.out.mono ?_
        rintro e w' ⟨rfl, hb'⟩
        have HB := hid (BW.out.trans (hb'.mono BW.out.size))
        clear HCL hb' k0 k1 k2 k3 k4
        go_wp2
        go_roundg (m - (kk + 1))
        case measure => omega
        case rel =>
          refine ⟨kk + 1, by omega, by omega, by go_num, HB.out, (show Aside _ from fun j hj => ?_)⟩
          by_cases e : j = kk
          · subst e
            exact hq
          · exact A.out j (by omega)
    · have hltz : ¬ (kk : Int) < (m : Int) := by omega
      have hkm : kk = m := by omega
      subst hkm
      have HB := hid BW.out
      go_wp2
      go_ret
      exact ⟨ret_int (HI.out A.out).symm, HB.out⟩
end Go.Proofs.Ythgmghfegaemkaa
