/- last, Versions: what a block was written last; how often. -/
import Derived.Test.YtdbpjdaaggenpaaWalkA
import Derived.Deep.RegionHeld3
import Derived.Laws.CopyOwn
namespace Go.Proofs.Ytdbpjdaaggenpaa
open Go.RowKit

theorem zero71 (w : World) : (zeroValue 71).run Try.prog w = .ok (.slice none 0 0) w := by kernel_rfl
theorem zero42 (w : World) : (zeroValue 42).run Try.prog w = .ok (.slice none 0 0) w := by kernel_rfl

def lastOf (A : Abs) (k : Int) : Option (List Int) := if A.V k = [] then A.P k else (A.V k).getLast?
/-- v is what stands for a block: nothing, or a row. -/
def Held (w : World) (al : Nat → Prop) (v : Value) : Option (List Int) → Prop
  | none => v = .slice none 0 0
  | some l => Row w al v l

theorem Rows2.open_ {w : World} {al : Nat → Prop} {v : Value} {ls : List (List Int)} (h : Rows2 w al v ls) (hne : ls ≠ []) :
    ∃ g cap, v = .slice (some ⟨g, 0, none⟩) ls.length cap ∧ ls.length ≤ cap ∧ cap ≤ maxLen ∧ al g ∧ ∀ i, (hi : i < ls.length) → ∃ u, w.cell? ⟨g, i, none⟩ = some u ∧ Row w al u ls[i] := by
  obtain ⟨vs, h1, h2, h3, h4⟩ := h
  rcases h2.2 with ⟨_, h0⟩ | ⟨g, cap, cur, rfl, _, hh, hc1, hc2, hcs, ht⟩
  · exact absurd (List.eq_nil_of_length_eq_zero h0) hne
  · refine ⟨g, cap, rfl, hc1, hc2, h4 g rfl, fun i hi => ?_⟩
    obtain ⟨u, hu, hr⟩ := h3 i hi
    refine ⟨u, ?_, hr⟩
    rw [← ht, List.getElem?_take] at hu
    simp [hi] at hu
    simp [World.cell?, hh, hu]

set_option maxHeartbeats 400000 in
theorem last_any (w : World) (pd bp bv : Nat) (MP MV : Int → Option Value) (A : Abs) (n : Nat) (al : Nat → Prop) (d : DiskAt w pd bp bv MP MV A n al) (k : Int) (hk : IsI k) :
    Calls Try.prog 35 #[.pointer (some ⟨pd, 0, none⟩), .int .i64 k] w fun e w' => w' = w ∧ ∃ v, e = .returned v ∧ Held w al v (lastOf A k) := by
  obtain ⟨_, hc1, hc2, _⟩ := d.cells
  have hl1 := d.mv.look Try.underlying58 (zero71 w) hk
  have hl2 := d.mp.look Try.underlying57 (zero42 w) hk
  rcases d.rv k hk with ⟨hm, hv⟩ | ⟨v, hm, hv, hr⟩
  · rw [hm] at hl1
    simp only [Option.getD_none] at hl1
    have el : lastOf A k = A.P k := by simp [lastOf, hv]
    rw [el]
    have hh : Held w al ((MP k).getD (.slice none 0 0)) (A.P k) := by
      rcases d.rp k hk with ⟨h1, h2⟩ | ⟨u, l, h1, h2, h3⟩
      · rw [h1, h2]; rfl
      · rw [h1, h2]; exact h3
    generalize (MP k).getD (.slice none 0 0) = v at hl2 hh
    have HH := hid hh
    clear hh d hm hv el
    go_enter Try.func35, Try.ntmps35
    go_wp2
    go_ret
    exact ⟨rfl, v, rfl, HH.out⟩
  · rw [hm] at hl1
    simp only [Option.getD_some] at hl1
    obtain ⟨g, cap, rfl, hcap, hcap2, hg, hcell⟩ := hr.open_ hv
    obtain ⟨m, hm1⟩ : ∃ m, (A.V k).length = m + 1 := ⟨(A.V k).length - 1, by have := List.length_pos_iff.2 hv; omega⟩
    obtain ⟨u, hu, hrow⟩ := hcell m (by omega)
    have el : lastOf A k = some (A.V k)[m] := by
      simp only [lastOf, hv, if_false]
      rw [List.getLast?_eq_getElem?]
      simp [hm1]
    rw [el]
    have HH := hid hrow
    rw [hm1] at hl1
    clear hrow hcell hr d hl2 el hm
    have hmb : (m : Int) < 9223372036854775807 := by
      unfold maxLen at hcap2
      omega
    go_enter Try.func35, Try.ntmps35
    go_wp2
    go_ret
    exact ⟨rfl, u, rfl, HH.out⟩

set_option maxHeartbeats 400000 in
theorem Versions_any (w : World) (pd : Nat) (A : Abs) (n : Nat) (al : Nat → Prop) (d : Disk w pd A n al) (k : Int) (hk : IsI k) (hh : hasB A.N k 1 = true) :
    Calls Try.prog 21 #[.pointer (some ⟨pd, 0, none⟩), .int .i64 k] w fun e w' => e = .returned (.tuple #[.int .i64 (A.V k).length, .int .i64 0]) ∧ w' = w := by
  obtain ⟨bp, bv, MP, MV, d⟩ := d
  obtain ⟨hc0, hc1, hc2, _⟩ := d.cells
  have hN := d.hN
  have hl1 := d.mv.look Try.underlying58 (zero71 w) hk
  rcases d.rv k hk with ⟨hm, hv⟩ | ⟨v, hm, hv, hr⟩
  · rw [hm] at hl1
    simp only [Option.getD_none] at hl1
    rw [hv]
    clear hm hv d
    go_enter Try.func21, Try.ntmps21
    go_wp2_with (go_at_call 32; refine (hasAll_any _ _ _ _ _ hc0 hN (by omega)).mono ?_; rw [hh]; rintro e w' ⟨rfl, rfl⟩)
    go_ret2
    exact ⟨rfl, rfl⟩
  · rw [hm] at hl1
    simp only [Option.getD_some] at hl1
    obtain ⟨g, cap, rfl, _⟩ := hr.open_ hv
    generalize (A.V k).length = len at hl1 ⊢
    clear hr d hm hv
    go_enter Try.func21, Try.ntmps21
    go_wp2_with (go_at_call 32; refine (hasAll_any _ _ _ _ _ hc0 hN (by omega)).mono ?_; rw [hh]; rintro e w' ⟨rfl, rfl⟩)
    go_ret2
    exact ⟨rfl, rfl⟩

/-! ### Read -/
def zeros : List Int := List.replicate 512 0
def blockOf (A : Abs) (k : Int) : List Int := (lastOf A k).getD zeros
def readTo (A : Abs) (at_ : Int) : Nat → List Int
  | 0 => []
  | m + 1 => readTo A at_ m ++ blockOf A (at_ + m)
theorem Held.len {w : World} {al : Nat → Prop} {v : Value} {o : Option (List Int)} (h : Held w al v o) : (o.getD zeros).length = 512 := by
  cases o with
  | none => exact List.length_replicate
  | some l => exact h.2.1
theorem Row.open_ {w : World} {al : Nat → Prop} {v : Value} {l : List Int} (h : Row w al v l) : ∃ g cap, v = .slice (some ⟨g, 0, none⟩) 512 cap ∧ al g ∧ ∀ j, j < 512 → w.cell? ⟨g, j, none⟩ = some (.int .u8 (l.getD j 0)) := by
  obtain ⟨h1, h2, h3, h4⟩ := h
  rw [h2] at h1
  rcases h1.2 with ⟨_, h0⟩ | ⟨g, cap, cur, rfl, _, hh, hc1, _, hcs, ht⟩
  · omega
  · refine ⟨g, cap, rfl, h4 g rfl, fun j hj => ?_⟩
    have : cur[j]? = some (.int .u8 (l.getD j 0)) := by
      have e : (cur.toList.take (512 * 1))[j]? = (l.map fun x => Value.int .u8 x)[j]? := by rw [ht]
      rw [List.getElem?_take] at e
      simp [hj, h2] at e
      simp [e, List.getD, h2, hj]
    simp [World.cell?, hh, this]

theorem size5 : (Try.prog.info? 5).map (·.size) = some 1 := by kernel_rfl
theorem add_addr (b off j : Nat) : (⟨b, off, none⟩ : Addr).add j = ⟨b, off + j, none⟩ := by unfold Addr.add; split <;> simp_all

/-- 'copy' into a row of the call's own, from a place on, as a step of a region that draws its order. -/
theorem step_copy_row {P : Program} {ops : Array Oper} {o : Oper} {a : Act} {w : World} {K : Act → World → Prop} {Q : Exit → Act → World → Prop} {E : Prop} (hgd : o.guard = none) (d s : Operand) (dT sT : TypeId)
    (ho : o.op = .call { callee := .builtin .copy, args := #[d, s], argTypes := #[dT, sT] }) (elem : TypeId) (hu : P.underlying dT = some (.slice elem)) (hsz : (P.info? elem).map (·.size) = some 1)
    (dp sp : Option Addr) (dLen dCap sLen sCap : Nat) (hd : a.eval d = .slice dp dLen dCap) (hs : a.eval s = .slice sp sLen sCap)
    (g off n : Nat) (f : Nat → Value) (t : TypeId) (hr : w.rowIs g t n f) (cs : List Value) (hn : cs.length = Nat.min sLen dLen)
    (hpos : 0 < cs.length → dp = some ⟨g, off, none⟩ ∧ ∃ b o, sp = some ⟨b, o, none⟩ ∧ ∀ j v, cs[j]? = some v → w.cell? ⟨b, o + j, none⟩ = some v)
    (hfit : off + cs.length ≤ n) (h1 : ∀ v ∈ cs, v.oneCell' = true) (B : Nat) (w0 : World) (hb : Below B w0 w) (hBg : B ≤ g)
    (h : ∀ w', Hid (w'.rowIs g t n (fun i => if off ≤ i then (cs[i - off]?).getD (f i) else f i)) → Below B w0 w' → K (a.put o.dst (goInt cs.length)) w') :
    if Region.wanted o (yielded ops a.tmps) = true then Oper.wp P o a w K Q else E := by
  obtain ⟨cur, hg, hcn, hcur⟩ := hr
  refine step_copy_splice hgd d s dT sT ho elem hu hsz dp sp dLen dCap sLen sCap hd hs g off cur.toList t (by simpa using hg) cs hn (fun hp => by
    obtain ⟨h2, b, o', h3, h4⟩ := hpos hp
    exact ⟨h2, _, h3, fun j v hj => by rw [add_addr]; exact h4 j v hj⟩) (by simpa [hcn] using hfit) h1 B w0 hb hBg (fun w' hh hbb => h w' (hid ?_) hbb)
  refine ⟨_, hh.out, ?_, fun i hi => ?_⟩
  · simp [splice]; omega
  · have h5 := hcur i hi
    simp only [splice, List.getElem?_toArray]
    by_cases h6 : off ≤ i
    · rw [if_pos h6]
      by_cases h7 : i - off < cs.length
      · rw [List.getElem?_append_right (by simp; omega), List.getElem?_append_left (by simp; omega)]
        have : min off cur.size = off := by omega
        simp [this, h7]
      · rw [List.getElem?_append_right (by simp; omega), List.getElem?_append_right (by simp; omega)]
        have e1 : min off cur.size = off := by omega
        have e2 : off + cs.length + (i - off - cs.length) = i := by omega
        have e3 : cs[i - off]? = none := List.getElem?_eq_none (by omega)
        simp [e1, e2, e3, h5]
    · rw [if_neg h6, List.getElem?_append_left (by simp; omega), List.getElem?_take]
      simp [show i < off by omega, h5]

set_option maxRecDepth 100000 in
theorem slice_from (g N k : Nat) (h : k < N) (W : World) : (Instr.slice 42 (.slice (some ⟨g, 0, none⟩) N N) (some (.int .i64 k)) none none).run Try.prog W = .ok (.slice (some ⟨g, k, none⟩) (N - k) (N - k)) W := by
  have hz : (sizeOf 5).run Try.prog W = .ok 1 W := by kernel_rfl
  rw [run_slice_l (P := Try.prog) W 42 (some ⟨g, 0, none⟩) N N Try.underlying42 .i64 k (by omega) (by omega)]
  have e : Try.prog.elem 42 = 5 := by kernel_rfl
  rw [e, hz]
  have h2 : ¬ (N = k) := by omega
  simp [sliced, Addr.add, h2]
  intro h3; simp [h3]
theorem getD_out (l : List Int) (j : Nat) (h : l.length ≤ j) : l.getD j 0 = 0 := by simp [List.getD, h]
theorem getD_app (L M : List Int) (i : Nat) : (L ++ M).getD i 0 = if i < L.length then L.getD i 0 else M.getD (i - L.length) 0 := by
  simp only [List.getD]
  split
  · rename_i h; rw [List.getElem?_append_left h]
  · rename_i h; rw [List.getElem?_append_right (by omega)]
theorem getD_zeros (i : Nat) : zeros.getD i 0 = 0 := by
  unfold zeros
  simp only [List.getD, List.getElem?_replicate]
  split <;> rfl
theorem src_cell {w : World} {g : Nat} {l : List Int} (hl : l.length = 512) (h : ∀ j, j < 512 → w.cell? ⟨g, j, none⟩ = some (.int .u8 (l.getD j 0))) {j : Nat} {v : Value} (hj : (l.map fun x => Value.int .u8 x)[j]? = some v) : w.cell? ⟨g, 0 + j, none⟩ = some v := by
  rw [List.getElem?_map] at hj
  simp at hj
  obtain ⟨x, hx, rfl⟩ := hj
  have hj2 : j < l.length := (List.getElem?_eq_some_iff.1 hx).1
  rw [Nat.zero_add, h j (by omega)]
  simp [List.getD, hx]
theorem DiskAt.block_len {w : World} {pd bp bv : Nat} {MP MV : Int → Option Value} {A : Abs} {n : Nat} {al : Nat → Prop} (d : DiskAt w pd bp bv MP MV A n al) (k : Int) (hk : IsI k) : (blockOf A k).length = 512 := by
  unfold blockOf lastOf
  split
  · rcases d.rp k hk with ⟨h1, h2⟩ | ⟨u, l, h1, h2, h3⟩
    · rw [h2]; exact List.length_replicate
    · rw [h2]; exact h3.2.1
  · rename_i hne
    rcases d.rv k hk with ⟨hm, hv⟩ | ⟨v, hm, hv, hr⟩
    · exact absurd hv hne
    · obtain ⟨g, cap, _, _, _, _, hc⟩ := hr.open_ hv
      have hp := List.length_pos_iff.2 hv
      obtain ⟨u, _, hrow⟩ := hc ((A.V k).length - 1) (by omega)
      rw [List.getLast?_eq_getElem?, List.getElem?_eq_getElem (by omega)]
      exact hrow.2.1

set_option maxRecDepth 100000 in
set_option maxHeartbeats 1000000 in
theorem Read_any (w : World) (pd : Nat) (A : Abs) (n : Nat) (al : Nat → Prop) (hd : Disk w pd A n al) (x : Int) (m : Nat) (hm : m ≤ 65536) (hh : hasB A.N x m = true) :
    Calls Try.prog 19 #[.pointer (some ⟨pd, 0, none⟩), .int .i64 x, .int .i64 m] w fun e w' => e = .returned (.tuple #[.slice (some ⟨w.heap.size, 0, none⟩) (m * 512) (m * 512), .int .i64 0]) ∧ Below w.heap.size w w' ∧
      w'.rowIs w.heap.size 5 (m * 512) (fun i => .int .u8 ((readTo A x m).getD i 0)) := by
  obtain ⟨bp, bv, MP, MV, d⟩ := hd
  obtain ⟨hc0, _, _, _⟩ := d.cells
  have hN := d.hN
  have D := hid d
  have hrange : 0 ≤ x ∧ x + m ≤ 65536 := by unfold hasB at hh; simp at hh; omega
  have hmk := run_make_row' (P := Try.prog) 42 5 (.int .u8 0) 1 Try.underlying42 info5 rfl .i64 .i64 (m * 512) (by omega) (by omega)
  have ec : ((m * 512 : Nat) : Int) = (m : Int) * 512 := by omega
  rw [ec] at hmk
  have HRL : Hid (∀ k, k ≤ m → (readTo A x k).length = 512 * k) := hid fun k hk => by
    induction k with
    | zero => rfl
    | succ k ih => rw [readTo, List.length_append, ih (by omega), d.block_len _ (isI_of (by omega) (by omega))]; omega
  clear ec d
  go_enter Try.func19, Try.ntmps19
  go_wp2_with (go_at_call 32; refine (hasAll_any _ _ _ _ _ hc0 hN (by omega)).mono ?_; rw [hh]; rintro e w2 ⟨rfl, hw⟩; rw [hw]; clear hw w2)
  go_loopw [19] (fun i wr => ∃ k : Nat, k ≤ m ∧ i = .int .i64 k ∧ Below w.heap.size w wr ∧ wr.rowIs w.heap.size 5 (m * 512) (fun i => .int .u8 ((readTo A x k).getD i 0))) (fun i _ => m - (RowKit.intOf i).toNat)
  case atStart => exact ⟨0, by omega, rfl, (Below.refl _ _).alloc (Nat.le_refl _) _, (World.rowIs_made _ _ _ _).congr fun i hi => by simp [readTo]⟩
  case round =>
    obtain ⟨k, hk, rfl, hb2, hr2⟩ := hrel
    have HB := hid hb2
    have HR2 := hid hr2
    clear hmk hb2 hr2 hc0
    by_cases hlt : k < m
    · have hki : (k : Int) < m := by omega
      have e1 : IntKind.i64.wrap ((k : Int) * 512) = (k : Int) * 512 := IntWalk.i64_in _ (by omega)
      have e2 : IntKind.i64.wrap (x + (k : Int)) = x + k := IntWalk.i64_in _ (by omega)
      have hsl := slice_from w.heap.size (m * 512) (k * 512) (by omega)
      rw [show ((k * 512 : Nat) : Int) = (k : Int) * 512 by omega] at hsl
      have hcon := last_any wr.drew pd bp bv MP MV A n al ((D.out.keep HB.out.size (fun b hb => HB.out.block b (D.out.lt b hb)))) (x + k) (isI_of (by omega) (by omega))
      obtain ⟨o, ho⟩ : ∃ o, lastOf A (x + k) = o := ⟨_, rfl⟩
      rw [ho] at hcon
      have HO := hid ho
      clear ho
      cases o with
      | none =>
        have hcon2 := hid hcon
        clear hcon
        go_wp2_with fail
        go_region_held3 (fun w' => Below w.heap.size w w') ((first | exact HB.out | assumption | exact Below.drew HB.out))
          ((first
            | (go_at_call 35; refine hcon2.out.mono ?_; rintro e w2 ⟨hw, v, rfl, hv⟩; rw [hw, show v = Value.slice none 0 0 from hv]; clear hw hv w2 v)
            | (refine step_copy_row rfl (.tmp 25) (.tmp 30) 42 42 rfl 5 Try.underlying42 size5 _ _ _ _ _ _ rfl rfl w.heap.size (k * 512) (m * 512) _ 5 HR2.out [] (by simp) (fun hp => by simp at hp) (by simp; omega) (by simp) w.heap.size w (Below.drew HB.out) (Nat.le_refl _) ?_; intro w4 hr4 hb4)))
        go_wp2
        go_roundw
        case rel =>
          refine ⟨k + 1, by omega, by go_num, hb4, hr4.out.congr fun i hi => ?_⟩
          have hl : (readTo A x k).length = 512 * k := HRL.out k (by omega)
          have hz : blockOf A (x + k) = zeros := by simp [blockOf, HO.out]
          rw [readTo, hz]
          congr 1
          simp only [List.getElem?_nil, Option.getD_none, ite_self]
          congr 1
          rw [getD_app, hl]
          split
          · rfl
          · rw [getD_zeros, getD_out _ _ (by rw [hl]; omega)]
        case measure => simp [RowKit.intOf]; omega
      | some l =>
        have hcon2 := hid hcon
        clear hcon
        go_wp2_with fail
        go_region_held3 (fun w' => Below w.heap.size w w') ((first | exact HB.out | assumption | exact Below.drew HB.out))
          ((first
            | (go_at_call 35; refine hcon2.out.mono ?_; rintro e w2 ⟨hw, v, rfl, hv⟩; rw [hw]; obtain ⟨gv, cv, rfl, _, hcell⟩ := Row.open_ hv; have HV := hid hv; have HCell := hid hcell; clear hw hv w2 hcell)
            | (refine step_copy_row rfl (.tmp 25) (.tmp 30) 42 42 rfl 5 Try.underlying42 size5 _ _ _ _ _ _ rfl rfl w.heap.size (k * 512) (m * 512) _ 5 HR2.out (l.map fun x => Value.int .u8 x) (by rw [List.length_map, HV.out.2.1]; exact (Nat.min_eq_left (by omega)).symm) (fun hp => ⟨rfl, gv, 0, rfl, fun j v hj => src_cell HV.out.2.1 HCell.out hj⟩) (by rw [List.length_map, HV.out.2.1]; omega) (fun v hv => by simp at hv; obtain ⟨y, _, rfl⟩ := hv; rfl) w.heap.size w (Below.drew HB.out) (Nat.le_refl _) ?_; intro w4 hr4 hb4)))
        go_wp2
        go_roundw
        case rel =>
          refine ⟨k + 1, by omega, by go_num, hb4, hr4.out.congr fun i hi => ?_⟩
          have hl : (readTo A x k).length = 512 * k := HRL.out k (by omega)
          have hl2 := HV.out.2.1
          have hz : blockOf A (x + k) = l := by simp [blockOf, HO.out]
          rw [readTo, hz]
          rw [getD_app, hl]
          by_cases h6 : k * 512 ≤ i
          · rw [if_pos h6, if_neg (by omega), Nat.mul_comm 512 k]
            by_cases h7 : i - k * 512 < 512
            · simp [List.getD, hl2, h7]
            · rw [List.getElem?_eq_none (by simp [hl2]; omega), getD_out _ _ (by omega), getD_out _ _ (by omega)]
              rfl
          · rw [if_neg h6, if_pos (by omega)]
        case measure => simp [RowKit.intOf]; omega
    · have hki : ¬ ((k : Int) < m) := by omega
      go_wp2
      go_ret2
      obtain rfl : k = m := by omega
      exact ⟨rfl, HB.out, HR2.out⟩
end Go.Proofs.Ytdbpjdaaggenpaa
