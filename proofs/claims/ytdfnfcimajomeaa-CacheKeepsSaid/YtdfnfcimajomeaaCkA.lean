/- CacheKeeps: what is told of a number; the law's rows of sixteen. -/
import Derived.Test.YtdfnfcimajomeaaCyG
namespace Go.Proofs.Ytdfnfcimajomeaa
open Go.RowKit Go.Maps

def vw (l : List Ec) (k : Int) : Option Ec := if k ∈ nums l then some (atL l k) else none
theorem vw_some {l : List Ec} (hn : (nums l).Nodup) {k : Int} {e : Ec} : vw l k = some e ↔ e ∈ l ∧ e.num = k := by
  unfold vw
  constructor
  · intro h
    split at h
    · rename_i hm
      simp at h
      rw [← h]
      exact atL_mem hm
    · cases h
  · rintro ⟨h1, rfl⟩
    rw [if_pos (show e.num ∈ nums l from List.mem_map.2 ⟨e, h1, rfl⟩), atL_of hn h1]
theorem vw_congr {l l' : List Ec} (hn : (nums l).Nodup) (hn' : (nums l').Nodup) {k : Int} (h : ∀ e : Ec, e.num = k → (e ∈ l ↔ e ∈ l')) : vw l k = vw l' k := by
  apply Option.ext
  intro e
  rw [vw_some hn, vw_some hn']
  constructor
  · rintro ⟨h1, h2⟩; exact ⟨(h e h2).1 h1, h2⟩
  · rintro ⟨h1, h2⟩; exact ⟨(h e h2).2 h1, h2⟩
theorem vw_none {l : List Ec} {k : Int} (h : k ∉ nums l) : vw l k = none := by unfold vw; rw [if_neg h]
theorem vw_has {l : List Ec} {k : Int} (h : k ∈ nums l) : vw l k = some (atL l k) := by unfold vw; rw [if_pos h]
def dO : Option Ec → Bool
  | some e => e.dirty
  | none => false
def pO : Option Ec → Int
  | some e => e.pins
  | none => 0
/-- The view of what a step leaves. -/
theorem vw_use {A : Cs} (hn : (nums A.row).Nodup) {j : Int} (hj : j ∈ nums A.row) (k : Int) : vw (A.use j).row k = vw A.row k := by
  have hn2 : (nums (A.use j).row).Nodup := by
    rw [nums_use hj, List.nodup_append]
    exact ⟨nd_wo hn j, by simp, fun a ha b hb e => by simp at hb; rw [e, hb] at ha; exact (nums_mem_wo.1 ha).2 rfl⟩
  refine vw_congr hn2 hn (fun e he => ?_)
  unfold Cs.use
  rw [List.mem_append, mem_wo, List.mem_singleton]
  constructor
  · rintro (h | h)
    · exact h.1
    · rw [h]; exact (atL_mem hj).1
  · intro h
    by_cases e1 : e.num = j
    · exact .inr (by rw [← e1]; exact (atL_of hn h).symm)
    · exact .inl ⟨h, e1⟩
theorem vw_cut {A : Cs} (hn : (nums A.row).Nodup) (j k : Int) : vw (A.cut j).row k = if k = j then none else vw A.row k := by
  split
  · rename_i e
    exact vw_none (by rw [nums_cut, nums_mem_wo]; exact fun h => h.2 e)
  · rename_i e
    refine vw_congr (nd_wo hn j) hn (fun x hx => ?_)
    rw [mem_wo]
    exact ⟨fun h => h.1, fun h => ⟨h, by rw [hx]; exact e⟩⟩
theorem nd_add {A : Cs} (hn : (nums A.row).Nodup) {e : Ec} (he : e.num ∉ nums A.row) : (nums (A.add e).row).Nodup := by
  unfold Cs.add
  rw [nums_app, List.nodup_append]
  exact ⟨hn, by simp [nums], fun a ha b hb e2 => by simp [nums] at hb; rw [e2, hb] at ha; exact he ha⟩
theorem vw_add {A : Cs} (hn : (nums A.row).Nodup) {e : Ec} (he : e.num ∉ nums A.row) (k : Int) : vw (A.add e).row k = if k = e.num then some e else vw A.row k := by
  split
  · rename_i h
    rw [vw_some (nd_add hn he)]
    exact ⟨by unfold Cs.add; simp, h.symm⟩
  · rename_i h
    refine vw_congr (nd_add hn he) hn (fun x hx => ?_)
    unfold Cs.add
    rw [List.mem_append, List.mem_singleton]
    exact ⟨fun h2 => h2.elim id (fun h3 => by rw [h3] at hx; exact absurd hx.symm h), .inl⟩
theorem vw_chg {A : Cs} (hn : (nums A.row).Nodup) (f : Ec → Ec) (hf : ∀ e, (f e).num = e.num) (j k : Int) : vw (A.chg j f).row k = if k = j then (vw A.row k).map f else vw A.row k := by
  have hn2 : (nums (A.chg j f).row).Nodup := by rw [nums_chg A j f hf]; exact hn
  split
  · rename_i e
    subst e
    by_cases hm : k ∈ nums A.row
    · rw [vw_has hm, vw_has (by rw [nums_chg A k f hf]; exact hm)]
      exact congrArg some (chg_at hn hm f hf).1
    · rw [vw_none hm, vw_none (by rw [nums_chg A k f hf]; exact hm)]
      rfl
  · rename_i e
    refine vw_congr hn2 hn (fun x hx => ?_)
    unfold Cs.chg
    constructor
    · intro h
      obtain ⟨y, hy, e1⟩ := List.mem_map.1 h
      split at e1
      · rename_i e2
        rw [← e1, hf y, e2] at hx
        exact absurd hx.symm e
      · rw [← e1]; exact hy
    · intro h
      exact List.mem_map.2 ⟨x, h, by rw [if_neg (by rw [hx]; exact e)]⟩
/-- Room is made by one that is clean and not pinned. -/
theorem vw_room {A A1 : Cs} (hn : (nums A.row).Nodup) (h : A.room = some A1) : (nums A1.row).Nodup ∧ ∀ k, (vw A1.row k = vw A.row k) ∨ (vw A1.row k = none ∧ dO (vw A.row k) = false ∧ pO (vw A.row k) = 0) := by
  unfold Cs.room at h
  split at h
  · simp at h; subst h; exact ⟨hn, fun _ => .inl rfl⟩
  · cases hf : A.row.find? may with
    | none => rw [hf] at h; cases h
    | some x =>
      rw [hf] at h
      simp at h
      subst h
      refine ⟨nd_wo hn _, fun k => ?_⟩
      rw [vw_cut hn]
      split
      · rename_i e
        have hx := List.mem_of_find?_eq_some hf
        have hm := List.find?_some hf
        rw [e, (vw_some hn).2 ⟨hx, rfl⟩]
        unfold may at hm
        simp at hm
        exact .inr ⟨rfl, hm.1, hm.2⟩
      · exact .inl rfl
set_option maxRecDepth 100000 in
set_option maxHeartbeats 1000000 in
theorem has_any (w : World) (v : Value) (l : List Int) (len : Nat) (hln : l.length = len) (x : Int) (B : Nat) (h : w.ownsRow B 3 1 v len (ints l)) (hl : len ≤ 1000000) :
    Calls Try.prog 25 #[v, .int .i64 x] w fun e w' => e = .returned (.bool (decide (x ∈ l))) ∧ w' = w := by
  subst hln
  have HC : Hid (∀ j, j < l.length → ∃ g c, v = .slice (some ⟨g, 0, none⟩) l.length c ∧ w.cell? ⟨g, j, none⟩ = some (.int .i64 (l.getD j 0))) := hid (fun j hj => by
    obtain ⟨g, c, e, hc, _⟩ := owns_int h hj
    exact ⟨g, c, e, hc⟩)
  obtain ⟨a, c, rfl⟩ := owns_slice h
  have HIN : Hid (∀ j, j < l.length → l.getD j 0 = x → decide (x ∈ l) = true) := hid (fun j hj e => by rw [← e]; simp [List.getD, hj])
  have HNO : Hid ((∀ j, j < l.length → l.getD j 0 ≠ x) → decide (x ∈ l) = false) := hid (fun hh => by
    simp only [decide_eq_false_iff_not]
    intro hm
    obtain ⟨i, hi, e⟩ := List.getElem_of_mem hm
    exact hh i hi (by simp [List.getD, hi, e]))
  clear h
  generalize decide (x ∈ l) = res at *
  obtain ⟨len, hln⟩ : ∃ len, len = l.length := ⟨_, rfl⟩
  rw [← hln] at hl HC HIN HNO ⊢
  clear hln
  go_enter Try.func25, Try.ntmps25
  go_wp2_with fail
  go_loopw [5] (fun z wr => ∃ j : Nat, j ≤ len ∧ z = .int .i64 j ∧ wr = w ∧ ∀ i, i < j → l.getD i 0 ≠ x) (fun z _ => len - (RowKit.intOf z).toNat)
  case atStart => exact ⟨0, Nat.zero_le _, rfl, rfl, fun i hi => by omega⟩
  case round =>
    obtain ⟨j, hj, rfl, hww, hno⟩ := hrel
    subst hww
    have HN := hid hno
    clear hno
    by_cases hlt : j < len
    · have hki : (j : Int) < len := by omega
      obtain ⟨g, c1, e1, hc⟩ := HC.out j hlt
      simp only [Value.slice.injEq] at e1
      obtain ⟨rfl, _, q1⟩ := e1
      clear q1
      by_cases e : l.getD j 0 = x
      · have HR := hid (HIN.out j hlt e)
        rw [e] at hc
        clear e
        go_wp2_with fail
        go_ret
        exact ⟨by rw [HR.out]; rfl, rfl⟩
      · have HE := hid e
        generalize hy : l.getD j 0 = y at *
        have HY := hid hy
        clear hy
        go_wp2_with fail
        go_roundw
        case rel => exact ⟨j + 1, by omega, by go_num, by first | trivial | rfl, fun i hi => by
          rcases Nat.lt_succ_iff_lt_or_eq.1 hi with h1 | h1
          · exact HN.out i h1
          · rw [h1, HY.out]; exact HE.out⟩
        case measure => simp [RowKit.intOf]; omega
    · have hki : ¬ ((j : Int) < len) := by omega
      obtain rfl : j = len := by omega
      have HR := hid (HNO.out HN.out)
      go_wp2_with fail
      go_ret
      exact ⟨by rw [HR.out]; rfl, rfl⟩
end Go.Proofs.Ytdfnfcimajomeaa
