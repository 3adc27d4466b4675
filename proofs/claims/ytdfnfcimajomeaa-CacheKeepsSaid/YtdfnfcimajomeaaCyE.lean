/- The document's cache: New, Held, Dirty; the law's sameInts. -/
import Derived.Test.YtdfnfcimajomeaaCyD
namespace Go.Proofs.Ytdfnfcimajomeaa
open Go.RowKit Go.Maps
set_option maxRecDepth 100000 in
theorem yNew_ok (w : World) (n : Nat) (h1 : 1 ≤ n) (h2 : n ≤ 1024) :
    Calls Try.prog 9 #[.int .i64 n] w fun e w' => ∃ p S, e = .returned (.tuple #[pv p, .int .i64 0]) ∧ Ya w' p S ⟨n, []⟩ ∧ Below w.heap.size w w' ∧ ∀ b, S b → w.heap.size ≤ b := by
  have h1' : ¬ ((n : Int) < 1) := by omega
  have h2' : ¬ ((1024 : Int) < (n : Int)) := by omega
  have hb : Below w.heap.size w (w.alloc (.cells #[.int .i64 n, .slice none 0 0] 56)) := (Below.refl _ _).alloc (Nat.le_refl _) _
  have HR : Hid (Ya (w.alloc (.cells #[.int .i64 n, .slice none 0 0] 56)) w.heap.size (fun b => b = w.heap.size) ⟨n, []⟩) := hid ⟨fun _ => 0, .slice none 0 0, fun b hb => by rw [hb]; simp, alloc_new w _, rfl, ⟨rfl, .inl ⟨rfl, rfl⟩⟩, fun g hg => by simp [Value.ownBlock] at hg, fun e he => by simp at he, by simp [nums], h2, Nat.zero_le _⟩
  have HB := hid hb
  generalize hSS : (fun b => b = w.heap.size) = SS at HR
  have HSS : Hid (∀ b, SS b → w.heap.size ≤ b) := hid (fun b hb => by rw [← hSS] at hb; omega)
  clear hb hSS
  go_enter Try.func9, Try.ntmps9
  go_wp2
  go_ret2
  exact ⟨_, rfl, SS, HR.out, HB.out, HSS.out⟩
set_option maxRecDepth 100000 in
theorem yNew_no (w : World) (n : Int) (h : n < 1 ∨ 1024 < n) :
    Calls Try.prog 9 #[.int .i64 n] w fun e w' => e = .returned (.tuple #[.pointer none, .int .i64 1]) ∧ w' = w := by
  by_cases h1 : n < 1
  · clear h
    go_enter Try.func9, Try.ntmps9
    go_wp2
    go_ret2
    exact ⟨rfl, rfl⟩
  · have h2 : 1024 < n := by omega
    clear h
    go_enter Try.func9, Try.ntmps9
    go_wp2
    go_ret2
    exact ⟨rfl, rfl⟩
section
variable {w w' : World} {p : Nat} {S : Nat → Prop} {A : Cs} {ad : Int → Nat} {vl : Value}
set_option maxRecDepth 100000 in
set_option maxHeartbeats 1000000 in
theorem yHeld_any (h : Ya w p S A) :
    Calls Try.prog 13 #[pv p] w fun e w' => ∃ v, e = .returned v ∧ w'.ownsRow w.heap.size 3 1 v A.row.length (ints (nums A.row)) ∧ Below w.heap.size w w' := by
  obtain ⟨ad, vl, h⟩ := h
  obtain ⟨c0, c1⟩ := h.cells
  obtain ⟨a, c, rfl⟩ := h.slice
  have HC : Hid (∀ j, j < A.row.length → ∃ g, a = some ⟨g, 0, none⟩ ∧ w.cell? ⟨g, j, none⟩ = some (pv (ad (A.row.getD j default).num)) ∧ w.cell? ⟨ad (A.row.getD j default).num, 0, none⟩ = some (.int .i64 (A.row.getD j default).num)) := hid (fun j hj => by
    obtain ⟨g, c', e, hc⟩ := h.place hj
    simp only [Value.slice.injEq] at e
    exact ⟨g, e.1, hc, (h.entry (getD_memE hj)).1⟩)
  have hlen : A.row.length ≤ 1024 := Nat.le_trans h.len h.hn
  obtain ⟨len, hln⟩ : ∃ len, len = A.row.length := ⟨_, rfl⟩
  rw [← hln] at hlen c1 HC ⊢
  have HLN := hid hln
  clear h hln
  go_enter Try.func13, Try.ntmps13
  go_wp2
  go_loopw [3, 4] (fun v z wr => ∃ j : Nat, j ≤ len ∧ z = .int .i64 j ∧ wr.ownsRow w.heap.size 3 1 v (nums (A.row.take j)).length (ints (nums (A.row.take j))) ∧ Below w.heap.size w wr) (fun _ z _ => len - (RowKit.intOf z).toNat)
  case atStart => exact ⟨0, Nat.zero_le _, rfl, ⟨rfl, .inl ⟨rfl, rfl⟩⟩, Below.refl _ _⟩
  case round =>
    obtain ⟨j, hj, rfl, hr, hb⟩ := hrel
    have c1' := cell_later hb c1
    by_cases hlt : j < len
    · have hki : (j : Int) < len := by omega
      obtain ⟨g, ha, hc, hn⟩ := HC.out j hlt
      subst ha
      replace hc := cell_later hb hc
      replace hn := cell_later hb hn
      obtain ⟨a2, n2, c2', w2, hap, ho, hm, _⟩ := push_own wr w.heap.size _ _ hr hb.size (A.row.getD j default).num (by simp [nums]; omega)
      rw [← nums_take (by rw [← HLN.out]; exact hlt)] at ho
      have HO := hid ho
      have HB := hid (hm.to_below hb hb.size (fun g hg => (owns_lt hr hg).2))
      obtain ⟨a5, c5, e5⟩ := owns_slice hr
      subst e5
      clear hr hb ho hm
      generalize ad (A.row.getD j default).num = y at *
      generalize (A.row.getD j default).num = x at *
      generalize (nums (A.row.take j)).length = l5 at *
      go_wp2_with (at_builtin; refine wpList_append_run rfl _ _ 35 rfl rfl rfl hap ?_)
      go_roundw
      case rel => exact ⟨j + 1, by omega, by go_num, HO.out, HB.out⟩
      case measure => simp [RowKit.intOf]; omega
    · have hki : ¬ ((j : Int) < len) := by omega
      obtain rfl : j = len := by omega
      have e1 : nums (A.row.take j) = nums A.row := by rw [HLN.out, List.take_length]
      have e2 : (nums A.row).length = j := by rw [HLN.out]; simp [nums]
      rw [e1, e2] at hr
      have HR := hid hr
      have HB := hid hb
      obtain ⟨a5, c5, e5⟩ := owns_slice HR.out
      subst e5
      clear hr hb e1 e2
      go_wp2
      go_ret
      exact ⟨_, rfl, HR.out, HB.out⟩
/-! ### the least one behind a number -/
def nxs (last nx : Int) (e : Ec) : Int := if e.dirty = true ∧ last < e.num ∧ (nx < 0 ∨ e.num < nx) then e.num else nx
def nxl (last : Int) (l : List Ec) : Int := l.foldl (nxs last) (-1)
theorem nxl_take {last : Int} {l : List Ec} {j : Nat} (h : j < l.length) : nxl last (l.take (j + 1)) = nxs last (nxl last (l.take j)) (l.getD j default) := by
  unfold nxl
  rw [List.take_succ_eq_append_getElem h, List.foldl_append]
  simp [List.getD, h]
theorem rev_ind {P : List Ec → Prop} (h0 : P []) (h1 : ∀ l e, P l → P (l ++ [e])) : ∀ l, P l := by
  have : ∀ r : List Ec, P r.reverse := by
    intro r
    induction r with
    | nil => exact h0
    | cons x r ih => rw [List.reverse_cons]; exact h1 _ _ ih
  intro l
  have h2 := this l.reverse
  rwa [List.reverse_reverse] at h2
theorem nxl_spec {last : Int} (hl : -1 ≤ last) : ∀ (l : List Ec), (∀ e ∈ l, 0 ≤ e.num) → (nxl last l = -1 ∧ ∀ x ∈ dirL l, x ≤ last) ∨ (nxl last l ∈ dirL l ∧ last < nxl last l ∧ ∀ x ∈ dirL l, last < x → nxl last l ≤ x) := by
  refine rev_ind ?_ ?_
  · intro _
    exact .inl ⟨rfl, fun x hx => by simp [dirL, nums] at hx⟩
  · intro l e ih h0
    have he := h0 e (by simp)
    have ih := ih (fun e he => h0 e (by simp [he]))
    have hstep : nxl last (l ++ [e]) = nxs last (nxl last l) e := by unfold nxl; rw [List.foldl_append]; rfl
    have hd : ∀ x, x ∈ dirL (l ++ [e]) ↔ x ∈ dirL l ∨ (e.dirty = true ∧ x = e.num) := fun x => by
      unfold dirL
      rw [List.filter_append, nums_app, List.mem_append]
      have h5 : nums ([e].filter fun e => e.dirty) = if e.dirty = true then [e.num] else [] := by cases hdd : e.dirty <;> simp [nums, hdd]
      rw [h5]
      split
      · rename_i h6; simp [h6]
      · rename_i h6; simp [h6]
    rw [hstep]
    unfold nxs
    by_cases hc : e.dirty = true ∧ last < e.num ∧ (nxl last l < 0 ∨ e.num < nxl last l)
    · rw [if_pos hc]
      refine .inr ⟨(hd _).2 (.inr ⟨hc.1, rfl⟩), hc.2.1, fun x hx hlx => ?_⟩
      rcases (hd x).1 hx with h1 | ⟨_, h1⟩
      · rcases ih with ⟨_, i2⟩ | ⟨i1, i2, i3⟩
        · have := i2 x h1; omega
        · have := i3 x h1 hlx
          rcases hc.2.2 with h2 | h2 <;> omega
      · omega
    · rw [if_neg hc]
      rcases ih with ⟨i1, i2⟩ | ⟨i1, i2, i3⟩
      · refine .inl ⟨i1, fun x hx => ?_⟩
        rcases (hd x).1 hx with h1 | ⟨h1, h2⟩
        · exact i2 x h1
        · rw [h2]
          refine Int.not_lt.1 (fun h3 => hc ⟨h1, h3, .inl (by omega)⟩)
      · refine .inr ⟨(hd _).2 (.inl i1), i2, fun x hx hlx => ?_⟩
        rcases (hd x).1 hx with h1 | ⟨h1, h2⟩
        · exact i3 x h1 hlx
        · rw [h2] at hlx ⊢
          refine Int.not_lt.1 (fun h3 => hc ⟨h1, hlx, .inr h3⟩)
/-- The last one that was told. -/
def lst (D : List Int) (j : Nat) : Int := if j = 0 then -1 else D.getD (j - 1) 0
theorem nxl_next {l : List Ec} (hn : (nums l).Nodup) (h0 : ∀ e ∈ l, 0 ≤ e.num) {j : Nat} (hj : j ≤ (srt (dirL l)).length) :
    -1 ≤ lst (srt (dirL l)) j ∧ nxl (lst (srt (dirL l)) j) l = if j < (srt (dirL l)).length then (srt (dirL l)).getD j 0 else -1 := by
  have hnd : (dirL l).Nodup := hn.sublist (List.Sublist.map _ List.filter_sublist)
  have hs := srt_sorted _ hnd
  have hD : ∀ x, x ∈ srt (dirL l) ↔ x ∈ dirL l := fun x => srt_mem _ x
  have hge : ∀ x ∈ srt (dirL l), 0 ≤ x := fun x hx => by
    have := (hD x).1 hx
    unfold dirL nums at this
    obtain ⟨e, he, rfl⟩ := List.mem_map.1 this
    exact h0 e (List.mem_filter.1 he).1
  generalize srt (dirL l) = D at *
  have hget : ∀ i, i < D.length → D.getD i 0 ∈ D := fun i hi => by simp [List.getD, hi]
  have hmono : ∀ i k, i < k → k < D.length → D.getD i 0 < D.getD k 0 := fun i k hik hk => by
    have := List.pairwise_iff_getElem.1 hs i k (by omega) hk hik
    simpa [List.getD, show i < D.length by omega, hk] using this
  have hlst : -1 ≤ lst D j := by
    unfold lst
    split
    · omega
    · have := hge _ (hget (j - 1) (by omega)); omega
  refine ⟨hlst, ?_⟩
  -- where a number of D stands
  have hidx : ∀ x ∈ D, ∃ i, i < D.length ∧ D.getD i 0 = x := fun x hx => by
    obtain ⟨i, hi, e⟩ := List.getElem_of_mem hx
    exact ⟨i, hi, by simp [List.getD, hi, e]⟩
  have hgt : ∀ i, i < D.length → (lst D j < D.getD i 0 ↔ j ≤ i) := fun i hi => by
    unfold lst
    split
    · rename_i e
      have := hge _ (hget i hi)
      constructor <;> intro <;> omega
    · constructor
      · intro h
        refine Nat.not_lt.1 (fun h2 => ?_)
        by_cases e : i = j - 1
        · rw [e] at h; omega
        · have := hmono i (j - 1) (by omega) (by omega); omega
      · intro h
        exact hmono (j - 1) i (by omega) hi
  rcases nxl_spec hlst l h0 with ⟨i1, i2⟩ | ⟨i1, i2, i3⟩
  · rw [if_neg, i1]
    intro hlt
    have := i2 _ ((hD _).1 (hget j hlt))
    have := (hgt j hlt).2 (Nat.le_refl _)
    omega
  · obtain ⟨i, hi, e⟩ := hidx _ ((hD _).2 i1)
    rw [← e] at i2
    have h1 := (hgt i hi).1 i2
    have hlt : j < D.length := by omega
    rw [if_pos hlt, ← e]
    have h2 := i3 _ ((hD _).1 (hget j hlt)) ((hgt j hlt).2 (Nat.le_refl _))
    rw [← e] at h2
    by_cases e2 : i = j
    · rw [e2]
    · have := hmono j i (by omega) hi; omega
def lenV : Value → Nat
  | .slice _ n _ => n
  | _ => 0
set_option maxRecDepth 100000 in
set_option maxHeartbeats 4000000 in
theorem yDirty_any (h : Ya w p S A) (h0 : ∀ e ∈ A.row, 0 ≤ e.num ∧ e.num < 9223372036854775808) :
    Calls Try.prog 15 #[pv p] w fun e w' => ∃ v, e = .returned v ∧ w'.ownsRow w.heap.size 3 1 v (dirL A.row).length (ints (srt (dirL A.row))) ∧ Below w.heap.size w w' := by
  obtain ⟨ad, vl, h⟩ := h
  obtain ⟨c0, c1⟩ := h.cells
  obtain ⟨a, c, rfl⟩ := h.slice
  have HC : Hid (∀ j, j < A.row.length → ∃ g, a = some ⟨g, 0, none⟩ ∧ w.cell? ⟨g, j, none⟩ = some (pv (ad (A.row.getD j default).num)) ∧ w.cell? ⟨ad (A.row.getD j default).num, 0, none⟩ = some (.int .i64 (A.row.getD j default).num) ∧ w.cell? ⟨ad (A.row.getD j default).num, 2, none⟩ = some (.bool (A.row.getD j default).dirty)) := hid (fun j hj => by
    obtain ⟨g, c', e, hc⟩ := h.place hj
    simp only [Value.slice.injEq] at e
    exact ⟨g, e.1, hc, (h.entry (getD_memE hj)).1, (h.entry (getD_memE hj)).2.1⟩)
  have hlen : A.row.length ≤ 1024 := Nat.le_trans h.len h.hn
  have HNX : Hid (∀ j, j ≤ (srt (dirL A.row)).length → -1 ≤ lst (srt (dirL A.row)) j ∧ nxl (lst (srt (dirL A.row)) j) A.row = if j < (srt (dirL A.row)).length then (srt (dirL A.row)).getD j 0 else -1) := hid (fun j hj => nxl_next h.nd (fun e he => (h0 e he).1) hj)
  have HGE : Hid (∀ j, j < (srt (dirL A.row)).length → 0 ≤ (srt (dirL A.row)).getD j 0) := hid (fun j hj => by
    have h1 : (srt (dirL A.row)).getD j 0 ∈ srt (dirL A.row) := by simp [List.getD, hj]
    have h2 := (srt_mem _ _).1 h1
    generalize (srt (dirL A.row)).getD j 0 = y at *
    unfold dirL nums at h2
    obtain ⟨e, he, e2⟩ := List.mem_map.1 h2
    rw [← e2]
    exact (h0 e (List.mem_filter.1 he).1).1)
  have HDL : Hid ((srt (dirL A.row)).length = (dirL A.row).length ∧ (srt (dirL A.row)).length ≤ 1024) := hid ⟨srt_len _, by rw [srt_len]; exact Nat.le_trans (dirL_len _) hlen⟩
  rw [← HDL.out.1]
  generalize srt (dirL A.row) = D at *
  obtain ⟨len, hln⟩ : ∃ len, len = A.row.length := ⟨_, rfl⟩
  rw [← hln] at hlen c1 HC
  have HLN := hid hln
  clear h hln h0
  obtain ⟨lD, hlD⟩ : ∃ lD, lD = D.length := ⟨_, rfl⟩
  rw [← hlD] at HNX HGE HDL ⊢
  have HLD := hid hlD
  clear hlD
  go_enter Try.func15, Try.ntmps15
  go_wp2
  go_loopw [3, 4] (fun v z wr => ∃ j : Nat, j ≤ lD ∧ z = .int .i64 (lst D j) ∧ wr.ownsRow w.heap.size 3 1 v (D.take j).length (ints (D.take j)) ∧ Below w.heap.size w wr) (fun v _ _ => lD - lenV v)
  case atStart => exact ⟨0, Nat.zero_le _, rfl, ⟨rfl, .inl ⟨rfl, rfl⟩⟩, Below.refl _ _⟩
  case round =>
    obtain ⟨j, hj, rfl, hr, hb⟩ := hrel
    obtain ⟨w5, hw5⟩ : ∃ w5, w5 = wr := ⟨_, rfl⟩
    rw [← hw5] at hr hb ⊢
    clear hw5 wr
    have c1' := cell_later hb c1
    have hNX := HNX.out j hj
    have HR := hid hr
    have HB := hid hb
    have HTL : Hid ((D.take j).length = j) := hid (by rw [List.length_take]; have := HLD.out; omega)
    obtain ⟨a5, c5, e5⟩ := owns_slice hr
    subst e5
    have hlst := hNX.1
    have HNE := hid hNX.2
    clear hr hb hNX
    rw [HTL.out]
    rw [HTL.out] at HR
    generalize hls : lst D j = last at *
    clear hls
    go_wp2_with fail
    go_loopw [5, 6] (fun z y wq => ∃ i : Nat, i ≤ len ∧ y = .int .i64 i ∧ z = .int .i64 (nxl last (A.row.take i)) ∧ wq = w5) (fun _ y _ => len - (RowKit.intOf y).toNat)
    case atStart => exact ⟨0, Nat.zero_le _, rfl, rfl, rfl⟩
    case round =>
      obtain ⟨i, hi, rfl, rfl, hww⟩ := hrel
      rw [hww]
      by_cases hlt : i < len
      · have hki : (i : Int) < len := by omega
        obtain ⟨g, ha, hc, hn, hd⟩ := HC.out i hlt
        subst ha
        replace hc := cell_later HB.out hc
        replace hn := cell_later HB.out hn
        replace hd := cell_later HB.out hd
        have HT := hid (nxl_take (last := last) (l := A.row) (j := i) (by rw [← HLN.out]; exact hlt))
        unfold nxs at HT
        generalize ad (A.row.getD i default).num = y at *
        generalize (A.row.getD i default).num = x at *
        generalize (A.row.getD i default).dirty = dd at *
        generalize nxl last (A.row.take i) = nx at *
        cases dd with
        | false =>
          have HT2 := hid (HT.out.trans (if_neg (by simp)))
          clear HT
          go_wp2_with fail
          go_roundw
          case rel => exact ⟨i + 1, by omega, by go_num, by rw [HT2.out], by first | rfl | trivial⟩
          case measure => simp [RowKit.intOf]; omega
        | true =>
          by_cases h1 : last < x
          · by_cases h2 : nx < 0
            · have HT2 := hid (HT.out.trans (if_pos ⟨rfl, h1, .inl h2⟩))
              clear HT
              go_wp2_with fail
              go_roundw
              case rel => exact ⟨i + 1, by omega, by go_num, by rw [HT2.out], by first | rfl | trivial⟩
              case measure => simp [RowKit.intOf]; omega
            · by_cases h3 : x < nx
              · have HT2 := hid (HT.out.trans (if_pos ⟨rfl, h1, .inr h3⟩))
                clear HT
                go_wp2_with fail
                go_roundw
                case rel => exact ⟨i + 1, by omega, by go_num, by rw [HT2.out], by first | rfl | trivial⟩
                case measure => simp [RowKit.intOf]; omega
              · have HT2 := hid (HT.out.trans (if_neg (by rintro ⟨_, _, h4 | h4⟩; exact h2 h4; exact h3 h4)))
                clear HT
                go_wp2_with fail
                go_roundw
                case rel => exact ⟨i + 1, by omega, by go_num, by rw [HT2.out], by first | rfl | trivial⟩
                case measure => simp [RowKit.intOf]; omega
          · have HT2 := hid (HT.out.trans (if_neg (fun h => h1 h.2.1)))
            clear HT
            go_wp2_with fail
            go_roundw
            case rel => exact ⟨i + 1, by omega, by go_num, by rw [HT2.out], by first | rfl | trivial⟩
            case measure => simp [RowKit.intOf]; omega
      · have hki : ¬ ((i : Int) < len) := by omega
        have hiL : A.row.take i = A.row := List.take_of_length_le (by have := HLN.out; omega)
        rw [hiL, HNE.out]
        clear hiL
        by_cases hjl : j < lD
        · rw [if_pos hjl]
          have hge := HGE.out j hjl
          have hge2 : ¬ (D.getD j 0 < 0) := by omega
          obtain ⟨a2, n2, c2', w6, hap, ho, hm, _⟩ := push_own w5 w.heap.size (.slice a5 j c5) (D.take j) (by rw [HTL.out]; exact HR.out) HB.out.size (D.getD j 0) (by rw [HTL.out]; have := HDL.out.2; omega)
          have hdt : D.take j ++ [D.getD j 0] = D.take (j + 1) := by
            have hjD : j < D.length := by have := HLD.out; omega
            rw [List.take_succ_eq_append_getElem hjD]
            simp [List.getD, hjD]
          rw [hdt] at ho
          have HO := hid ho
          have HB6 := hid (hm.to_below HB.out HB.out.size (fun g hg => (owns_lt HR.out hg).2))
          have HL1 : Hid (D.getD j 0 = lst D (j + 1)) := hid (by unfold lst; rw [if_neg (by omega)]; rfl)
          have HN2 : Hid (n2 = j + 1) := hid (by
            obtain ⟨a9, c9, e9⟩ := owns_slice ho
            simp only [Value.slice.injEq] at e9
            rw [e9.2.1, List.length_take]
            have := HLD.out
            omega)
          clear ho hm hdt hge
          generalize hdj : D.getD j 0 = dj at *
          clear hdj
          go_wp2_with (at_builtin; refine wpList_append_run rfl _ _ 35 rfl rfl rfl hap ?_)
          go_roundw
          case rel => exact ⟨j + 1, by omega, by rw [HL1.out], HO.out, HB6.out⟩
          case measure =>
            show lD - lenV (.slice a2 n2 c2') < lD - lenV (.slice a5 j c5)
            have := HN2.out
            simp only [lenV]
            omega
        · rw [if_neg hjl]
          obtain rfl : j = lD := by omega
          have HRR : Hid (w5.ownsRow w.heap.size 3 1 (.slice a5 j c5) j (ints D)) := hid (by
            have := HR.out
            rw [HLD.out, List.take_length] at this
            rw [HLD.out]
            exact this)
          go_wp2_with fail
          go_ret
          exact ⟨_, rfl, HRR.out, HB.out⟩
end
set_option maxRecDepth 100000 in
set_option maxHeartbeats 1000000 in
theorem sameInts_same (w : World) (v u : Value) (l : List Int) (n : Nat) (hn : l.length = n) (h : w.ownsRow 0 3 1 v n (ints l)) (h' : w.ownsRow 0 3 1 u n (ints l)) (hl : n ≤ 1000000) :
    Calls Try.prog 11 #[v, u] w fun e w' => e = .returned (.bool true) ∧ Below w.heap.size w w' := by
  subst hn
  have HC : Hid (∀ j, j < l.length → ∃ g c g' c', v = .slice (some ⟨g, 0, none⟩) l.length c ∧ u = .slice (some ⟨g', 0, none⟩) l.length c' ∧ (∀ q, (w.drewN q).cell? ⟨g, j, none⟩ = some (.int .i64 (l.getD j 0))) ∧ (∀ q, (w.drewN q).cell? ⟨g', j, none⟩ = some (.int .i64 (l.getD j 0)))) := hid (fun j hj => by
    obtain ⟨g, c, e, hc, _⟩ := owns_int h hj
    obtain ⟨g', c', e', hc', _⟩ := owns_int h' hj
    exact ⟨g, c, g', c', e, e', fun q => hc, fun q => hc'⟩)
  obtain ⟨a, c, rfl⟩ := owns_slice h
  obtain ⟨a', c', rfl⟩ := owns_slice h'
  clear h h'
  obtain ⟨len, hln⟩ : ∃ len, len = l.length := ⟨_, rfl⟩
  rw [← hln] at hl HC ⊢
  clear hln
  go_enter Try.func11, Try.ntmps11
  go_wp2_with fail
  go_loopw [5] (fun z wr => ∃ j q : Nat, j ≤ len ∧ z = .int .i64 j ∧ wr = w.drewN q) (fun z _ => len - (RowKit.intOf z).toNat)
  case atStart => exact ⟨0, 0, Nat.zero_le _, rfl, rfl⟩
  case round =>
    obtain ⟨j, q, hj, rfl, hww⟩ := hrel
    rw [hww]
    by_cases hlt : j < len
    · have hki : (j : Int) < len := by omega
      obtain ⟨g, c1, g', c1', e1, e2, hc, hc'⟩ := HC.out j hlt
      simp only [Value.slice.injEq] at e1 e2
      obtain ⟨rfl, _, q1⟩ := e1
      obtain ⟨rfl, _, q2⟩ := e2
      clear q1 q2
      generalize l.getD j 0 = x at *
      go_wp2_with fail
      go_quiet (fail)
      go_wp2_with fail
      go_roundw
      case rel => exact ⟨j + 1, _, by omega, by go_num, rfl⟩
      case measure => simp [RowKit.intOf]; omega
    · have hki : ¬ ((j : Int) < len) := by omega
      go_wp2_with fail
      go_ret
      exact ⟨rfl, below_drewN (Below.refl _ _) _⟩
end Go.Proofs.Ytdfnfcimajomeaa
