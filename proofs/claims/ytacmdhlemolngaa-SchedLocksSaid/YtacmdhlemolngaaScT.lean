/- SchedTurns: workers that are ready take turns. -/
import Derived.Test.YtacmdhlemolngaaScR
namespace Go.Proofs.Ytacmdhlemolngaa
open Go.RowKit Go.Maps

def rot (n j : Nat) : List Int := (List.range n).map fun i => (((j + i) % n : Nat) : Int)
theorem rot_len (n j : Nat) : (rot n j).length = n := by simp [rot]
theorem rot_head (n j : Nat) (hn : 0 < n) : (rot n j).getD 0 0 = ((j % n : Nat) : Int) := by simp [rot, List.getD, hn]
theorem rot_mem {n j : Nat} {x : Int} (h : x ∈ rot n j) : 0 ≤ x ∧ x < n := by
  simp only [rot, List.mem_map, List.mem_range] at h
  obtain ⟨i, hi, rfl⟩ := h
  have := Nat.mod_lt (j + i) (show 0 < n by omega)
  omega
theorem rot_next (n j : Nat) (hn : 0 < n) : (rot n j).eraseIdx 0 ++ [((j % n : Nat) : Int)] = rot n (j + 1) := by
  obtain ⟨m, rfl⟩ : ∃ m, n = m + 1 := ⟨n - 1, by omega⟩
  unfold rot
  rw [List.range_succ_eq_map, List.map_cons, List.eraseIdx_cons_zero, List.map_map]
  rw [← List.range_succ_eq_map, List.range_succ, List.map_append]
  congr 1
  · apply List.map_congr_left
    intro i _
    simp only [Function.comp, Nat.succ_eq_add_one]
    rw [show j + (i + 1) = j + 1 + i by omega]
  · simp only [List.map_cons, List.map_nil]
    rw [show j + 1 + m = j + (m + 1) by omega, Nat.add_mod_right]
theorem rot_nodup (n j : Nat) : (rot n j).Nodup := by
  unfold rot
  rw [List.nodup_iff_pairwise_ne, List.pairwise_map]
  refine (List.nodup_iff_pairwise_ne.1 List.nodup_range).imp_of_mem (fun {a b} ha hb hne e => hne ?_)
  simp only [List.mem_range] at ha hb
  have e2 : (j + a) % n = (j + b) % n := by omega
  have h1 := Nat.div_add_mod (j + a) n
  have h2 := Nat.div_add_mod (j + b) n
  have h3 := Nat.mod_lt (j + a) (show 0 < n by omega)
  rw [e2] at h1
  generalize (j + a) / n = q1 at *
  generalize (j + b) / n = q2 at *
  generalize (j + b) % n = r at *
  rcases Nat.lt_trichotomy q1 q2 with h | h | h
  · have : n * (q1 + 1) ≤ n * q2 := Nat.mul_le_mul_left n h
    rw [Nat.mul_add] at this
    omega
  · rw [h] at h1; omega
  · have : n * (q2 + 1) ≤ n * q1 := Nat.mul_le_mul_left n h
    rw [Nat.mul_add] at this
    omega
def tS (T : TypeId) (cs : List Nat) (j : Nat) : Ab := ⟨cs.map (fun c => ⟨some (T, c), 1, 0⟩), rot cs.length j, fun _ => [], fun _ => [], 0, [], false⟩
theorem tS_zero (T : TypeId) : tS T [] 0 = Ab.zero := rfl
theorem tS_spawn (T : TypeId) (cs : List Nat) (c : Nat) : (tS T cs 0).spawn (some (T, c)) = tS T (cs ++ [c]) 0 := by
  have e0 : ∀ n, rot n 0 = (List.range n).map fun (i : Nat) => (i : Int) := fun n => by
    unfold rot
    apply List.map_congr_left
    intro i hi
    rw [Nat.zero_add, Nat.mod_eq_of_lt (List.mem_range.1 hi)]
  unfold Ab.spawn Ab.ready tS
  simp only [List.length_map, List.length_append, List.length_cons, List.length_nil, e0, List.range_succ, List.map_append, List.map_cons, List.map_nil]
  congr 1
  simp [rdy, setw]
theorem tS_len (T : TypeId) (cs : List Nat) (j : Nat) : (tS T cs j).ws.length = cs.length := by simp [tS]
theorem tS_has (T : TypeId) (cs : List Nat) (j : Nat) (x : Int) : (tS T cs j).has x = decide (0 ≤ x ∧ x < cs.length) := by unfold Ab.has; rw [tS_len]
theorem tS_wk (T : TypeId) (cs : List Nat) (j i : Nat) (h : i < cs.length) : (tS T cs j).wk (i : Int) = ⟨some (T, cs.getD i 0), 1, 0⟩ := by
  unfold Ab.wk tS
  simp [List.getD, h]
theorem tS_inv (T : TypeId) (cs : List Nat) (j : Nat) : Inv (tS T cs j) none := by
  have hk : ∀ x, (tS T cs j).has x = true → ((tS T cs j).wk x).st = 1 ∧ ((tS T cs j).wk x).row = 0 := fun x hx => by
    rw [tS_has] at hx
    simp at hx
    obtain ⟨i, rfl⟩ : ∃ i : Nat, x = i := ⟨x.toNat, by omega⟩
    rw [tS_wk T cs j i (by omega)]
    exact ⟨rfl, rfl⟩
  have hq : (tS T cs j).q = rot cs.length j := rfl
  have hm : ∀ x, (tS T cs j).has x = true → x ∈ rot cs.length j := fun x hx => by
    rw [tS_has] at hx
    simp at hx
    -- a count: the row has as many different numbers as there are
    refine Classical.byContradiction (fun hn => ?_)
    have h1 := few cs.length (x :: rot cs.length j) (List.nodup_cons.2 ⟨hn, rot_nodup _ _⟩) (fun y hy => by
      rcases List.mem_cons.1 hy with rfl | hy
      · omega
      · exact rot_mem hy)
    rw [List.length_cons, rot_len] at h1
    omega
  refine ⟨fun x hx _ => by rw [(hk x hx).1]; omega, fun x hx => by rw [(hk x hx).2]; exact isI_of (by omega) (by omega), fun x hx => ?_, fun x hx _ _ _ => hm x hx, rot_nodup _ _, fun k x hx => by simp [tS] at hx, fun x hx h _ => ?_, fun k => by simp [tS], fun k x hx => by simp [tS] at hx, fun k x hx => by simp [tS] at hx, fun x hx h _ => ?_, fun k => by simp [tS], fun a ha => by simp [tS] at ha, fun x hx h _ => ?_, by simp [tS]⟩
  · have := rot_mem hx
    have hx2 : (tS T cs j).has x = true := by rw [tS_has]; simpa using this
    exact ⟨hx2, (hk x hx2).1, by simp⟩
  · rw [(hk x hx).1] at h; omega
  · rw [(hk x hx).1] at h; omega
  · rw [(hk x hx).1] at h; omega
/-- How often a worker was picked. -/
def cnt (n : Nat) : Nat → Nat → Nat
  | 0, _ => 0
  | j + 1, i => cnt n j i + (if j % n = i then 1 else 0)
theorem cnt_eq (n : Nat) (hn : 0 < n) (i : Nat) (hi : i < n) : ∀ j, cnt n j i = j / n + (if i < j % n then 1 else 0)
  | 0 => by simp [cnt]
  | j + 1 => by
    rw [cnt, cnt_eq n hn i hi j]
    have h1 := Nat.div_add_mod j n
    have h2 := Nat.mod_lt j hn
    generalize hq : j / n = q at *
    generalize hr : j % n = r at *
    by_cases h : r + 1 = n
    · have e1 : (j + 1) / n = q + 1 := by rw [← h1, show n * q + r + 1 = n * q + n by omega, ← Nat.mul_succ, Nat.mul_div_cancel_left _ hn]
      have e2 : (j + 1) % n = 0 := by rw [← h1, show n * q + r + 1 = n * q + n by omega, ← Nat.mul_succ, Nat.mul_mod_right]
      rw [e1, e2]
      split <;> split <;> split <;> omega
    · have e1 : (j + 1) / n = q := by rw [← h1, show n * q + r + 1 = n * q + (r + 1) by omega, Nat.mul_add_div hn, Nat.div_eq_of_lt (show r + 1 < n by omega)]; rfl
      have e2 : (j + 1) % n = r + 1 := by rw [← h1, show n * q + r + 1 = n * q + (r + 1) by omega, Nat.mul_add_mod, Nat.mod_eq_of_lt (by omega)]
      rw [e1, e2]
      split <;> split <;> split <;> omega
theorem infoC : (Try.prog.info? 75).map (fun i => (i.zero, i.size, i.bytes)) = some (some (.pointer none), 1, 8) := by kernel_rfl
theorem infoCb : ∃ i, Try.prog.info? 75 = some i ∧ i.zero = some (.pointer none) ∧ i.size = 1 ∧ i.bytes = 8 := by
  have := infoC
  cases h : Try.prog.info? 75 with
  | none => rw [h] at this; cases this
  | some i => rw [h] at this; simp at this; exact ⟨i, rfl, this.1, this.2.1, this.2.2⟩
def ptrs (cs : List Nat) : List Value := cs.map fun b => .pointer (some ⟨b, 0, none⟩)
theorem appC_run (w : World) (v : Value) (cs : List Nat) (h : w.ownsRow 0 75 1 v cs.length (ptrs cs)) (sb c x : Nat) (hcell : w.cell? ⟨sb, 0, none⟩ = some (.pointer (some ⟨x, 0, none⟩))) (hl : cs.length ≤ 1000) (ty : TypeId) :
    ∃ v' w', (Builtin.append_ #[74, 74] ty #[v, .slice (some ⟨sb, 0, none⟩) 1 c]).run Try.prog w = .ok v' w' ∧ w'.ownsRow 0 75 1 v' (cs ++ [x]).length (ptrs (cs ++ [x])) ∧ Mods (fun b => v.ownBlock = some b) w w' ∧ (v'.ownBlock = v.ownBlock ∨ v'.ownBlock = some w.heap.size) := by
  obtain ⟨i0, hi, hz0, hz1, hz2⟩ := infoCb
  obtain ⟨v', w', hr, ho, hg, _, hob⟩ := run_append_own_at (P := Try.prog) w 0 74 ty 75 i0 _ 1 8 Try.underlying74 hi hz0 hz1 hz2 rfl (by decide) v cs.length (ptrs cs) h ⟨sb, 0, none⟩ 1 c (ptrs [x]) rfl
    (fun j u hj => by
      have hj2 : j < 1 := by have := (List.getElem?_eq_some_iff.1 hj).1; simpa [ptrs] using this
      obtain rfl : j = 0 := by omega
      rw [add_addr, Nat.zero_add, hcell]
      simpa [ptrs] using hj) (fun u hu => by simp [ptrs] at hu; rw [hu]; rfl) (by unfold maxLen; omega) (by omega) (Nat.zero_le _)
  refine ⟨v', w', hr, ?_, Mods.of_grown hg, hob⟩
  rw [List.length_append]
  simpa [ptrs] using ho
set_option maxRecDepth 100000 in
theorem counter_any (w : World) (c : Nat) (k : Int) (a b : Value) (hh : w.heap[c]? = some (.cells #[.int .i64 k] 77 (0, 0))) (hk : 0 ≤ k ∧ k < 1000) :
    Calls Try.prog 122 #[.pointer (some ⟨c, 0, none⟩), a, b] w fun e w' => e = .returned undef ∧ w' = w.setCell ⟨c, 0, none⟩ (.int .i64 (k + 1)) := by
  have c0 : w.cell? ⟨c, 0, none⟩ = some (.int .i64 k) := cell_of hh rfl
  have f0 := froz_of hh 0
  have hw : IntKind.i64.wrap (k + 1) = k + 1 := IntWalk.i64_in _ (by omega)
  clear hh
  go_enter Try.func122, Try.ntmps122
  go_wp2
  go_end0
  exact ⟨rfl, rfl⟩
/-- The law's own: its counters, and how often each was picked. -/
structure Tm (w0 w : World) (lab : Nat → Own) (cs : List Nat) (v : Value) (N : Nat → Nat) : Prop where
  cell : ∀ i, i < cs.length → w.heap[cs.getD i 0]? = some (.cells #[.int .i64 (N i)] 77 (0, 0)) ∧ lab (cs.getD i 0) = .no ∧ w0.heap.size ≤ cs.getD i 0
  nd : cs.Nodup
  row : w.ownsRow 0 75 1 v cs.length (ptrs cs)
  rown : ∀ g, v.ownBlock = some g → lab g = .no ∧ w0.heap.size ≤ g ∧ g ∉ cs
  low : ∀ b, b < w0.heap.size → lab b = .no
  bel : Below w0.heap.size w0 w
theorem getD_mem' (cs : List Nat) (i : Nat) (h : i < cs.length) : cs.getD i 0 ∈ cs := by simp [List.getD, h]
theorem getD_inj {cs : List Nat} (hn : cs.Nodup) {i k : Nat} (hi : i < cs.length) (hk : k < cs.length) (e : cs.getD i 0 = cs.getD k 0) : i = k := by
  simp only [List.getD, List.getElem?_eq_getElem hi, List.getElem?_eq_getElem hk, Option.getD_some] at e
  have h := List.pairwise_iff_getElem.1 (List.nodup_iff_pairwise_ne.1 hn)
  rcases Nat.lt_trichotomy i k with h1 | h1 | h1
  · exact absurd e (h i k hi hk h1)
  · exact h1
  · exact absurd e.symm (h k i hk hi h1)
theorem Tm.lt {w0 w : World} {lab : Nat → Own} {cs : List Nat} {v : Value} {N : Nat → Nat} (h : Tm w0 w lab cs v N) : ∀ c ∈ cs, c < w.heap.size := fun c hc => by
  obtain ⟨i, hi, rfl⟩ := List.getElem_of_mem hc
  have := (h.cell i hi).1
  simp only [List.getD, List.getElem?_eq_getElem hi, Option.getD_some] at this
  exact (Array.getElem?_eq_some_iff.1 this).1
theorem Tm.keep {w0 w w' : World} {lab lab' : Nat → Own} {cs : List Nat} {v : Value} {N : Nat → Nat} (h : Tm w0 w lab cs v N) (hk : Keep lab w lab' w') : Tm w0 w' lab' cs v N := by
  have lt : ∀ b, b < w0.heap.size → b < w.heap.size := fun b hb => Nat.lt_of_lt_of_le hb h.bel.size
  refine ⟨fun i hi => ?_, h.nd, owns_keep h.row (fun g hg => hk.block (owns_lt h.row hg).1 (h.rown g hg).1), fun g hg => ⟨hk.lab (owns_lt h.row hg).1 (h.rown g hg).1, (h.rown g hg).2⟩, fun b hb => hk.lab (lt b hb) (h.low b hb), hk.2.to_below h.bel h.bel.size (fun b hb => ?_)⟩
  · obtain ⟨h1, h2, h3⟩ := h.cell i hi
    have hl : cs.getD i 0 < w.heap.size := (Array.getElem?_eq_some_iff.1 h1).1
    exact ⟨(hk.block hl h2).trans h1, hk.lab hl h2, h3⟩
  · by_cases e : b < w0.heap.size
    · exact absurd (h.low b e) hb
    · omega
/-- A worker's count goes on. -/
theorem Tm.count {w0 w : World} {lab : Nat → Own} {cs : List Nat} {v : Value} {N : Nat → Nat} (h : Tm w0 w lab cs v N) {i : Nat} (hi : i < cs.length) :
    Tm w0 (w.setCell ⟨cs.getD i 0, 0, none⟩ (.int .i64 ((N i : Int) + 1))) lab cs v (fun k => N k + (if i = k then 1 else 0)) := by
  obtain ⟨h1, h2, h3⟩ := h.cell i hi
  have hm : Mods (fun b => b = cs.getD i 0) w (w.setCell ⟨cs.getD i 0, 0, none⟩ (.int .i64 ((N i : Int) + 1))) := (Mods.refl _ _).setCell _ _ _ rfl
  refine ⟨fun k hk => ?_, h.nd, owns_keep h.row (fun g hg => hm.block g (owns_lt h.row hg).1 (fun e => (h.rown g hg).2.2 (by rw [e]; exact getD_mem' cs i hi))), h.rown, h.low, hm.to_below h.bel h.bel.size (fun b e => by rw [e]; exact h3)⟩
  obtain ⟨k1, k2, k3⟩ := h.cell k hk
  refine ⟨?_, k2, k3⟩
  by_cases e : i = k
  · subst e
    rw [if_pos rfl]
    exact setc h1 0 _
  · rw [if_neg e, Nat.add_zero]
    exact (hm.block _ (Array.getElem?_eq_some_iff.1 k1).1 (fun e2 => e (getD_inj h.nd hi hk e2.symm))).trans k1
theorem methC (b : Nat) (w : World) : (method 272 75 (.pointer (some ⟨b, 0, none⟩)) "Step").run Try.prog w = .ok (122, .pointer (some ⟨b, 0, none⟩)) w := by kernel_rfl
theorem callC (args : Array Value) (w : World) : (callFunc 122 args).run Try.prog w = .ok (.enter 122 args) w := by kernel_rfl
set_option maxRecDepth 100000 in
theorem pick_tn {w0 w : World} {p : Nat} {lab : Nat → Own} {cs : List Nat} {v : Value} {j m : Nat} {N : Nat → Nat} (hsc : Sc w p lab (tS 75 cs j) m) (h : Tm w0 w lab cs v N) (hn : 0 < cs.length) (hl : cs.length ≤ 9) (hN : ∀ i, N i < 1000) :
    Calls Try.prog 18 #[.pointer (some ⟨p, 0, none⟩), .int .i64 0] w fun e w' => e = .returned (.tuple #[.int .i64 ((j % cs.length : Nat) : Int), .int .i64 0]) ∧ ∃ lab', Sc w' p lab' (tS 75 cs (j + 1)) m ∧ Tm w0 w' lab' cs v (fun k => N k + (if j % cs.length = k then 1 else 0)) := by
  have hql : (tS 75 cs j).q.length = cs.length := rot_len _ _
  have hq : (tS 75 cs j).q ≠ [] := by rw [← List.length_pos_iff, hql]; exact hn
  have hp : pickAt (tS 75 cs j) 0 = 0 := by
    unfold pickAt wi
    rw [hql]
    simp
  have hx : (tS 75 cs j).q.getD 0 0 = ((j % cs.length : Nat) : Int) := rot_head _ _ hn
  have hlt := Nat.mod_lt j hn
  have hc := Pick_some hsc rfl hq (by rw [hql]; omega) 0 (fun w' => ∃ lab', Sc w' p lab' (tS 75 cs (j + 1)) m ∧ Tm w0 w' lab' cs v (fun k => N k + (if j % cs.length = k then 1 else 0)))
  rw [hp, hx] at hc
  refine hc (fun w1 lab1 hS1 hK1 => ?_)
  have hB : ∀ (s : Bool), ({ ({ tS 75 cs j with q := (tS 75 cs j).q.eraseIdx 0 } : Ab) with stp := s } : Ab).wk ((j % cs.length : Nat) : Int) = ⟨some (75, cs.getD (j % cs.length) 0), 1, 0⟩ := fun s => tS_wk 75 cs j _ hlt
  have hhas : (tS 75 cs j).has ((j % cs.length : Nat) : Int) = true := by rw [tS_has]; simp; omega
  obtain ⟨g1, g2, g3⟩ := h.cell _ hlt
  have hg : cs.getD (j % cs.length) 0 < w.heap.size := (Array.getElem?_eq_some_iff.1 g1).1
  refine (step_any hS1 _ hhas 75 (cs.getD (j % cs.length) 0) (by rw [show ({ tS 75 cs j with q := (tS 75 cs j).q.eraseIdx 0 } : Ab).wk ((j % cs.length : Nat) : Int) = _ from hB false]) 122 (methC _) callC (fun w2 lab2 A2 n2 => A2 = { tS 75 cs j with q := (tS 75 cs j).q.eraseIdx 0, stp := true } ∧ n2 = m ∧ ∃ w1', Keep lab w lab2 w1' ∧ w2 = w1'.setCell ⟨cs.getD (j % cs.length) 0, 0, none⟩ (.int .i64 ((N (j % cs.length) : Int) + 1))) (fun w2 hS2 hK2 => ?_)).mono ?_
  · have hk12 := hK1.trans hK2
    refine (counter_any w2 _ (N (j % cs.length)) _ _ ((hk12.block hg g2).trans g1) (by have := hN (j % cs.length); omega)).mono ?_
    rintro e w3 ⟨rfl, rfl⟩
    refine ⟨rfl, lab1, _, m, ⟨rfl, rfl, w2, hk12, rfl⟩, hS2.outside ((Mods.refl (fun b => b = cs.getD (j % cs.length) 0) _).setCell _ _ _ rfl) (fun b e => by rw [e]; exact hk12.lab hg g2), ?_, hhas⟩
    show ((rot cs.length j).eraseIdx 0).length ≤ _
    rw [List.length_eraseIdx, rot_len]
    split <;> omega
  · rintro e w3 ⟨rfl, w2, lab2, A2, n2, ⟨rfl, rfl, w1', hk, rfl⟩, lab3, hS3, hK3⟩
    refine ⟨rfl, lab3, ?_⟩
    have he : ({ tS 75 cs j with q := (tS 75 cs j).q.eraseIdx 0, stp := true } : Ab).ended ((j % cs.length : Nat) : Int) = tS 75 cs (j + 1) := by
      unfold Ab.ended
      rw [show ({ tS 75 cs j with q := (tS 75 cs j).q.eraseIdx 0, stp := true } : Ab).wk ((j % cs.length : Nat) : Int) = _ from hB true]
      have hnm : ((j % cs.length : Nat) : Int) ∉ (rot cs.length j).eraseIdx 0 := by
        rw [eraseIdx_nd (rot_nodup _ _) (by rw [rot_len]; exact hn), rot_head _ _ hn]
        exact (List.Nodup.not_mem_erase (rot_nodup _ _))
      rw [if_pos ⟨rfl, hnm⟩]
      show ({ tS 75 cs j with q := (rot cs.length j).eraseIdx 0 ++ [((j % cs.length : Nat) : Int)], stp := false } : Ab) = _
      rw [rot_next _ _ hn]
      rfl
    rw [he] at hS3
    exact ⟨hS3, ((h.keep hk).count hlt).keep hK3⟩
end Go.Proofs.Ytacmdhlemolngaa
