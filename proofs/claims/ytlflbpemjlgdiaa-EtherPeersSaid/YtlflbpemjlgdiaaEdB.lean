/- Peers: forget. -/
import Derived.Test.YtlflbpemjlgdiaaEdA
import Derived.Test.YtlflbpemjlgdiaaEdS
namespace Go.Proofs.Ytlflbpemjlgdiaa
open Go.RowKit Go.Maps
set_option linter.unusedVariables false

def dropP (L : List Pe) (x : Int) : List Pe := L.filter (fun e => !decide (e.ip = x))
theorem dropP_ips (L : List Pe) (x : Int) : (dropP L x).map Pe.ip = (L.map Pe.ip).filter (fun y => !decide (y = x)) := by
  unfold dropP
  rw [List.filter_map]
  rfl
theorem look_drop (L : List Pe) (x k : Int) : lookP (dropP L x) k = if k = x then none else lookP L k := by
  unfold lookP dropP
  rw [List.find?_filter]
  by_cases h : k = x
  · subst h
    rw [if_pos rfl, List.find?_eq_none]
    intro e _
    simp
  · rw [if_neg h]
    congr 1
    funext e
    by_cases h2 : e.ip = k
    · have : ¬ e.ip = x := fun e2 => h (h2.symm.trans e2)
      simp [h2, h]
    · simp [h2]
theorem lookM_drop (L : List Pe) (x : Int) : upd (lookM L) x none = lookM (dropP L x) := by
  funext k
  unfold lookM upd
  rw [look_drop]
  by_cases h : k = x <;> simp [h]
theorem OkL.drop {L : List Pe} (h : OkL L) (x : Int) : OkL (dropP L x) :=
  ⟨fun e he => h.ok e (List.mem_filter.1 he).1, Nat.le_trans (List.length_filter_le _ _) h.len, by rw [dropP_ips]; exact h.nd.filter _⟩
theorem nop_void {P : Program} {ops : Array Oper} {Q : Exit → Act → World → Prop} {i : Nat} {o : Oper} {a : Act} {w : World} {K : Act → World → Prop} (ho : ops[i]? = some o) (hg : Region.wanted o (yielded ops a.tmps) = true) (hd : o.dst = none) {v : Value} {w' : World} (hrun : (execOp a.eval o).run P w = .ok (.value v) w') (h : K a w') : wpOp P ops Q i K a w :=
  nop_value ho hg hrun (by rw [nput_none hd]; exact h)
theorem u32v_get {l : List Int} {j : Nat} (h : j < l.length) : (u32v l)[j]? = some (.int .u32 (l.getD j 0)) := by simp [List.getD, h]
/-- slices.DeleteFunc of a row of one's own. -/
theorem delF_own (w : World) (v : Value) (l : List Int) (x : Int) (B : Nat) (h : w.ownsRow 0 40 1 v l.length (u32v l)) (hp : 0 < l.length) (hl : l.length ≤ 1000) (hB : w.heap[B]? = some (.cells #[.int .u32 x] 40 (0, 0))) (hne : ∀ g, v.ownBlock = some g → B ≠ g) :
    ∃ g cap, v = .slice (some ⟨g, 0, none⟩) l.length cap ∧ Calls Try.prog 45 #[v, .func (.func 46) #[] #[.pointer (some ⟨B, 0, none⟩)]] w fun e w' => ∃ v', e = .returned v' ∧ w'.ownsRow 0 40 1 v' (l.filter fun y => !decide (y = x)).length (u32v (l.filter fun y => !decide (y = x))) ∧ v'.ownBlock = v.ownBlock ∧ Mods (fun b => b = g) w w' := by
  rcases h.2 with ⟨rfl, h0⟩ | ⟨g, cap, cur, rfl, _, hh, h1, h2, h3, h4⟩
  · omega
  refine ⟨g, cap, rfl, ?_⟩
  have hcur : ∀ j, j < l.length → cur[j]? = some (.int .u32 (l.getD j 0)) := fun j hj => by
    have e : (cur.toList.take (l.length * 1))[j]? = (u32v l)[j]? := by rw [h4]
    rw [List.getElem?_take, if_pos (by omega), Array.getElem?_toList, u32v_get hj] at e
    exact e
  have hH : Sort.Holds (Value.int .u32) w g 0 l.toArray := fun j hj => by
    have hj2 : j < l.length := by simpa using hj
    refine ⟨?_, froz_of hh _⟩
    rw [Nat.zero_add]
    refine cell_of hh ?_
    rw [hcur j hj2]
    simp [List.getD, hj2]
  have hcon := delF_any g 0 cap B l.toArray x w hH (Array.getElem?_eq_some_iff.1 hB).1 (hne g rfl) (cell_of hB rfl) (by simp; omega) (by simpa using h1)
  simp only [List.size_toArray] at hcon
  refine hcon.mono ?_
  rintro e w' ⟨rfl, q, rfl⟩
  have hfl : (l.filter fun y => !decide (y = x)).length ≤ l.length := List.length_filter_le _ _
  generalize hf : (l.filter fun y => !decide (y = x)) = f at *
  have hblk : (Sort.putRow (Value.int .u32) (Sort.ahead w q) g 0 (f ++ List.replicate (l.length - f.length) 0).toArray).heap[g]? = some (.cells (Sort.putCells (Value.int .u32) 0 (f ++ List.replicate (l.length - f.length) 0).toArray cur) 40 (0, 0)) := by
    simp [Sort.putRow, Sort.mapBlock, Sort.ahead, Array.getElem?_modify, hh, Sort.onCells]
  refine ⟨_, rfl, owns_of_block hblk (by omega) h2 (by simp [Sort.putCells, h3]) (fun j hj => ?_) (by simp), rfl, ⟨rfl, rfl, rfl, by simp [Sort.ahead], fun b hb hn => ?_⟩⟩
  · rw [u32v_get hj]
    have hjc : j < cur.size := by omega
    simp [Sort.putCells, hjc, List.getD, hj, List.getElem?_append_left hj]
    intro hge
    omega
  · simp [Sort.putRow, Sort.mapBlock, Sort.ahead, Array.getElem?_modify, show ¬ g = b from fun e => hn e.symm]
set_option maxRecDepth 100000 in
set_option maxHeartbeats 2000000 in
theorem forget_any (w : World) (p n : Nat) (S : Nat → Prop) (own : Mac) (ip : Int) (L : List Pe) (x : Int) (hx : IsU x) (h : PeAt w p S own ip n L) (hS : ∀ b, S b → b < w.heap.size) (hp : 0 < L.length) :
    Calls Try.prog 32 #[.pointer (some ⟨p, 0, none⟩), .int .u32 x] w fun e w' => e = .returned (.tuple #[]) ∧ PeAt w' p S own ip n (dropP L x) ∧ Mods S w w' := by
  obtain ⟨⟨how, hip, hok, hsp⟩, gm, vi, hP, hM, hR, hsg, hsv⟩ := h
  obtain ⟨g1, hg1⟩ : ∃ g, w.heap.size = g := ⟨_, rfl⟩
  obtain ⟨W1, hW1⟩ : ∃ W, W = w.alloc (.cells #[.int .u32 x] 40) := ⟨_, rfl⟩
  have b1 : Below w.heap.size w W1 := by rw [hW1]; exact below_alloc (Below.refl _ _) (Nat.le_refl _) _
  have h11 : W1.heap[g1]? = some (.cells #[.int .u32 x] 40 (0, 0)) := by rw [hW1, ← hg1]; exact alloc_new w _
  have hp1 := (b1.block p (Array.getElem?_eq_some_iff.1 hP).1).trans hP
  have hM1 : MapU W1 gm n (lookM L) := hM.keep (b1.block gm hM.lt)
  obtain ⟨W2, hdel, hM2, hg2⟩ := MapU.del (w := W1.drew) (hM1.keep rfl) Try.underlying71 hx 0
  rw [lookM_drop] at hM2
  have hne1 : p ≠ gm := fun e => by
    subst e
    obtain ⟨D, ⟨es, c, hh, _⟩, _⟩ := hM
    rw [hP] at hh
    simp at hh
  have hgl : gm < g1 := by rw [← hg1]; exact hM.lt
  have oth : ∀ b, b < W1.heap.size → b ≠ gm → W2.heap[b]? = W1.heap[b]? := fun b hb hn => hg2.block b hb (fun e => hn (by simpa using e))
  have hp2 := (oth p (Array.getElem?_eq_some_iff.1 hp1).1 hne1).trans hp1
  have h21 := (oth g1 (Array.getElem?_eq_some_iff.1 h11).1 (by omega)).trans h11
  have hrm : ∀ g, vi.ownBlock = some g → g ≠ gm := fun g hg e => by
    subst e
    obtain ⟨cur, hk⟩ := owns_kind hR hg
    obtain ⟨D, ⟨es, c, hh, _⟩, _⟩ := hM
    rw [hk] at hh
    simp at hh
  have hrp : ∀ g, vi.ownBlock = some g → g ≠ p := fun g hg e => by
    subst e
    obtain ⟨cur, hk⟩ := owns_kind hR hg
    rw [hP] at hk
    simp at hk
  have hlen : L.length = (L.map Pe.ip).length := by simp
  have hR2 : W2.ownsRow 0 40 1 vi (L.map Pe.ip).length (u32v (L.map Pe.ip)) := by
    rw [hlen] at hR
    exact owns_keep hR (fun g hg => (oth g (Nat.lt_of_lt_of_le (owns_lt hR hg).1 b1.size) (hrm g hg)).trans (b1.block g (owns_lt hR hg).1))
  obtain ⟨gr, cap, rfl, hcall⟩ := delF_own W2 vi (L.map Pe.ip) x g1 hR2 (by simpa using hp) (by have := hok.len; simp; omega) h21 (fun g hg e => by have := (owns_lt hR hg).1; omega)
  rw [← dropP_ips] at hcall
  obtain ⟨nl, hnl⟩ : ∃ nl, (L.map Pe.ip).length = nl := ⟨_, rfl⟩
  rw [hnl] at hcall hP hp1 hp2
  have hm2 : Mods S w W2 := (Mods.of_below b1).tr (((Mods.refl S W1).drew).trans (Mods.of_grown' hg2) (fun b hb => by subst hb; exact .inl hsg))
  have HDL := hid hdel
  have HP1 := hid hp1
  have H11 := hid h11
  have HP2 := hid hp2
  have H21 := hid h21
  have HM2 := hid hM2
  have HMD2 := hid hm2
  have HCALL := hid hcall
  have HR2 := hid hR2
  have HSV := hid hsv
  have HSG := hid hsg
  have HSP := hid hsp
  have HOK := hid (hok.drop x)
  have HOW := hid how
  have HIP := hid hip
  have HRP := hid (hrp gr rfl)
  have HRM := hid (hrm gr rfl)
  have HNE := hid hne1
  have hc8 : W2.cell? ⟨p, 8, none⟩ = some (.slice (some ⟨gr, 0, none⟩) nl cap) := cell_of hp2 rfl
  have hf8 : W2.frozen? ⟨p, 8, none⟩ = false := froz_of hp2 8
  have HW := hW1.symm
  clear hW1 b1 hp1 h11 hp2 h21 hM1 hM2 hm2 hcall hR2 hsv hsg hsp hok how hip hrp hrm hne1 hdel hg2 oth hgl hM hR hP hx hS hp hlen hnl
  go_enter Try.func32, Try.ntmps32
  go_upto_region 1 with fail
  refine wp_region_held_drew (S := fun W => W.heap[p]? = some (.cells (peC own ip gm (.slice (some ⟨gr, 0, none⟩) nl cap)) 73 (0, 0)) ∧ W.heap[g1]? = some (.cells #[.int .u32 x] 40 (0, 0))) (by kernel_rfl) ⟨HP1.out, H11.out⟩ (fun hS => ?_)
  refine nany_take 0 4 (.pointer (some ⟨p, 0, none⟩)) rfl rfl (by kernel_rfl) (by kernel_rfl) (by kernel_rfl) (fun _ _ _ h => h) (Or.inl ⟨by rfl, ?_⟩) hS ?_
  · rintro w' hS'
    go_simp
  simp only [List.setIfInBounds_toArray, List.set_cons_zero, List.set_cons_succ]
  refine nany_take 1 5 (.pointer (some ⟨p, 0, none⟩)) rfl rfl (by kernel_rfl) (by kernel_rfl) (by kernel_rfl) (fun _ _ _ h => h) (Or.inl ⟨by rfl, ?_⟩) hS ?_
  · rintro w' hS'
    go_simp
  simp only [List.setIfInBounds_toArray, List.set_cons_zero, List.set_cons_succ]
  refine nany_take 2 6 (.pointer (some ⟨p, 7, none⟩)) rfl rfl (by kernel_rfl) (by kernel_rfl) (by kernel_rfl) (fun _ _ _ h => h) (Or.inl ⟨by rfl, ?_⟩) hS ?_
  · rintro w' hS'
    go_simp
  simp only [List.setIfInBounds_toArray, List.set_cons_zero, List.set_cons_succ]
  refine nany_take 3 7 (.map (some gm)) rfl rfl (by kernel_rfl) (by kernel_rfl) (by kernel_rfl) (fun _ _ _ h => h) (Or.inl ⟨by rfl, ?_⟩) hS ?_
  · rintro w' hS'
    have hc := cell_of hS'.1 (i := 7) (v := .map (some gm)) rfl; go_simp
  simp only [List.setIfInBounds_toArray, List.set_cons_zero, List.set_cons_succ]
  refine nany_take 4 8 (.int .u32 x) rfl rfl (by kernel_rfl) (by kernel_rfl) (by kernel_rfl) (fun _ _ _ h => h) (Or.inl ⟨by rfl, ?_⟩) hS ?_
  · rintro w' hS'
    have hc := cell_of hS'.2 (i := 0) (v := .int .u32 x) rfl; go_simp
  simp only [List.setIfInBounds_toArray, List.set_cons_zero, List.set_cons_succ]
  refine nany_one 5 (by kernel_rfl) ?_
  refine nop_void (v := .tuple #[]) (w' := W2) rfl (by rfl) rfl (by simp [execOp, resolve, invoke, builtin, Act.eval, HDL.out, Result.andThen]) ?_
  refine ⟨⟨HP2.out, H21.out⟩, ?_⟩
  refine wpAnyH_done (by kernel_rfl) ?_ _
  clear hS
  go_wp2_with (go_at_call 45; refine HCALL.out.mono ?_; rintro e w3 ⟨v3, rfl, ho3, hb3, hm3⟩; obtain ⟨a3, c3, rfl⟩ := owns_slice ho3; have hp3 := (hm3.block p (Array.getElem?_eq_some_iff.1 HP2.out).1 (fun e => HRP.out e.symm)).trans HP2.out; have HP3 := hid hp3; have HO3 := hid ho3; have HM3 := hid hm3; have HOB3 := hid hb3; have hc83 := cell_of hp3 (i := 8) (v := .slice (some ⟨gr, 0, none⟩) nl cap) rfl; have hf83 := froz_of hp3 8; clear ho3 hb3 hm3 hp3 hc8 hf8 HP2)
  go_end0
  obtain ⟨v3, hv3⟩ : ∃ v, v = Value.slice a3 (dropP L x).length c3 := ⟨_, rfl⟩
  have HO3' := HO3.out
  have HOB3' := HOB3.out
  have m38 : Mods (fun b => b = p) w3 (w3.setCell ⟨p, 8, none⟩ v3) := (Mods.refl (fun b => b = p) w3).setCell p 8 v3 rfl
  rw [List.length_map] at HO3' HOB3'
  rw [← hv3] at HO3' HOB3' ⊢
  have hm3 : Mods S W2 w3 := HM3.out.weak (fun b hb => by subst hb; exact .inl (HSV.out _ rfl))
  have hs3 : W2.heap.size ≤ w3.heap.size := hm3.size
  refine ⟨rfl, ⟨⟨HOW.out, HIP.out, HOK.out, HSP.out⟩, gm, v3, setc HP3.out 8 v3, ?_, ?_, HSG.out, fun g hg => ?_⟩, (HMD2.out.tr hm3).tr (m38.weak (fun b hb => by subst hb; exact .inl HSP.out))⟩
  · refine HM2.out.keep ?_
    rw [m38.block gm (Nat.lt_of_lt_of_le HM2.out.lt hs3) (fun e => HNE.out e.symm)]
    exact HM3.out.block gm HM2.out.lt (fun e => HRM.out e.symm)
  · refine owns_keep HO3' (fun g hg => m38.block g (owns_lt HO3' hg).1 (fun e => ?_))
    rw [HOB3'] at hg
    simp [Value.ownBlock] at hg
    exact HRP.out (hg.trans e)
  · rw [HOB3'] at hg
    exact HSV.out g hg
end Go.Proofs.Ytlflbpemjlgdiaa
