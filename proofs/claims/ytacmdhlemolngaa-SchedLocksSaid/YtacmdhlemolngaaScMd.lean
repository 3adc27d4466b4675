/- SchedLocks: a sharer's step. -/
import Derived.Test.YtacmdhlemolngaaScMc
import Derived.Deep.RegionLaw
import Derived.BigRegion
namespace Go.Proofs.Ytacmdhlemolngaa
open Go.RowKit

theorem hands_ey' {L : List Int} {A : Ab} {r : Option Int} (I : Inv A r) (y : Int) (hy : A.has y = true) : ((A.hands L).wk y).t = (A.wk y).t := by
  induction L generalizing A with
  | nil => rfl
  | cons k L ih =>
    show (((A.hand k).hands L).wk y).t = _
    rw [ih (I.hand k) (hand_wk I k hy).1, hand_t]
/-- Whose task each one is. -/
def Tk (A : Ab) (N : Nat) (cs : Nat → Nat) : Prop := ∀ i, i < N → (A.wk (i : Int)).st ≠ 5 → (A.wk (i : Int)).t = some (68, cs i)
section
variable {w0 w w' : World} {p n : Nat} {lab lab' : Nat → Own} {A : Ab} {N T : Nat} {cs : Nat → Nat} {sh : Nat → Sh} {bi bb bo : Nat} {vi vo : Value} {ins ord : List Int} {x : Nat}
/-- All that is held between two picks (r = none), or within a step. -/
structure All (w0 w : World) (p : Nat) (lab : Nat → Own) (A : Ab) (n : Nat) (r : Option Int) (N T : Nat) (cs : Nat → Nat) (sh : Nat → Sh) (bi bb bo : Nat) (vi vo : Value) (ins ord : List Int) : Prop where
  sc : Sc w p lab A n
  lk : Lk A r N T sh ins ord
  lw : Lw w0 w lab N cs sh bi bb bo vi vo ins ord
  tk : Tk A N cs
/-- What a step leaves. -/
def Stp (w0 w' : World) (p n : Nat) (x N T : Nat) (cs : Nat → Nat) (bi bb bo : Nat) (P : Nat) (L : Nat) : Prop := ∃ lab' A' sh' vi' vo' ins' ord', All w0 w' p lab' A' n (some (x : Int)) N T cs sh' bi bb bo vi' vo' ins' ord' ∧ sm (fun i => phi (sh' i)) N + 1 = P ∧ ord'.length ≤ L + 1
theorem Lw.cells (h : Lw w0 w lab N cs sh bi bb bo vi vo ins ord) (hx : x < N) : w.cell? ⟨cs x, 0, none⟩ = some (.int .i64 ((sh x).t : Nat)) ∧ w.cell? ⟨cs x, 1, none⟩ = some (.int .i64 ((sh x).w : Nat)) ∧ w.cell? ⟨cs x, 2, none⟩ = some (.int .i64 ((sh x).n : Nat)) ∧ w.cell? ⟨cs x, 3, none⟩ = some (.int .i64 (sv (sh x).s : Nat)) ∧ w.cell? ⟨cs x, 4, none⟩ = some (.pointer (some ⟨bi, 0, none⟩)) ∧ w.cell? ⟨cs x, 5, none⟩ = some (.pointer (some ⟨bb, 0, none⟩)) ∧ w.cell? ⟨cs x, 6, none⟩ = some (.pointer (some ⟨bo, 0, none⟩)) ∧ (∀ k, w.frozen? ⟨cs x, k, none⟩ = false) := by
  have h1 := (h.cell x hx).1
  exact ⟨cell_of h1 rfl, cell_of h1 rfl, cell_of h1 rfl, cell_of h1 rfl, cell_of h1 rfl, cell_of h1 rfl, cell_of h1 rfl, froz_of h1⟩
set_option maxRecDepth 100000 in
set_option maxHeartbeats 2000000 in
theorem step_exit (h : All w0 w p lab A n (some (x : Int)) N T cs sh bi bb bo vi vo ins ord) (hx : x < N) (h1 : (A.wk (x : Int)).st = 1) (hN : N ≤ 12) (hn : n ≤ 1000000) (hs : (sh x).s = 0) (ht : (sh x).t = 0) :
    Calls Try.prog 121 #[.pointer (some ⟨cs x, 0, none⟩), .pointer (some ⟨p, 0, none⟩), .int .i64 x] w fun e w' => e = .returned undef ∧ Stp w0 w' p (n + 2) x N T cs bi bb bo (sm (fun i => phi (sh i)) N) ord.length := by
  obtain ⟨c0, _, _, c3, _⟩ := h.lw.cells hx
  rw [ht] at c0
  rw [hs] at c3
  replace c0 : w.cell? ⟨cs x, 0, none⟩ = some (.int .i64 0) := c0
  replace c3 : w.cell? ⟨cs x, 3, none⟩ = some (.int .i64 0) := c3
  have hhas := h.lk.has hx
  have hf : Fit A := h.lk.inv.fit (by rw [h.lk.len]; omega)
  have ha : allowR A x 1 = 0 := by unfold allowR; rw [hhas, h1]; rfl
  have HEX := hid (Exit_ok h.sc (by omega) x ha hhas (Leaves.of h.sc hf (by omega) hhas (by omega)) (fun L M _ => (h.lk.inv.fin hhas).hands.fit (by rw [hands_len, (fin_wk hhas).1, h.lk.len]; omega)))
  have HR : Hid (∀ w' lab' L, Holds (A.fin (x : Int)) x L → Sc w' p lab' ((A.fin (x : Int)).hands L) (n + 1) → Keep lab w lab' w' → Stp w0 w' p (n + 2) x N T cs bi bb bo (sm (fun i => phi (sh i)) N) ord.length) := hid (fun w' lab' L hL hS hK => by
    have hy : shC { sh x with s := 3 } bi bb bo = shC (sh x) bi bb bo := by unfold shC; rw [hs]; rfl
    have hlw : Lw w0 w' lab' N cs (updN sh x { sh x with s := 3 }) bi bb bo vi vo ins ord := by
      have h2 := h.lw.keep hK
      refine ⟨fun i hi => ?_, h2.inj, h2.hi, h2.hb, h2.ho, h2.own, h2.ne, h2.ri, h2.ro, h2.rn, h2.rr, h2.low⟩
      by_cases e : i = x
      · subst e; rw [updN_same, hy]; exact h2.cell i hi
      · rw [updN_other sh _ e]; exact h2.cell i hi
    refine ⟨lab', _, _, vi, vo, ins, ord, ⟨hS.more (by omega), h.lk.exit hx hs ht hL, hlw, fun i hi h5 => ?_⟩, ?_, by omega⟩
    · obtain ⟨f1, f2, f3, f4⟩ := fin_wk hhas
      have hi2 := h.lk.has hi
      by_cases e : i = x
      · subst e
        exact absurd ((hands_st5 (h.lk.inv.fin hhas) (i : Int) (by rw [f2]; exact hi2)).2.2 (by rw [f3])) h5
      · rw [(hands_ey' (h.lk.inv.fin hhas) (i : Int) (by rw [f2]; exact hi2)), f4 _ (by omega) (by omega)]
        refine h.tk i hi (fun e5 => h5 ((hands_st5 (h.lk.inv.fin hhas) (i : Int) (by rw [f2]; exact hi2)).2.2 ?_))
        rw [f4 _ (by omega) (by omega)]; exact e5
    · have g := sm_upd phi sh x { sh x with s := 3 } N hx
      have g2 := phi_exit (sh x) hs ht
      dsimp only at g g2 ⊢
      omega)
  clear h hhas hf ha
  go_enter Try.func121, Try.ntmps121
  go_wp2_with (go_at_call 29; refine HEX.out.mono ?_; rintro e w1 ⟨rfl, L, hL, lab1, hS1, hK1⟩; have HR1 := hid (HR.out w1 lab1 L hL hS1 hK1); clear hL hS1 hK1)
  (try simp only [Exit.inBlock, Exit.then]); refine bodyPost_ret (results_none rfl _ _ _) rfl ?_
  exact ⟨rfl, HR1.out⟩
set_option maxRecDepth 100000 in
set_option maxHeartbeats 2000000 in
theorem step_work (h : All w0 w p lab A n (some (x : Int)) N T cs sh bi bb bo vi vo ins ord) (hx : x < N) (hs : (sh x).s = 2) (hn0 : 1 ≤ (sh x).n) :
    Calls Try.prog 121 #[.pointer (some ⟨cs x, 0, none⟩), .pointer (some ⟨p, 0, none⟩), .int .i64 x] w fun e w' => e = .returned undef ∧ Stp w0 w' p (n + 2) x N T cs bi bb bo (sm (fun i => phi (sh i)) N) ord.length := by
  obtain ⟨_, _, c2, c3, _, _, _, hf⟩ := h.lw.cells hx
  rw [hs] at c3
  replace c3 : w.cell? ⟨cs x, 3, none⟩ = some (.int .i64 2) := c3
  have f2 := hf 2
  have hb := (h.lk.nm x hx).2.2.2.2
  have HR : Hid (Stp w0 (w.setCell ⟨cs x, 2, none⟩ (.int .i64 ((sh x).n - 1 : Int))) p (n + 2) x N T cs bi bb bo (sm (fun i => phi (sh i)) N) ord.length) := hid (by
    obtain ⟨g1, g2⟩ := h.lw.set hx 2 (.int .i64 ((sh x).n - 1 : Int)) { sh x with n := (sh x).n - 1 } (by
      unfold shC
      rw [show (((sh x).n - 1 : Nat) : Int) = (sh x).n - 1 by omega]
      rfl)
    refine ⟨lab, A, _, vi, vo, ins, ord, ⟨(h.sc.outside g2 (fun b e => by rw [e]; exact (h.lw.cell x hx).2.1)).more (by omega), h.lk.work hx, g1, h.tk⟩, ?_, by omega⟩
    have g := sm_upd phi sh x { sh x with n := (sh x).n - 1 } N hx
    have g2 := phi_work (sh x) hs hn0
    dsimp only at g g2 ⊢
    omega)
  have hw : IntKind.i64.wrap ((sh x).n - 1 : Int) = ((sh x).n - 1 : Int) := IntWalk.i64_in _ (by omega)
  have hp : (0 : Int) < ((sh x).n : Int) := by omega
  clear h hf
  generalize (sh x).n = nn at *
  go_enter Try.func121, Try.ntmps121
  go_wp2
  (try simp only [Exit.inBlock, Exit.then]); refine bodyPost_ret (results_none rfl _ _ _) rfl ?_
  exact ⟨rfl, HR.out⟩
theorem step_append_run {P : Program} {ops : Array Oper} {o : Oper} {a : Act} {w : World} {K : Act → World → Prop} {Q : Exit → Act → World → Prop} {E : Prop} (hgd : o.guard = none) (s x : Operand) (t : TypeId)
    (ho : o.op = .call { callee := .builtin .append, args := #[s, x], argTypes := #[t, t] }) {v y v' : Value} {w' : World} (hs : a.eval s = v) (hx : a.eval x = y)
    (hrun : (Builtin.append_ #[t, t] o.type #[v, y]).run P w = .ok v' w') (h : K (a.put o.dst v') w') :
    if Region.wanted o (yielded ops a.tmps) = true then Oper.wp P o a w K Q else E := by
  have hw : Region.wanted o (yielded ops a.tmps) = true := by simp [Region.wanted, hgd]
  rw [if_pos hw]
  unfold Oper.wp execOp
  simp only [ho, resolve, invoke, builtin, Sem.run_bind, Sem.run_pure, Result.andThen_ok, List.map_toArray, List.map_cons, List.map_nil, hs, hx, hrun]
  exact h
set_option maxRecDepth 100000 in
set_option maxHeartbeats 4000000 in
theorem step_ask (h : All w0 w p lab A n (some (x : Int)) N T cs sh bi bb bo vi vo ins ord) (hx : x < N) (h1 : (A.wk (x : Int)).st = 1) (hN : N ≤ 12) (hn : n ≤ 1000000) (hs : (sh x).s = 0) (ht : 1 ≤ (sh x).t) (ho : ord.length ≤ 100000) :
    Calls Try.prog 121 #[.pointer (some ⟨cs x, 0, none⟩), .pointer (some ⟨p, 0, none⟩), .int .i64 x] w fun e w' => e = .returned undef ∧ Stp w0 w' p (n + 2) x N T cs bi bb bo (sm (fun i => phi (sh i)) N) ord.length := by
  obtain ⟨c0, _, _, c3, _, _, c6, hf⟩ := h.lw.cells hx
  rw [hs] at c3
  replace c3 : w.cell? ⟨cs x, 3, none⟩ = some (.int .i64 0) := c3
  have hw : IntKind.i64.wrap (-1 - (x : Int)) = -1 - (x : Int) := IntWalk.i64_in _ (by omega)
  have ht0 : ((sh x).t : Int) ≠ 0 := by omega
  obtain ⟨av, cv, ev⟩ := owns_slice h.lw.ro.1
  have hbd : Below w.heap.size w w.drew := (Below.refl _ w).drew
  have hlwd := h.lw.keep (Keep.below (lab := lab) hbd)
  obtain ⟨v8, w8, hap, hr8, hm8, hv8⟩ := hlwd.ro.push hlwd.low.2.size (fun b hb => h.sc.lt b hb) (by omega) (-1 - (x : Int))
  obtain ⟨hl9, hm9⟩ := hlwd.pushO hr8 hm8 hv8
  have own9 : ∀ b, b = bo ∨ vo.ownBlock = some b → lab b = .no := fun b e => e.elim (fun e => by rw [e]; exact (h.lw.own bo (.inr (.inr rfl))).1) (fun e => (h.lw.ro.2 b e).1)
  have hs9 := (h.sc.below hbd).outside hm9 own9
  obtain ⟨W9, hW9⟩ : ∃ W9, W9 = w8.setCell ⟨bo, 0, none⟩ v8 := ⟨_, rfl⟩
  rw [← hW9] at hl9 hs9
  obtain ⟨hl10, hm10⟩ := hl9.set hx 3 (.int .i64 1) { sh x with s := 1 } (by unfold shC; rfl)
  have hs10 := hs9.outside hm10 (fun b e => by rw [e]; exact (h.lw.cell x hx).2.1)
  have d3 := (hl9.cells hx).2.2.2.1
  have f9 := (hl9.cells hx).2.2.2.2.2.2.2 3
  obtain ⟨W10, hW10⟩ : ∃ W10, W10 = W9.setCell ⟨cs x, 3, none⟩ (.int .i64 1) := ⟨_, rfl⟩
  rw [← hW10] at hl10 hs10
  have HLK := hid (Lock_any hs10 (h.lk.inv.fit (by rw [h.lk.len]; omega)) (by omega) (x : Int) 3 (isI_of (by omega) (by omega)))
  have HR : Hid (∀ w' lab', Sc w' p lab' (lockS A (x : Int) 3) (n + 2) → Keep lab W10 lab' w' → Stp w0 w' p (n + 2) x N T cs bi bb bo (sm (fun i => phi (sh i)) N) ord.length) := hid (fun w' lab' hS hK => by
    refine ⟨lab', _, _, vi, v8, ins, _, ⟨hS, h.lk.ask hx hs ht h1, hl10.keep hK, fun i hi h5 => ?_⟩, ?_, by simp⟩
    · rcases (lockS_wk (x : Int) 3 (i : Int) (h.lk.has hi)).2 with e | ⟨e, e1, e2⟩
      · rw [e] at h5 ⊢; exact h.tk i hi h5
      · have e3 : i = x := by omega
        subst e3
        rw [e2]
        exact h.tk i hi (by omega)
    · have g := sm_upd phi sh x { sh x with s := 1 } N hx
      have g2 := phi_ask (sh x) hs
      dsimp only at g g2 ⊢
      omega)
  subst ev
  have hbo : w.cell? ⟨bo, 0, none⟩ = some (.slice av ord.length cv) := cell_of h.lw.ho rfl
  have hb : Below w.heap.size w (w.alloc (.cells #[.int .i64 (-1 - (x : Int))] 3)) := (Below.refl _ w).alloc (Nat.le_refl _) _
  have s11 := cell_later hb c6
  have s12 := cell_later hb hbo
  clear hb
  have hS8 : w8.cell? ⟨cs x, 6, none⟩ = some (.pointer (some ⟨bo, 0, none⟩)) ∧ w8.cell? ⟨bo, 0, none⟩ = some (.slice av ord.length cv) := ⟨hm8.cell (w := w.drew) c6 (fun e => (h.lw.rn _ (.inr e)).2.2.2 x hx rfl), hm8.cell (w := w.drew) hbo (fun e => (h.lw.rn _ (.inr e)).2.2.1 rfl)⟩
  have hfb : w8.frozen? ⟨bo, 0, none⟩ = false := by
    have e1 : w8.heap[bo]? = some (.cells #[.slice av ord.length cv] 31 (0, 0)) := (hm8.block bo (blt h.lw.ho) (fun e => (h.lw.rn _ (.inr e)).2.2.1 rfl)).trans h.lw.ho
    exact froz_of e1 0
  obtain ⟨a8, c8, e8⟩ := owns_slice hr8.1
  subst e8
  have hap2 : (Builtin.append_ #[31, 31] 31 #[.slice av ord.length cv, .slice (some ⟨w.heap.size, 0, none⟩) 1 1]).run Try.prog (w.alloc (.cells #[.int .i64 (-1 - (x : Int))] 3)).drew = .ok (.slice a8 (ord ++ [-1 - (x : Int)]).length c8) w8 := hap
  clear h hf hlwd hr8 hm8 hv8 hl9 hm9 own9 hs9 hl10 hm10 hs10 hap
  generalize hln : ord.length = ln at *
  generalize (ord ++ [-1 - (x : Int)]).length = ln8 at *
  generalize (sh x).t = tt at *
  go_enter Try.func121, Try.ntmps121
  go_wp2_with fail
  obtain ⟨s81, s82⟩ := hS8
  go_region_law (refine step_append_run rfl _ _ 31 rfl rfl rfl hap2 ?_)
  all_goals
    rw [← hW9]
    clear hW9
    go_wp2_with (go_at_call 28; rw [← hW10]; refine HLK.out.mono ?_; rintro e w11 ⟨rfl, lab11, hS11, hK11⟩; have HR11 := hid (HR.out w11 lab11 hS11 hK11); clear hS11 hK11)
    go_end0
    exact ⟨rfl, HR11.out⟩
end
end Go.Proofs.Ytacmdhlemolngaa
