/- A base of blocks, a view over it: held; Block, lay, look. -/
import Derived.Test.YtoplbmbeadpilaaVdA
import Derived.Test.YtoplbmbeadpilaaVeB
namespace Go.Proofs.Ytoplbmbeadpilaa
open Go.RowKit Go.Maps
set_option linter.unusedVariables false

/-- A base: its blocks, which of them lack. -/
def Bs (w : World) (q : Nat) (T : Nat → Prop) (N : Nat) (bc : Nat → List Int) (lk : Nat → Bool) : Prop :=
  ∃ gB gL cB cL, w.heap[q]? = some (.cells #[.slice (some ⟨gB, 0, none⟩) N N, .slice (some ⟨gL, 0, none⟩) N N] 61 (0, 0)) ∧ w.heap[gB]? = some (.cells cB 35 (0, 0)) ∧ w.heap[gL]? = some (.cells cL 4 (0, 0)) ∧ T q ∧ T gB ∧ T gL ∧ (∀ k, k < N → cL[k]? = some (.bool (lk k))) ∧
    ∀ k, k < N → (cB[k]? = some (.slice none 0 0) ∧ bc k = zeros512) ∨ ∃ a c, cB[k]? = some (.slice (some a) 512 c) ∧ 512 ≤ c ∧ (bc k).length = 512 ∧ By w T (some a) (bc k)
theorem Bs.keep {w w' : World} {q N : Nat} {T : Nat → Prop} {bc : Nat → List Int} {lk : Nat → Bool} (h : Bs w q T N bc lk) (hk : ∀ g, T g → g < w.heap.size → w'.heap[g]? = w.heap[g]?) : Bs w' q T N bc lk := by
  obtain ⟨gB, gL, cB, cL, h1, h2, h3, t1, t2, t3, h4, h5⟩ := h
  refine ⟨gB, gL, cB, cL, (hk _ t1 (Array.getElem?_eq_some_iff.1 h1).1).trans h1, (hk _ t2 (Array.getElem?_eq_some_iff.1 h2).1).trans h2, (hk _ t3 (Array.getElem?_eq_some_iff.1 h3).1).trans h3, t1, t2, t3, h4, fun k hkN => ?_⟩
  rcases h5 k hkN with h6 | ⟨a, c, h6, h7, h8, h9⟩
  · exact .inl h6
  · exact .inr ⟨a, c, h6, h7, h8, h9.keep hk⟩
theorem Bs.later {w w' : World} {q N : Nat} {T : Nat → Prop} {bc : Nat → List Int} {lk : Nat → Bool} (h : Bs w q T N bc lk) (hb : Below w.heap.size w w') : Bs w' q T N bc lk := h.keep fun g _ hl => hb.block g hl
theorem Bs.len {w : World} {q N : Nat} {T : Nat → Prop} {bc : Nat → List Int} {lk : Nat → Bool} (h : Bs w q T N bc lk) {k : Nat} (hk : k < N) : (bc k).length = 512 := by
  obtain ⟨gB, gL, cB, cL, h1, h2, h3, t1, t2, t3, h4, h5⟩ := h
  rcases h5 k hk with ⟨_, h6⟩ | ⟨a, c, _, _, h8, _⟩
  · rw [h6]; exact zeros_len
  · exact h8
theorem made512_by (w : World) : By (w.alloc (.cells (madeCells #[.int .u8 0] 512) 5)) (New w) (some ⟨w.heap.size, 0, none⟩) zeros512 := by
  have h := (BitR.made w).by_ (S := New w) (Nat.le_refl w.heap.size)
  rw [bitB_none] at h
  exact h
theorem nil_same (w : World) : (binOp .eql 35 (.slice none 0 0) (.slice none 0 0)).run Try.prog w = .ok (.bool true) w := by kernel_rfl
theorem nil_other (w : World) (a : Addr) (n c : Nat) : (binOp .eql 35 (.slice (some a) n c) (.slice none 0 0)).run Try.prog w = .ok (.bool false) w := by kernel_rfl
set_option maxRecDepth 100000 in
set_option maxHeartbeats 1000000 in
theorem Block_any (w : World) (q N : Nat) (T : Nat → Prop) (bc : Nat → List Int) (lk : Nat → Bool) (h : Bs w q T N bc lk) (k : Nat) (hk : k < N) (hN : N ≤ 100000) (hl : lk k = false) :
    Calls Try.prog 11 #[.pointer (some ⟨q, 0, none⟩), n64 k] w fun e w' => ∃ a c, e = .returned (.tuple #[.slice (some a) 512 c, .nilIface]) ∧ By w' (New w) (some a) (bc k) ∧ 512 ≤ c ∧ Below w.heap.size w w' := by
  obtain ⟨gB, gL, cB, cL, h1, h2, h3, _, _, _, h4, h5⟩ := h
  have q0 : w.cell? ⟨q, 0, none⟩ = some (.slice (some ⟨gB, 0, none⟩) N N) := cell_of h1 rfl
  have q1 : w.cell? ⟨q, 1, none⟩ = some (.slice (some ⟨gL, 0, none⟩) N N) := cell_of h1 rfl
  have l0 : w.cell? ⟨gL, k, none⟩ = some (.bool false) := by rw [← hl]; exact cell_of h3 (h4 k hk)
  have hki : (k : Int) < N := by omega
  have hk0 : ¬ (k : Int) < 0 := by omega
  have hk1 : ¬ (N : Int) ≤ (k : Int) := by omega
  have hmk := run_make_row' (P := Try.prog) 35 5 (.int .u8 0) 1 Try.underlying35 info5 rfl .i64 .i64 512 (by omega) (by omega)
  rw [show ((512 : Nat) : Int) = 512 by omega] at hmk
  have hns := nil_same w
  have hno := nil_other w
  rcases h5 k hk with ⟨e0, e1⟩ | ⟨⟨ab, ao, ax⟩, c, e0, hc, hlen, hy⟩
  · have b0 : w.cell? ⟨gB, k, none⟩ = some (.slice none 0 0) := cell_of h2 e0
    have HY := hid (made512_by w)
    rw [← e1] at HY
    clear h1 h2 h3 h4 h5 e0 e1
    go_enter Try.func11, Try.ntmps11
    go_wp2
    go_ret2
    exact ⟨_, _, rfl, HY.out, Nat.le_refl _, (Below.refl _ _).alloc (Nat.le_refl _) _⟩
  · have b0 : w.cell? ⟨gB, k, none⟩ = some (.slice (some ⟨ab, ao, ax⟩) 512 c) := cell_of h2 e0
    obtain ⟨a2, c2, w2, hap, hy2, hc2, hb2, _⟩ := twinB w T (some ⟨ab, ao, ax⟩) 512 c (bc k) hlen (by decide) (by decide) hy 35
    obtain ⟨gb, go, rfl, _, _⟩ := hy2.addr (by rw [hlen]; decide)
    have HY := hid hy2
    have HB := hid hb2
    obtain ⟨W, hW⟩ : ∃ W, W = w.alloc (.cells #[] 5) := ⟨_, rfl⟩
    rw [← hW] at hap
    have hbW : Below w.heap.size w W := by rw [hW]; exact (Below.refl _ _).alloc (Nat.le_refl _) _
    have q0' : W.cell? ⟨q, 0, none⟩ = some (.slice (some ⟨gB, 0, none⟩) N N) := cell_later hbW q0
    have b0' : W.cell? ⟨gB, k, none⟩ = some (.slice (some ⟨ab, ao, ax⟩) 512 c) := cell_later hbW b0
    clear h1 h2 h3 h4 h5 e0 hy hy2 hb2 hbW hlen
    go_enter Try.func11, Try.ntmps11
    go_wp2_with (first | (rw [← hW]; clear hW) | (at_builtin; refine wpList_append_run rfl _ _ 35 rfl rfl rfl hap ?_; clear hap))
    go_wp2
    go_ret2
    exact ⟨_, _, rfl, HY.out, hc2, HB.out⟩

/-! ### a view -/
def viewC (base : Value) (m : Nat) (b i : Int) : Array Value := #[base, .map (some m), n64 b, n64 i, n64 1, n64 2, n64 68, n64 69, n64 (planT b), n64 (planD b i), n64 69, n64 (planD b i), n64 b, n64 68, n64 2, n64 i]
def DatIs (w : World) (S : Nat → Prop) (P : Int → Option (List Int)) (MV : Int → Option Value) (k : Int) : Prop :=
  (P k = none ∧ MV k = none) ∨ ∃ l a c, P k = some l ∧ MV k = some (.slice a 512 c) ∧ l.length = 512 ∧ By w S a l ∧ 512 ≤ c
def Vw (w : World) (pv : Nat) (S : Nat → Prop) (b i : Int) (base : Value) (n : Nat) (P : Int → Option (List Int)) : Prop :=
  ∃ m MV, w.heap[pv]? = some (.cells (viewC base m b i) 72 (0, 0)) ∧ S pv ∧ S m ∧ MapIs w m n MV ∧ ∀ k, IsI k → DatIs w S P MV k
variable {w w' : World} {pv n : Nat} {S S' : Nat → Prop} {b i : Int} {base : Value} {P : Int → Option (List Int)}
theorem Vw.keep (h : Vw w pv S b i base n P) (hk : ∀ g, S g → g < w.heap.size → w'.heap[g]? = w.heap[g]?) : Vw w' pv S b i base n P := by
  obtain ⟨m, MV, h1, s1, s2, h2, h3⟩ := h
  refine ⟨m, MV, (hk _ s1 (Array.getElem?_eq_some_iff.1 h1).1).trans h1, s1, s2, h2.keep (hk _ s2 h2.lt), fun k hkI => ?_⟩
  rcases h3 k hkI with h4 | ⟨l, a, c, h4, h5, h6, h7, h8⟩
  · exact .inl h4
  · exact .inr ⟨l, a, c, h4, h5, h6, h7.keep hk, h8⟩
theorem Vw.later (h : Vw w pv S b i base n P) (hb : Below w.heap.size w w') : Vw w' pv S b i base n P := h.keep fun g _ hl => hb.block g hl
theorem Vw.mono (h : Vw w pv S b i base n P) {n' : Nat} (hn : n ≤ n') : Vw w pv S b i base n' P :=
  let ⟨m, MV, h1, s1, s2, h2, h3⟩ := h; ⟨m, MV, h1, s1, s2, h2.mono hn, h3⟩
theorem map_block {m : Nat} {MV : Int → Option Value} (h : MapIs w m n MV) {cs : Array Value} {t : TypeId} {fr : Nat × Nat} (hh : w.heap[m]? = some (.cells cs t fr)) : False := by
  obtain ⟨D, ⟨es, c, h1, _⟩, _⟩ := h
  rw [h1] at hh
  cases hh
theorem By.mods_map {a : Option Addr} {l : List Int} {m : Nat} {MV : Int → Option Value} (h : By w S a l) (hm : MapIs w m n MV) (hmo : Mods (fun g => g = m) w w') : By w' S a l :=
  ⟨h.1, fun h0 => by
    obtain ⟨b, off, cur, fr, e, hS, hh, hc⟩ := h.2 h0
    exact ⟨b, off, cur, fr, e, hS, (hmo.block b (Array.getElem?_eq_some_iff.1 hh).1 (fun e => by subst e; exact map_block hm hh)).trans hh, hc⟩⟩
theorem isI_nat {x : Int} (h0 : 0 ≤ x) (h1 : x < 1000000) : IsI x := isI_of (by omega) (by omega)
set_option maxRecDepth 100000 in
set_option maxHeartbeats 1000000 in
theorem lay_any (h : Vw w pv S b i base n P) (hn : n < 1000000) (k : Int) (hk : IsI k) (D : Nat → Prop) (l : List Int) (hl : l.length = 512) (a : Option Addr) (c : Nat) (hc : 512 ≤ c) (hy : By w D a l) :
    Calls Try.prog 21 #[.pointer (some ⟨pv, 0, none⟩), n64 k, .slice a 512 c] w fun e w' => e = .returned (.tuple #[]) ∧ Vw w' pv (fun g => S g ∨ D g) b i base (n + 1) (upd P k (some l)) ∧ Mods S w w' := by
  obtain ⟨m, MV, h1, s1, s2, h2, h3⟩ := h
  have p1 : w.cell? ⟨pv, 1, none⟩ = some (.map (some m)) := cell_of h1 rfl
  obtain ⟨w2, hrun, hm2, hg2⟩ := h2.put (t := 66) (e := 35) Try.underlying66 (by unfold maxLen; omega) hk (.slice a 512 c)
  have hmo : Mods (fun g => g = m) w w2 := Mods.of_grown' hg2
  have HF : Hid (Vw w2 pv (fun g => S g ∨ D g) b i base (n + 1) (upd P k (some l)) ∧ Mods S w w2) := hid (by
    refine ⟨⟨m, _, (hmo.block _ (Array.getElem?_eq_some_iff.1 h1).1 (fun e => by subst e; exact map_block h2 h1)).trans h1, .inl s1, .inl s2, hm2, fun j hj => ?_⟩, hmo.weak (fun g hg => by subst hg; exact .inl s2)⟩
    by_cases e : j = k
    · subst e
      refine .inr ⟨l, a, c, upd_same _ _ _, upd_same _ _ _, hl, (hy.mods_map h2 hmo).weak (fun _ hg _ => .inr hg), hc⟩
    · unfold DatIs
      rw [upd_other _ _ e, upd_other _ _ e]
      rcases h3 j hj with h4 | ⟨l', a', c', h4, h5, h6, h7, h8⟩
      · exact .inl h4
      · exact .inr ⟨l', a', c', h4, h5, h6, (h7.mods_map h2 hmo).weak (fun _ hg _ => .inl hg), h8⟩)
  clear h1 h2 h3 hm2 hg2 hmo hy
  go_enter Try.func21, Try.ntmps21
  go_wp2
  go_end0
  exact ⟨rfl, HF.out⟩
theorem zeroBs (w : World) : (zeroValue 35).run Try.prog w = .ok (.slice none 0 0) w := by kernel_rfl
set_option maxRecDepth 100000 in
set_option maxHeartbeats 1000000 in
/-- What was put is told. -/
theorem look_put (h : Vw w pv S b i base n P) (k : Int) (hk : IsI k) (l : List Int) (hl : P k = some l) :
    Calls Try.prog 25 #[.pointer (some ⟨pv, 0, none⟩), n64 k] w fun e w' => ∃ a c, e = .returned (.tuple #[.slice (some a) 512 c, .nilIface]) ∧ By w' S (some a) l ∧ 512 ≤ c ∧ w' = w := by
  obtain ⟨m, MV, h1, s1, s2, h2, h3⟩ := h
  have p1 : w.cell? ⟨pv, 1, none⟩ = some (.map (some m)) := cell_of h1 rfl
  have hlk := h2.look_ok (t := 66) (e := 35) Try.underlying66 (zeroBs w) hk
  rcases h3 k hk with ⟨e, _⟩ | ⟨l', a, c, e1, e2, hlen, hy, hc⟩
  · rw [hl] at e; cases e
  · rw [hl] at e1
    simp only [Option.some.injEq] at e1
    subst e1
    obtain ⟨gb, go, rfl, _, _⟩ := hy.addr (by rw [hlen]; decide)
    rw [e2] at hlk
    simp only [Option.getD_some, Option.isSome_some] at hlk
    have HY := hid hy
    clear h1 h2 h3 hy
    go_enter Try.func25, Try.ntmps25
    go_wp2
    go_ret2
    exact ⟨_, _, rfl, HY.out, hc, rfl⟩
theorem methB (b : Nat) (w : World) : (method 277 24 (.pointer (some ⟨b, 0, none⟩)) "Block").run Try.prog w = .ok (11, .pointer (some ⟨b, 0, none⟩)) w := by kernel_rfl
theorem callB (args : Array Value) (w : World) : (callFunc 11 args).run Try.prog w = .ok (.enter 11 args) w := by kernel_rfl
def baseV (q : Nat) : Value := .iface 24 (.pointer (some ⟨q, 0, none⟩))
set_option maxRecDepth 100000 in
set_option maxHeartbeats 1000000 in
/-- Else what the base tells. -/
theorem look_base (q : Nat) (h : Vw w pv S b i (baseV q) n P) (N : Nat) (T : Nat → Prop) (bc : Nat → List Int) (lk : Nat → Bool) (hB : Bs w q T N bc lk) (k : Nat) (hk : k < N) (hN : N ≤ 100000) (hlk : lk k = false) (hl : P k = none) :
    Calls Try.prog 25 #[.pointer (some ⟨pv, 0, none⟩), n64 k] w fun e w' => ∃ a c, e = .returned (.tuple #[.slice (some a) 512 c, .nilIface]) ∧ By w' (New w) (some a) (bc k) ∧ 512 ≤ c ∧ Below w.heap.size w w' := by
  obtain ⟨m, MV, h1, s1, s2, h2, h3⟩ := h
  have hkI : IsI (k : Int) := isI_nat (by omega) (by omega)
  have p0 : w.cell? ⟨pv, 0, none⟩ = some (baseV q) := cell_of h1 rfl
  have p1 : w.cell? ⟨pv, 1, none⟩ = some (.map (some m)) := cell_of h1 rfl
  have hlo := h2.look_ok (t := 66) (e := 35) Try.underlying66 (zeroBs w) hkI
  have HC := hid (Block_any w q N T bc lk hB k hk hN hlk)
  have hmb := methB q
  have hcb := callB
  unfold baseV at p0
  rcases h3 k hkI with ⟨_, e⟩ | ⟨l', a, c, e1, _⟩
  · rw [e] at hlo
    simp only [Option.getD_none, Option.isSome_none] at hlo
    clear h1 h2 h3 hB
    go_enter Try.func25, Try.ntmps25
    go_wp2_with fail
    refine HC.out.mono ?_
    rintro e w2 ⟨a2, c2, rfl, hy2, hc2, hb2⟩
    have HY := hid hy2
    have HB := hid hb2
    clear hy2 hb2
    go_wp2
    go_ret2
    exact ⟨_, _, rfl, HY.out, hc2, HB.out⟩
  · rw [hl] at e1; cases e1
end Go.Proofs.Ytoplbmbeadpilaa
