/- VfA, VfB in one text. -/
import Derived.Test.YtaplmlldmhdhoaaGreatDoorVeA
import Derived.Test.YtaplmlldmhdhoaaGreatDoorVeC
/- A base of blocks, a view over it: held; Block, lay, look. -/
namespace Go.Proofs.YtaplmlldmhdhoaaGreatDoor
open Go.RowKit Go.Maps
set_option linter.unusedVariables false

/-- A base: its blocks, which of them lack. -/
def Bs (w : World) (q : Nat) (T : Nat → Prop) (N : Nat) (bc : Nat → List Int) (lk : Nat → Bool) : Prop :=
  ∃ gB gL cB cL, w.heap[q]? = some (.cells #[.slice (some ⟨gB, 0, none⟩) N N, .slice (some ⟨gL, 0, none⟩) N N] 111 (0, 0)) ∧ w.heap[gB]? = some (.cells cB 59 (0, 0)) ∧ w.heap[gL]? = some (.cells cL 4 (0, 0)) ∧ T q ∧ T gB ∧ T gL ∧ (∀ k, k < N → cL[k]? = some (.bool (lk k))) ∧
    ∀ k, k < N → (cB[k]? = some (.slice none 0 0) ∧ bc k = zeros512) ∨ ∃ a c, cB[k]? = some (.slice (some a) 512 c) ∧ 512 ≤ c ∧ (bc k).length = 512 ∧ By w T (some a) (bc k)
theorem Bs.keep {w w' : World} {q N : Nat} {T : Nat → Prop} {bc : Nat → List Int} {lk : Nat → Bool} (h : Bs w q T N bc lk) (hk : ∀ g, T g → g < w.heap.size → w'.heap[g]? = w.heap[g]?) : Bs w' q T N bc lk := by
  obtain ⟨gB, gL, cB, cL, h1, h2, h3, t1, t2, t3, h4, h5⟩ := h
  refine ⟨gB, gL, cB, cL, (hk _ t1 (Array.getElem?_eq_some_iff.1 h1).1).trans h1, (hk _ t2 (Array.getElem?_eq_some_iff.1 h2).1).trans h2, (hk _ t3 (Array.getElem?_eq_some_iff.1 h3).1).trans h3, t1, t2, t3, h4, fun k hkN => ?_⟩
  rcases h5 k hkN with h6 | ⟨a, c, h6, h7, h8, h9⟩
  · exact .inl h6
  · exact .inr ⟨a, c, h6, h7, h8, h9.keep hk⟩
theorem Bs.later {w w' : World} {q N : Nat} {T : Nat → Prop} {bc : Nat → List Int} {lk : Nat → Bool} (h : Bs w q T N bc lk) (hb : Below w.heap.size w w') : Bs w' q T N bc lk := h.keep fun g _ hl => hb.block g hl
theorem Bs.len {w : World} {q N : Nat} {T : Nat → Prop} {bc : Nat → List Int} {lk : Nat → Bool} (h : Bs w q T N bc lk) {k : Nat} (hk : k < N) : (bc k).length = 512 := by
  obtain ⟨gB, gL, cB, cL, h1, h2, h3, t1, t2, t3, h4, h5⟩ := h
  rcases h5 k hk with ⟨_, h6⟩ | ⟨a, c, _, _, h8, _⟩
  · rw [h6]; exact zeros_len
  · exact h8
theorem made512_by (w : World) : By (w.alloc (.cells (madeCells #[.int .u8 0] 512) 5)) (New w) (some ⟨w.heap.size, 0, none⟩) zeros512 := by
  have h := (BitR.made w).by_ (S := New w) (Nat.le_refl w.heap.size)
  rw [bitB_none] at h
  exact h
theorem nil_same (w : World) : (binOp .eql 59 (.slice none 0 0) (.slice none 0 0)).run Tryz.prog w = .ok (.bool true) w := by kernel_rfl
theorem nil_other (w : World) (a : Addr) (n c : Nat) : (binOp .eql 59 (.slice (some a) n c) (.slice none 0 0)).run Tryz.prog w = .ok (.bool false) w := by kernel_rfl
set_option maxRecDepth 100000 in
set_option maxHeartbeats 1000000 in
theorem Block_any (w : World) (q N : Nat) (T : Nat → Prop) (bc : Nat → List Int) (lk : Nat → Bool) (h : Bs w q T N bc lk) (k : Nat) (hk : k < N) (hN : N ≤ 100000) (hl : lk k = false) :
    Calls Tryz.prog 152 #[.pointer (some ⟨q, 0, none⟩), n64 k] w fun e w' => ∃ a c, e = .returned (.tuple #[.slice (some a) 512 c, .nilIface]) ∧ By w' (New w) (some a) (bc k) ∧ 512 ≤ c ∧ Below w.heap.size w w' := by
  obtain ⟨gB, gL, cB, cL, h1, h2, h3, _, _, _, h4, h5⟩ := h
  have q0 : w.cell? ⟨q, 0, none⟩ = some (.slice (some ⟨gB, 0, none⟩) N N) := cell_of h1 rfl
  have q1 : w.cell? ⟨q, 1, none⟩ = some (.slice (some ⟨gL, 0, none⟩) N N) := cell_of h1 rfl
  have l0 : w.cell? ⟨gL, k, none⟩ = some (.bool false) := by rw [← hl]; exact cell_of h3 (h4 k hk)
  have hki : (k : Int) < N := by omega
  have hk0 : ¬ (k : Int) < 0 := by omega
  have hk1 : ¬ (N : Int) ≤ (k : Int) := by omega
  have hmk := run_make_row' (P := Tryz.prog) 59 5 (.int .u8 0) 1 Tryz.underlying59 info5 rfl .i64 .i64 512 (by omega) (by omega)
  rw [show ((512 : Nat) : Int) = 512 by omega] at hmk
  have hns := nil_same w
  have hno := nil_other w
  rcases h5 k hk with ⟨e0, e1⟩ | ⟨⟨ab, ao, ax⟩, c, e0, hc, hlen, hy⟩
  · have b0 : w.cell? ⟨gB, k, none⟩ = some (.slice none 0 0) := cell_of h2 e0
    have HY := hid (made512_by w)
    rw [← e1] at HY
    clear h1 h2 h3 h4 h5 e0 e1
    go_enter Tryz.func152, Tryz.ntmps152
    go_wp2
    go_ret2
    exact ⟨_, _, rfl, HY.out, Nat.le_refl _, (Below.refl _ _).alloc (Nat.le_refl _) _⟩
  · have b0 : w.cell? ⟨gB, k, none⟩ = some (.slice (some ⟨ab, ao, ax⟩) 512 c) := cell_of h2 e0
    obtain ⟨a2, c2, w2, hap, hy2, hc2, hb2, _⟩ := twinB w T (some ⟨ab, ao, ax⟩) 512 c (bc k) hlen (by decide) (by decide) hy 59
    obtain ⟨gb, go, rfl, _, _⟩ := hy2.addr (by rw [hlen]; decide)
    have HY := hid hy2
    have HB := hid hb2
    obtain ⟨W, hW⟩ : ∃ W, W = w.alloc (.cells #[] 5) := ⟨_, rfl⟩
    rw [← hW] at hap
    have hbW : Below w.heap.size w W := by rw [hW]; exact (Below.refl _ _).alloc (Nat.le_refl _) _
    have q0' : W.cell? ⟨q, 0, none⟩ = some (.slice (some ⟨gB, 0, none⟩) N N) := cell_later hbW q0
    have b0' : W.cell? ⟨gB, k, none⟩ = some (.slice (some ⟨ab, ao, ax⟩) 512 c) := cell_later hbW b0
    clear h1 h2 h3 h4 h5 e0 hy hy2 hb2 hbW hlen
    go_enter Tryz.func152, Tryz.ntmps152
    go_wp2_with (first | (rw [← hW]; clear hW) | (at_builtin; refine wpList_append_run rfl _ _ 59 rfl rfl rfl hap ?_; clear hap))
    go_wp2
    go_ret2
    exact ⟨_, _, rfl, HY.out, hc2, HB.out⟩

/-! ### a view -/
def viewC (base : Value) (m : Nat) (b i : Int) : Array Value := #[base, .map (some m), n64 b, n64 i, n64 1, n64 2, n64 68, n64 69, n64 (planT b), n64 (planD b i), n64 69, n64 (planD b i), n64 b, n64 68, n64 2, n64 i]
def DatIs (w : World) (S : Nat → Prop) (P : Int → Option (List Int)) (MV : Int → Option Value) (k : Int) : Prop :=
  (P k = none ∧ MV k = none) ∨ ∃ l a c, P k = some l ∧ MV k = some (.slice a 512 c) ∧ l.length = 512 ∧ By w S a l ∧ 512 ≤ c
def Vw (w : World) (pv : Nat) (S : Nat → Prop) (b i : Int) (base : Value) (n : Nat) (P : Int → Option (List Int)) : Prop :=
  ∃ m MV, w.heap[pv]? = some (.cells (viewC base m b i) 129 (0, 0)) ∧ S pv ∧ S m ∧ MapIs w m n MV ∧ ∀ k, IsI k → DatIs w S P MV k
variable {w w' : World} {pv n : Nat} {S S' : Nat → Prop} {b i : Int} {base : Value} {P : Int → Option (List Int)}
theorem Vw.keep (h : Vw w pv S b i base n P) (hk : ∀ g, S g → g < w.heap.size → w'.heap[g]? = w.heap[g]?) : Vw w' pv S b i base n P := by
  obtain ⟨m, MV, h1, s1, s2, h2, h3⟩ := h
  refine ⟨m, MV, (hk _ s1 (Array.getElem?_eq_some_iff.1 h1).1).trans h1, s1, s2, h2.keep (hk _ s2 h2.lt), fun k hkI => ?_⟩
  rcases h3 k hkI with h4 | ⟨l, a, c, h4, h5, h6, h7, h8⟩
  · exact .inl h4
  · exact .inr ⟨l, a, c, h4, h5, h6, h7.keep hk, h8⟩
theorem Vw.later (h : Vw w pv S b i base n P) (hb : Below w.heap.size w w') : Vw w' pv S b i base n P := h.keep fun g _ hl => hb.block g hl
theorem Vw.mono (h : Vw w pv S b i base n P) {n' : Nat} (hn : n ≤ n') : Vw w pv S b i base n' P :=
  let ⟨m, MV, h1, s1, s2, h2, h3⟩ := h; ⟨m, MV, h1, s1, s2, h2.mono hn, h3⟩
theorem map_block {m : Nat} {MV : Int → Option Value} (h : MapIs w m n MV) {cs : Array Value} {t : TypeId} {fr : Nat × Nat} (hh : w.heap[m]? = some (.cells cs t fr)) : False := by
  obtain ⟨D, ⟨es, c, h1, _⟩, _⟩ := h
  rw [h1] at hh
  cases hh
theorem By.mods_map {a : Option Addr} {l : List Int} {m : Nat} {MV : Int → Option Value} (h : By w S a l) (hm : MapIs w m n MV) (hmo : Mods (fun g => g = m) w w') : By w' S a l :=
  ⟨h.1, fun h0 => by
    obtain ⟨b, off, cur, fr, e, hS, hh, hc⟩ := h.2 h0
    exact ⟨b, off, cur, fr, e, hS, (hmo.block b (Array.getElem?_eq_some_iff.1 hh).1 (fun e => by subst e; exact map_block hm hh)).trans hh, hc⟩⟩
theorem isI_nat {x : Int} (h0 : 0 ≤ x) (h1 : x < 1000000) : IsI x := isI_of (by omega) (by omega)
set_option maxRecDepth 100000 in
set_option maxHeartbeats 1000000 in
theorem lay_any (h : Vw w pv S b i base n P) (hn : n < 1000000) (k : Int) (hk : IsI k) (D : Nat → Prop) (l : List Int) (hl : l.length = 512) (a : Option Addr) (c : Nat) (hc : 512 ≤ c) (hy : By w D a l) :
    Calls Tryz.prog 99 #[.pointer (some ⟨pv, 0, none⟩), n64 k, .slice a 512 c] w fun e w' => e = .returned (.tuple #[]) ∧ Vw w' pv (fun g => S g ∨ D g) b i base (n + 1) (upd P k (some l)) ∧ Mods S w w' := by
  obtain ⟨m, MV, h1, s1, s2, h2, h3⟩ := h
  have p1 : w.cell? ⟨pv, 1, none⟩ = some (.map (some m)) := cell_of h1 rfl
  obtain ⟨w2, hrun, hm2, hg2⟩ := h2.put (t := 123) (e := 59) Tryz.underlying123 (by unfold maxLen; omega) hk (.slice a 512 c)
  have hmo : Mods (fun g => g = m) w w2 := Mods.of_grown' hg2
  have HF : Hid (Vw w2 pv (fun g => S g ∨ D g) b i base (n + 1) (upd P k (some l)) ∧ Mods S w w2) := hid (by
    refine ⟨⟨m, _, (hmo.block _ (Array.getElem?_eq_some_iff.1 h1).1 (fun e => by subst e; exact map_block h2 h1)).trans h1, .inl s1, .inl s2, hm2, fun j hj => ?_⟩, hmo.weak (fun g hg => by subst hg; exact .inl s2)⟩
    by_cases e : j = k
    · subst e
      refine .inr ⟨l, a, c, upd_same _ _ _, upd_same _ _ _, hl, (hy.mods_map h2 hmo).weak (fun _ hg _ => .inr hg), hc⟩
    · unfold DatIs
      rw [upd_other _ _ e, upd_other _ _ e]
      rcases h3 j hj with h4 | ⟨l', a', c', h4, h5, h6, h7, h8⟩
      · exact .inl h4
      · exact .inr ⟨l', a', c', h4, h5, h6, (h7.mods_map h2 hmo).weak (fun _ hg _ => .inl hg), h8⟩)
  clear h1 h2 h3 hm2 hg2 hmo hy
  go_enter Tryz.func99, Tryz.ntmps99
  go_wp2
  go_end0
  exact ⟨rfl, HF.out⟩
theorem zeroBs (w : World) : (zeroValue 59).run Tryz.prog w = .ok (.slice none 0 0) w := by kernel_rfl
set_option maxRecDepth 100000 in
set_option maxHeartbeats 1000000 in
/-- What was put is told. -/
theorem look_put (h : Vw w pv S b i base n P) (k : Int) (hk : IsI k) (l : List Int) (hl : P k = some l) :
    Calls Tryz.prog 57 #[.pointer (some ⟨pv, 0, none⟩), n64 k] w fun e w' => ∃ a c, e = .returned (.tuple #[.slice (some a) 512 c, .nilIface]) ∧ By w' S (some a) l ∧ 512 ≤ c ∧ w' = w := by
  obtain ⟨m, MV, h1, s1, s2, h2, h3⟩ := h
  have p1 : w.cell? ⟨pv, 1, none⟩ = some (.map (some m)) := cell_of h1 rfl
  have hlk := h2.look_ok (t := 123) (e := 59) Tryz.underlying123 (zeroBs w) hk
  rcases h3 k hk with ⟨e, _⟩ | ⟨l', a, c, e1, e2, hlen, hy, hc⟩
  · rw [hl] at e; cases e
  · rw [hl] at e1
    simp only [Option.some.injEq] at e1
    subst e1
    obtain ⟨gb, go, rfl, _, _⟩ := hy.addr (by rw [hlen]; decide)
    rw [e2] at hlk
    simp only [Option.getD_some, Option.isSome_some] at hlk
    have HY := hid hy
    clear h1 h2 h3 hy
    go_enter Tryz.func57, Tryz.ntmps57
    go_wp2
    go_ret2
    exact ⟨_, _, rfl, HY.out, hc, rfl⟩
theorem methB (b : Nat) (w : World) : (method 377 74 (.pointer (some ⟨b, 0, none⟩)) "Block").run Tryz.prog w = .ok (152, .pointer (some ⟨b, 0, none⟩)) w := by kernel_rfl
theorem callB (args : Array Value) (w : World) : (callFunc 152 args).run Tryz.prog w = .ok (.enter 152 args) w := by kernel_rfl
def baseV (q : Nat) : Value := .iface 74 (.pointer (some ⟨q, 0, none⟩))
set_option maxRecDepth 100000 in
set_option maxHeartbeats 1000000 in
/-- Else what the base tells. -/
theorem look_base (q : Nat) (h : Vw w pv S b i (baseV q) n P) (N : Nat) (T : Nat → Prop) (bc : Nat → List Int) (lk : Nat → Bool) (hB : Bs w q T N bc lk) (k : Nat) (hk : k < N) (hN : N ≤ 100000) (hlk : lk k = false) (hl : P k = none) :
    Calls Tryz.prog 57 #[.pointer (some ⟨pv, 0, none⟩), n64 k] w fun e w' => ∃ a c, e = .returned (.tuple #[.slice (some a) 512 c, .nilIface]) ∧ By w' (New w) (some a) (bc k) ∧ 512 ≤ c ∧ Below w.heap.size w w' := by
  obtain ⟨m, MV, h1, s1, s2, h2, h3⟩ := h
  have hkI : IsI (k : Int) := isI_nat (by omega) (by omega)
  have p0 : w.cell? ⟨pv, 0, none⟩ = some (baseV q) := cell_of h1 rfl
  have p1 : w.cell? ⟨pv, 1, none⟩ = some (.map (some m)) := cell_of h1 rfl
  have hlo := h2.look_ok (t := 123) (e := 59) Tryz.underlying123 (zeroBs w) hkI
  have HC := hid (Block_any w q N T bc lk hB k hk hN hlk)
  have hmb := methB q
  have hcb := callB
  unfold baseV at p0
  rcases h3 k hkI with ⟨_, e⟩ | ⟨l', a, c, e1, _⟩
  · rw [e] at hlo
    simp only [Option.getD_none, Option.isSome_none] at hlo
    clear h1 h2 h3 hB
    go_enter Tryz.func57, Tryz.ntmps57
    go_wp2_with fail
    refine HC.out.mono ?_
    rintro e w2 ⟨a2, c2, rfl, hy2, hc2, hb2⟩
    have HY := hid hy2
    have HB := hid hb2
    clear hy2 hb2
    go_wp2
    go_ret2
    exact ⟨_, _, rfl, HY.out, hc2, HB.out⟩
  · rw [hl] at e1; cases e1
end Go.Proofs.YtaplmlldmhdhoaaGreatDoor

/- take, give. -/
namespace Go.Proofs.YtaplmlldmhdhoaaGreatDoor
open Go.RowKit Go.Maps
set_option linter.unusedVariables false

variable {w w' : World} {pv n q N : Nat} {S S' T : Nat → Prop} {b i : Int} {P : Int → Option (List Int)} {bc : Nat → List Int} {lk : Nat → Bool}
def ct (P : Int → Option (List Int)) (bc : Nat → List Int) (k : Nat) : List Int := (P (k : Int)).getD (bc k)
theorem look_any (h : Vw w pv S b i (baseV q) n P) (hB : Bs w q T N bc lk) (k : Nat) (hk : k < N) (hN : N ≤ 100000) (hlk : lk k = false) :
    Calls Tryz.prog 57 #[.pointer (some ⟨pv, 0, none⟩), n64 k] w fun e w' => ∃ a c, e = .returned (.tuple #[.slice (some a) 512 c, .nilIface]) ∧ By w' (fun _ => True) (some a) (ct P bc k) ∧ 512 ≤ c ∧ Below w.heap.size w w' := by
  cases e : P (k : Int) with
  | none =>
    refine (look_base q h N T bc lk hB k hk hN hlk e).mono ?_
    rintro r w2 ⟨a, c, h1, h2, h3, h4⟩
    exact ⟨a, c, h1, by unfold ct; rw [e]; exact h2.weak (fun _ _ _ => trivial), h3, h4⟩
  | some l =>
    refine (look_put h k (isI_nat (by omega) (by omega)) l e).mono ?_
    rintro r w2 ⟨a, c, h1, h2, h3, rfl⟩
    exact ⟨a, c, h1, by unfold ct; rw [e]; exact h2.weak (fun _ _ _ => trivial), h3, Below.refl _ _⟩
theorem Vw.cap {base : Value} (h : Vw w pv S b i base n P) : Vw w pv (fun g => S g ∧ g < w.heap.size) b i base n P := by
  obtain ⟨m, MV, h1, s1, s2, h2, h3⟩ := h
  refine ⟨m, MV, h1, ⟨s1, (Array.getElem?_eq_some_iff.1 h1).1⟩, ⟨s2, h2.lt⟩, h2, fun k hk => ?_⟩
  rcases h3 k hk with h4 | ⟨l, a, c, h4, h5, h6, h7, h8⟩
  · exact .inl h4
  · exact .inr ⟨l, a, c, h4, h5, h6, h7.weak (fun g hg hl => ⟨hg, hl⟩), h8⟩
def rowF (F : Nat → Bool) (r : Nat) : Nat → Bool := fun k => F (r * 4096 + k)
set_option maxRecDepth 100000 in
set_option maxHeartbeats 2000000 in
theorem take_any (h : Vw w pv S b i (baseV q) n P) (hB : Bs w q T N bc lk) (hSb : ∀ g, S g → g < w.heap.size) (hn : n < 900000) (hN : N ≤ 100000) (f lo hi R : Nat) (hR : R = (hi + 4095) / 4096) (hfN : f + R ≤ N) (hlk : ∀ r, r < R → lk (f + r) = false) (hhi : hi < 100000) (hlo : lo < 100000)
    (F : Nat → Bool) (hF : ∀ r, r < R → ct P bc (f + r) = bitB (rowF F r)) :
    Calls Tryz.prog 105 #[.pointer (some ⟨pv, 0, none⟩), .agg #[n64 f, n64 lo, n64 hi]] w fun e w' =>
      (∃ x : Nat, lo ≤ x ∧ x < hi ∧ F x = false ∧ (∀ j, lo ≤ j → j < x → F j = true) ∧ e = .returned (.tuple #[n64 x, .nilIface]) ∧ ∃ S', Vw w' pv S' b i (baseV q) (n + 1) (upd P ((f + x / 4096 : Nat) : Int) (some (bitB (flip1 (rowF F (x / 4096)) (x % 4096))))) ∧ Kp S w S' w' ∧ ∀ g, S' g → g < w'.heap.size) ∨
      ((∀ j, lo ≤ j → j < hi → F j = true) ∧ e = .returned (.tuple #[n64 0, .iface 57 (n64 7)]) ∧ Below w.heap.size w w') := by
  obtain ⟨W0, hW0⟩ : ∃ W, W = w.alloc (.cells #[n64 f, n64 lo, n64 hi] 127) := ⟨_, rfl⟩
  have hb0 : Below w.heap.size w W0 := by rw [hW0]; exact (Below.refl _ _).alloc (Nat.le_refl _) _
  have hh0 : W0.heap[w.heap.size]? = some (.cells #[n64 f, n64 lo, n64 hi] 127 (0, 0)) := by rw [hW0]; exact alloc_new w _
  have hlt0 : w.heap.size < W0.heap.size := (Array.getElem?_eq_some_iff.1 hh0).1
  have HCC : Hid (∀ W, Below W0.heap.size W0 W → W.cell? ⟨w.heap.size, 0, none⟩ = some (n64 f) ∧ W.cell? ⟨w.heap.size, 1, none⟩ = some (n64 lo) ∧ W.cell? ⟨w.heap.size, 2, none⟩ = some (n64 hi)) := hid (fun W hb => by
    have hh := (hb.block _ hlt0).trans hh0
    exact ⟨cell_of hh rfl, cell_of hh rfl, cell_of hh rfl⟩)
  have HRF := rowsFor_any (hi : Int) (by omega) (by omega) W0
  rw [show ((hi : Int) + 4095) / 4096 = (R : Int) by omega] at HRF
  replace HRF := hid HRF
  have HV := hid (h.later hb0)
  have HBs := hid (hB.later hb0)
  have HB0 := hid hb0
  have HLK := hid hlk
  have HF := hid hF
  have HR := hid hR
  have HFN := hid hfN
  have HSB := hid hSb
  obtain ⟨_, _, x2⟩ := HCC.out W0 (Below.refl _ _)
  have HLT0 := hid hlt0
  clear h hB hb0 hh0 hlt0 hlk hF hR hfN hSb
  go_enter Tryz.func105, Tryz.ntmps105
  go_wp2_with (rw [← hW0]; clear hW0)
  refine HRF.out.mono ?_
  rintro e w1 ⟨rfl, rfl⟩
  clear HRF x2
  go_wp2
  go_loopw [15] (fun z wr => ∃ r : Nat, r ≤ R ∧ z = n64 r ∧ Below w1.heap.size w1 wr ∧ ∀ j, lo ≤ j → j < hi → j < r * 4096 → F j = true) (fun z _ => R - (RowKit.intOf z).toNat)
  case atStart => exact ⟨0, Nat.zero_le _, rfl, Below.refl _ _, fun j _ _ h3 => by omega⟩
  case round =>
    obtain ⟨r, hr, rfl, hb, hall⟩ := hrel
    rename World => V
    have HBV := hid hb
    have HALL := hid hall
    clear hb hall
    by_cases hlt : r < R
    · have hlt' : (r : Int) < R := by omega
      have hr4 : r * 4096 < hi := by have := HR.out; omega
      have hw1 : IntKind.i64.wrap ((f : Int) + (r : Int)) = ((f + r : Nat) : Int) := by rw [IntWalk.i64_in _ (by have := HFN.out; omega)]; omega
      have HL := hid (look_any (HV.out.later HBV.out.drew) (HBs.out.later HBV.out.drew) (f + r) (by have := HFN.out; omega) hN (HLK.out r hlt))
      have y0 : V.drew.cell? ⟨w.heap.size, 0, none⟩ = some (n64 f) := (HCC.out V.drew HBV.out.drew).1
      clear hr
      go_wp2_with fail
      go_region_held3 (fun w' => w'.cell? ⟨w.heap.size, 0, none⟩ = some (n64 f)) ((first | exact y0 | exact HS3.out))
        ((first | (go_at_call 57; refine HL.out.mono ?_; rintro e w3 ⟨a3, c3, rfl, hy3, hc3, hb3⟩; have HB3 := hid (HBV.out.drew.trans (hb3.mono HBV.out.size)); have HS3 := hid (HCC.out w3 HB3.out).1; have HY3 := hid hy3; clear hy3 hb3 HL)))
      clear HS3 y0
      have hy3 := HY3.out
      rw [HF.out r hlt] at hy3
      have HPt := part_any w3 (f : Int) (lo : Int) (hi : Int) r (by omega) (by omega) (by omega) (by omega) (by have := HFN.out; omega)
      obtain ⟨lo', hlo'⟩ : ∃ lo' : Nat, lo' = lo - r * 4096 := ⟨_, rfl⟩
      obtain ⟨hi', hhi'⟩ : ∃ hi' : Nat, hi' = min (hi - r * 4096) 4096 := ⟨_, rfl⟩
      rw [show max ((lo : Int) - (r : Int) * 4096) 0 = (lo' : Int) by omega, show min ((hi : Int) - (r : Int) * 4096) 4096 = (hi' : Int) by omega] at HPt
      replace HPt := hid HPt
      replace HY3 := hid hy3
      obtain ⟨z0, z1, z2⟩ := HCC.out w3 HB3.out
      have HLO := hid hlo'
      have HHI := hid hhi'
      clear hy3 hlo' hhi'
      go_wp2_with fail
      refine HPt.out.mono ?_
      rintro e w4 ⟨rfl, hb4⟩
      have HY4 := hid (HY3.out.later hb4)
      have HB4 : Hid (Below w1.heap.size w1 w4) := hid (HB3.out.trans (hb4.mono HB3.out.size))
      have HLF := hid (lowestFree_any w4 (fun _ => True) (some a3) c3 (rowF F r) HY4.out lo' hi' (by have := HHI.out; omega))
      clear hb4 HPt HY3 HB3 z0 z1 z2
      go_wp2_with fail
      refine HLF.out.mono ?_
      rintro e w5 ⟨hres, rfl⟩
      rcases hres with ⟨x, hx0, hx1, hx2, hx3, rfl⟩ | ⟨hfull, rfl⟩
      · have HIS := hid (is_nil 7 w5)
        have HX2 := hid hx2
        have HX3 := hid hx3
        have hxb : x < 4096 := by have := HHI.out; omega
        clear hx2 hx3 HLF
        go_wp2_with fail
        refine HIS.out.mono ?_
        rintro e w6 ⟨rfl, rfl⟩
        have HTU := hid (turned_any w6.drew (fun _ => True) (some a3) c3 (rowF F r) HY4.out x hxb)
        have y0 : w6.drew.cell? ⟨w.heap.size, 0, none⟩ = some (n64 f) := (HCC.out w6.drew HB4.out.drew).1
        have hw2 : IntKind.i64.wrap ((r : Int) * 4096) = (r : Int) * 4096 := IntWalk.i64_in _ (by omega)
        have hw3 : IntKind.i64.wrap ((r : Int) * 4096 + (x : Int)) = ((r * 4096 + x : Nat) : Int) := by rw [IntWalk.i64_in _ (by omega)]; omega
        have HCo := hid (fun (W : World) (hbW : Below w6.drew.heap.size w6.drew W) (a' : Option Addr) (c' : Nat) (ho : W.ownsRow w6.drew.heap.size 5 1 (.slice a' 512 c') 512 (u8s (bitB (flip1 (rowF F r) x)))) => show Calls Tryz.prog 99 #[.pointer (some ⟨pv, 0, none⟩), n64 ((f + r : Nat) : Int), .slice a' 512 c'] W (fun e w' => e = .returned (.tuple #[]) ∧ Vw w' pv (fun g => S g ∨ w6.drew.heap.size ≤ g) b i (baseV q) (n + 1) (upd P ((f + r : Nat) : Int) (some (bitB (flip1 (rowF F r) x)))) ∧ Mods S W w') by
          obtain ⟨a5, c5, e5, h5, _, hy5⟩ := By.of_owns (S := fun g => w6.drew.heap.size ≤ g) ho (bitB_isB _) (fun g hg => (owns_lt ho hg).2)
          simp only [Value.slice.injEq, true_and] at e5
          obtain ⟨rfl, rfl⟩ := e5
          have hVW : Vw W pv S b i (baseV q) n P := HV.out.later (HB4.out.drew.trans (hbW.mono HB4.out.size))
          exact lay_any hVW (by omega) ((f + r : Nat) : Int) (isI_nat (by omega) (by have := HFN.out; omega)) _ _ (bitB_len _) _ _ h5 hy5)
        go_wp2_with fail
        go_region_held3 (fun w' => w'.cell? ⟨w.heap.size, 0, none⟩ = some (n64 f)) ((first | exact y0 | exact HS7.out | exact HS8.out))
          ((first
            | (go_at_call 113; refine HTU.out.mono ?_; rintro e w7 ⟨a7, c7, rfl, ho7, hb7⟩; have HB7 := hid hb7; have HO7 := hid ho7; have HS7 := hid (HCC.out w7 (HB4.out.drew.trans (hb7.mono HB4.out.size))).1; clear ho7 hb7 HTU)
            | (go_at_call 99; refine (HCo.out w7 HB7.out a7 c7 HO7.out).mono ?_; rintro e w8 ⟨rfl, hv8, hm8⟩; have HV8 := hid hv8; have HM8 := hid hm8; have HS8 := hid (World.cell?_of_block (hm8.block w.heap.size (by have := HB7.out.size; have := HB4.out.size; have := HLT0.out; have e9 : w6.drew.heap.size = w6.heap.size := rfl; omega) (fun e => by have := HSB.out _ e; omega)) |>.trans HS7.out); clear hv8 hm8)))
        clear HS7 HS8 y0
        go_wp2
        go_ret2
        left
        have e1 : (r * 4096 + x) / 4096 = r := by omega
        have e2 : (r * 4096 + x) % 4096 = x := by omega
        have hrx : x < hi - r * 4096 := by have := HHI.out; omega
        refine ⟨r * 4096 + x, by have := HLO.out; omega, by omega, HX2.out, fun j h1 h2 => ?_, rfl, fun g => (S g ∨ w6.drew.heap.size ≤ g) ∧ g < w8.heap.size, ?_, ⟨fun g hg => ?_, ?_⟩, fun g hg => hg.2⟩
        · by_cases h3 : j < r * 4096
          · exact HALL.out j h1 (by omega) h3
          · have := HX3.out (j - r * 4096) (by have := HLO.out; omega) (by omega)
            unfold rowF at this
            rwa [show r * 4096 + (j - r * 4096) = j by omega] at this
        · rw [e1, e2]
          exact HV8.out.cap
        · have e9 : w6.drew.heap.size = w6.heap.size := rfl
          have := HB4.out.size
          have := HB0.out.size
          rcases hg.1 with h3 | h3
          · exact .inl h3
          · exact .inr (by omega)
        · have hbw : Below w.heap.size w w7 := HB0.out.trans ((HB4.out.drew.trans (HB7.out.mono HB4.out.size)).mono HB0.out.size)
          exact (Mods.of_below hbw).tr HM8.out
      · have HIS := hid (is_num 7 7 w5)
        have HFU := hid hfull
        clear hfull HLF
        go_wp2_with fail
        refine HIS.out.mono ?_
        rintro e w6 ⟨rfl, rfl⟩
        have hw2 : IntKind.i64.wrap ((r : Int) + 1) = ((r + 1 : Nat) : Int) := by rw [IntWalk.i64_in _ (by omega)]; omega
        have h77 : ((7 : Int) == 7) = true := rfl
        rw [h77]
        clear h77
        go_wp2
        go_roundw
        case rel => exact ⟨r + 1, by omega, by first | rfl | go_num, HB4.out, fun j h1 h2 h3 => by
          by_cases h4 : j < r * 4096
          · exact HALL.out j h1 h2 h4
          · have := HFU.out (j - r * 4096) (by have := HLO.out; omega) (by have := HHI.out; omega)
            unfold rowF at this
            rwa [show r * 4096 + (j - r * 4096) = j by omega] at this⟩
        case measure => simp [RowKit.intOf]; omega
    · have hlt' : ¬ (r : Int) < R := by omega
      go_wp2
      go_ret2
      right
      refine ⟨fun j h1 h2 => HALL.out j h1 h2 (by have := HR.out; omega), rfl, HB0.out.trans (HBV.out.mono HB0.out.size)⟩
end Go.Proofs.YtaplmlldmhdhoaaGreatDoor
