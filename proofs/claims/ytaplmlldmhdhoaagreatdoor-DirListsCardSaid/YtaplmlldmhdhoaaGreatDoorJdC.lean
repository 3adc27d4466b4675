/- showAll. -/
import Derived.Test.YtaplmlldmhdhoaaGreatDoorJdX
namespace Go.Proofs.YtaplmlldmhdhoaaGreatDoor
open Go.RowKit Go.Shelf Go.Maps
set_option linter.unusedVariables false
attribute [local go_sem] Oper.semAt_some

/-- One who is shown lines: J ls Z W: those were seen, Z the blocks of its own; Jx: it has enough. -/
structure See (J Jx : List Ln → (Nat → Prop) → World → Prop) (pe : Addr) (Fs : FuncId) (caps : Array Value) (lo : Nat) : Prop where
  cf : ∀ (args : Array Value) (W : World), (callFunc Fs args).run Tryz.prog W = .ok (.enter Fs args) W
  keep : ∀ ls Z (W W' : World), J ls Z W → W.heap.size ≤ W'.heap.size → (∀ g, Z g → W'.heap[g]? = W.heap[g]?) → J ls Z W'
  keepx : ∀ ls Z (W W' : World), Jx ls Z W → W.heap.size ≤ W'.heap.size → (∀ g, Z g → W'.heap[g]? = W.heap[g]?) → Jx ls Z W'
  cells : ∀ ls Z (W : World), J ls Z W → ∀ g, Z g → ∃ cs t f, W.heap[g]? = some (.cells cs t f)
  cellsx : ∀ ls Z (W : World), Jx ls Z W → ∀ g, Z g → ∃ cs t f, W.heap[g]? = some (.cells cs t f)
  call : ∀ ls x Z (W : World), LnOk x → lo + ls.length < 97 → J ls Z W → Calls Tryz.prog Fs (#[lnV (lo + ls.length) x] ++ caps) W fun e W' => ∃ Z', Kp Z W Z' W' ∧ ((e = .returned .nilIface ∧ J (ls ++ [x]) Z' W') ∨ (e = .returned (enoughV pe) ∧ Jx (ls ++ [x]) Z' W'))
/-- The lines from one place up to another. -/
def seen (L : List Ln) (a p : Nat) : List Ln := (L.drop a).take (p - a)
theorem seen_len {L : List Ln} {a p : Nat} (h1 : a ≤ p) (h2 : p ≤ L.length) : a + (seen L a p).length = p := by simp [seen]; omega
theorem seen_add {L : List Ln} {a p k : Nat} (h1 : a ≤ p) (h2 : p + k ≤ L.length) (j : Nat) (hj : j ≤ k) : seen L a p ++ ((List.finRange k).take j).map (fun x => L.getD (p + x.1) noLn) = seen L a (p + j) := by
  unfold seen
  have e : (L.drop a).take (p + j - a) = (L.drop a).take (p - a) ++ ((L.drop a).drop (p - a)).take j := by
    rw [← List.take_add]
    congr 1
    omega
  rw [e]
  congr 1
  apply List.ext_getElem?
  intro q
  rw [List.getElem?_map, List.getElem?_take, List.getElem?_take, List.drop_drop, List.getElem?_drop]
  by_cases hq : q < j
  · rw [if_pos hq, if_pos hq, List.getElem?_eq_getElem (by simp; omega), show a + (p - a) + q = p + q by omega, List.getElem?_eq_getElem (by omega)]
    simp [List.getD]
    rw [List.getElem?_eq_getElem (by omega)]
    rfl
  · rw [if_neg hq, if_neg hq]
    rfl
theorem ex_load {o : Oper} {ev : Operand → Value} {W : World} (ty : TypeId) (x : Operand) (ho : o.op = .load ty x) (g : Nat) (hx : ev x = .pointer (some ⟨g, 0, none⟩)) (t : TypeId) (cs : Array Value) (fr : Nat × Nat) (fs : _) (hg : W.heap[g]? = some (.cells cs t fr))
    (hu : Tryz.prog.underlying ty = some (.struct fs)) (hi : (Tryz.prog.info? ty).map (·.size) = some cs.size) : (execOp ev o).run Tryz.prog W = .ok (.value (.agg cs)) W := by
  unfold execOp
  simp only [ho, hx, Instr.loadAt, Instr.sureAddr, Sem.run_bind, Sem.run_pure, Result.andThen_ok, run_loadVar_row W g t ty cs fr _ hg hu rfl hi]
theorem load_err (W : World) (g : Nat) (v : Value) (h : W.cell? ⟨g, 0, none⟩ = some v) : (loadVar 36 ⟨g, 0, none⟩).run Tryz.prog W = .ok v W := by
  have ha : (isAgg 36).run Tryz.prog W = .ok false W := by kernel_rfl
  simp only [loadVar, Sem.run_bind, ha, Result.andThen_ok]
  simp [go_sem, h]
theorem results_e {fn : Func} {t : Tmp} (h : fn.results = #[.cell t 36]) (tmps : Array Value) (W : World) (g : Nat) (v : Value) (hp : tmps.getD t undef = .pointer (some ⟨g, 0, none⟩)) (hg : W.cell? ⟨g, 0, none⟩ = some v) :
    (results fn tmps).run Tryz.prog W = .ok v W := by
  have hl := load_err W g v hg
  have hp' : tmps[t]?.getD undef = .pointer (some ⟨g, 0, none⟩) := by simpa using hp
  simp [results, h, hp', asAddr, hl]
theorem below_undrew {W W' : World} (h : Below W.drew.heap.size W.drew W') : Below W.heap.size W W' := ⟨h.os, h.tape, h.output, h.size, h.block⟩
/-- The number in a box. -/
def boxN (W : World) (g : Nat) : Nat := match W.cell? ⟨g, 0, none⟩ with
  | some (.int _ z) => z.toNat
  | _ => 0
theorem boxN_of {W : World} {g p : Nat} (h : W.cell? ⟨g, 0, none⟩ = some (n64 p)) : boxN W g = p := by unfold boxN; rw [h]; simp
abbrev seeV (Fs : FuncId) (caps : Array Value) : Value := .func (.func Fs) #[] caps
variable {w : World} {pv n N D hi : Nat} {S T : Nat → Prop} {i : Int} {base : Value} {P : Int → Option (List Int)} {bc c : Nat → List Int} {ptr : Nat → Nat} {L : List Ln} {X : Array Value} {J Jx : List Ln → (Nat → Prop) → World → Prop} {pe : Addr} {Fs : FuncId} {caps : Array Value} {Z : Nat → Prop}
/-- What showAll's own boxes hold. -/
structure Sb (W : World) (b p : Nat) (X : Array Value) (see e : Value) : Prop where
  x : W.heap[b]? = some (.cells X 31 (0, 0))
  f : W.heap[b + 1]? = some (.cells #[n64 p] 3 (0, 0))
  s : W.heap[b + 2]? = some (.cells #[see] 73 (0, 0))
  r : W.heap[b + 3]? = some (.cells #[e] 36 (0, 0))
theorem Sb.keep {W W' : World} {b p : Nat} {see e : Value} (h : Sb W b p X see e) (hk : ∀ g, b ≤ g → g < b + 4 → W'.heap[g]? = W.heap[g]?) : Sb W' b p X see e :=
  ⟨(hk _ (by omega) (by omega)).trans h.x, (hk _ (by omega) (by omega)).trans h.f, (hk _ (by omega) (by omega)).trans h.s, (hk _ (by omega) (by omega)).trans h.r⟩
theorem Sb.lt {W : World} {b p : Nat} {see e : Value} (h : Sb W b p X see e) : b + 3 < W.heap.size := (Array.getElem?_eq_some_iff.1 h.r).1
/-- Between two blocks of the directory. -/
structure Sl (w W : World) (J : List Ln → (Nat → Prop) → World → Prop) (Z : Nat → Prop) (X : Array Value) (see : Value) (p : Nat) (ls : List Ln) (ds : List Nat) : Prop where
  j : ∃ Z', J ls Z' W ∧ (∀ g, Z' g → Z g ∨ w.heap.size + 4 ≤ g)
  m : Mods Z w W
  b : Sb W w.heap.size p X see .nilIface
  d : Marks ds W ∧ ∀ E ∈ ds, w.heap.size + 4 ≤ E ∧ E < W.heap.size
/-- Between two lines of a block. -/
structure Si (w5 W : World) (J : List Ln → (Nat → Prop) → World → Prop) (Zs : Nat → Prop) (b q : Nat) (ls : List Ln) : Prop where
  j : ∃ Z', J ls Z' W ∧ ∀ g, Z' g → Zs g ∨ w5.heap.size ≤ g
  m : Mods (fun g => Zs g ∨ g = b + 1) w5 W
  f : W.heap[b + 1]? = some (.cells #[n64 q] 3 (0, 0))
/-- One who has enough. -/
structure Sx (w5 W : World) (Jx : List Ln → (Nat → Prop) → World → Prop) (Zs : Nat → Prop) (b : Nat) (pe : Addr) (ls : List Ln) : Prop where
  j : ∃ Z', Jx ls Z' W ∧ ∀ g, Z' g → Zs g ∨ w5.heap.size ≤ g
  m : Mods (fun g => Zs g ∨ g = b + 1 ∨ g = b + 3) w5 W
  r : W.heap[b + 3]? = some (.cells #[enoughV pe] 36 (0, 0))
theorem end_mods {W W' : World} {ds : List Nat} (hm : Mods Z w W) (hds : ∀ E ∈ ds, w.heap.size + 4 ≤ E) (h1 : W'.heap.size = W.heap.size) (h2 : W'.os = W.os) (h3 : W'.tape = W.tape) (h4 : W'.output = W.output) (h5 : ∀ g, g ∉ ds → W'.heap[g]? = W.heap[g]?) : Mods Z w W' :=
  ⟨h2.trans hm.os, h3.trans hm.tape, h4.trans hm.output, by rw [h1]; exact hm.size, fun g hg hz => (h5 g (fun e => by have := hds g e; omega)).trans (hm.block g hg hz)⟩
theorem not_mark {W : World} {ds : List Nat} (hm : Marks ds W) {g : Nat} (h : ∃ cs t f, W.heap[g]? = some (.cells cs t f)) : g ∉ ds := fun e => by
  obtain ⟨cs, t, f, h⟩ := h
  rw [hm.2 g e] at h
  cases h
theorem ends_any {V w5 W : World} {Zs Z' al : Nat → Prop} {b E : Nat} {ds : List Nat} (hb : w.heap.size = b) (hZs : ∀ g, Zs g → Z g ∨ w.heap.size + 4 ≤ g) (hcell : ∀ g, Zs g → ∃ cs t f, V.heap[g]? = some (.cells cs t f)) (hmV : Mods Z w V)
    (hd : Marks ds V ∧ ∀ E ∈ ds, w.heap.size + 4 ≤ E ∧ E < V.heap.size) (hB : Below V.heap.size V w5) (h5 : b + 4 ≤ w5.heap.size) (hz : ∀ g, Z' g → Zs g ∨ w5.heap.size ≤ g) (hal : ∀ g, al g → Zs g ∨ (b ≤ g ∧ g < b + 4)) (hm : Mods al w5 W) (hK : W.heap[E]? = some (.deferred (some []))) (hE : w5.heap.size ≤ E) :
    (∀ g, Z' g → Z g ∨ w.heap.size + 4 ≤ g) ∧ Mods Z w W ∧ Marks (E :: ds) W ∧ ∀ E' ∈ E :: ds, w.heap.size + 4 ≤ E' ∧ E' < W.heap.size := by
  have hEW := (Array.getElem?_eq_some_iff.1 hK).1
  have hVW : V.heap.size ≤ W.heap.size := Nat.le_trans hB.size hm.size
  refine ⟨fun g hg => ?_, ?_, ⟨List.nodup_cons.2 ⟨fun h => by have := (hd.2 E h).2; have := hB.size; omega, hd.1.1⟩, fun E' hE' => ?_⟩, fun E' hE' => ?_⟩
  · rcases hz g hg with h | h
    · exact hZs g h
    · exact .inr (by omega)
  · refine (hmV.below hB).trans hm (fun g hg => ?_)
    rcases hal g hg with h | h
    · exact (hZs g h).imp id (fun h => by omega)
    · exact .inr (by omega)
  · rcases List.mem_cons.1 hE' with e | e
    · rw [e]; exact hK
    · have h2 := hd.2 E' e
      rw [hm.block E' (by have := hB.size; omega) (fun ha => ?_), hB.block E' h2.2]
      · exact hd.1.2 E' e
      · rcases hal E' ha with h | h
        · obtain ⟨cs, t, f, hc⟩ := hcell E' h
          rw [hd.1.2 E' e] at hc
          cases hc
        · omega
  · rcases List.mem_cons.1 hE' with e | e
    · rw [e]; exact ⟨by omega, hEW⟩
    · have h2 := hd.2 E' e
      exact ⟨h2.1, by omega⟩
set_option maxRecDepth 100000 in
set_option maxHeartbeats 4000000 in
theorem showAll_any (hD : Dw w pv S N i base T bc n P c) (hd : Dd N D hi c ptr L) (hX : InoIs X ((L.length * 32 : Nat) : Int) ptr) (from_ : Nat) (hs : See J Jx pe Fs caps from_) (hf : from_ < 4611686018427387904) (hJ : J [] Z w) (hZ : ∀ g, Z g → ¬ S g ∧ ¬ T g) :
    Calls Tryz.prog 50 #[ptrV pv, .agg X, n64 from_, seeV Fs caps] w fun e w' => ∃ Z', (∀ g, Z' g → Z g ∨ w.heap.size ≤ g) ∧ Mods Z w w' ∧ ((e = .returned .nilIface ∧ J (L.drop from_) Z' w') ∨ ∃ q, from_ ≤ q ∧ q ≤ L.length ∧ e = .returned (enoughV pe) ∧ Jx (seen L from_ q) Z' w') := by
  have hXs := hX.sz
  obtain ⟨b, hb⟩ : ∃ b, w.heap.size = b := ⟨_, rfl⟩
  obtain ⟨W1, hW1⟩ : ∃ W, W = w.alloc (.cells X 31) := ⟨_, rfl⟩
  obtain ⟨W2, hW2⟩ : ∃ W, W = W1.alloc (.cells #[n64 from_] 3) := ⟨_, rfl⟩
  obtain ⟨W3, hW3⟩ : ∃ W, W = W2.alloc (.cells #[seeV Fs caps] 73) := ⟨_, rfl⟩
  obtain ⟨W4, hW4⟩ : ∃ W, W = W3.alloc (.cells #[.nilIface] 36) := ⟨_, rfl⟩
  have s1 : W1.heap.size = b + 1 := by rw [hW1]; simp [hb]
  have s2 : W2.heap.size = b + 1 + 1 := by rw [hW2]; simp [s1]
  have s3 : W3.heap.size = b + 1 + 1 + 1 := by rw [hW3]; simp [s2]
  have s4 : W4.heap.size = b + 1 + 1 + 1 + 1 := by rw [hW4]; simp [s3]
  have b1 : Below w.heap.size w W1 := by rw [hW1]; exact (Below.refl _ _).alloc (Nat.le_refl _) _
  have b2 : Below W1.heap.size W1 W2 := by rw [hW2]; exact (Below.refl _ _).alloc (Nat.le_refl _) _
  have b3 : Below W2.heap.size W2 W3 := by rw [hW3]; exact (Below.refl _ _).alloc (Nat.le_refl _) _
  have b4 : Below W3.heap.size W3 W4 := by rw [hW4]; exact (Below.refl _ _).alloc (Nat.le_refl _) _
  have b34 := b3.trans (b4.mono b3.size)
  have b24 := b2.trans (b34.mono b2.size)
  have b14 := b1.trans (b24.mono b1.size)
  have hsb : Sb W4 b from_ X (seeV Fs caps) .nilIface := by
    refine ⟨?_, ?_, ?_, ?_⟩
    · refine (b24.block b (by omega)).trans ?_
      rw [hW1, ← hb]; exact alloc_new w _
    · refine (b34.block (b + 1) (by omega)).trans ?_
      rw [hW2, ← s1]; exact alloc_new W1 _
    · refine (b4.block (b + 2) (by omega)).trans ?_
      rw [hW3, show b + 2 = W2.heap.size by omega]; exact alloc_new W2 _
    · rw [hW4, show b + 3 = W3.heap.size by omega]; exact alloc_new W3 _
  have hZw : ∀ g, Z g → g < w.heap.size := fun g hg => by
    obtain ⟨cs, t, f, h⟩ := hs.cells _ _ _ hJ g hg
    exact (Array.getElem?_eq_some_iff.1 h).1
  have HSL0 : Hid (Sl w W4 J Z X (seeV Fs caps) from_ (seen L from_ from_) []) := hid ⟨⟨Z, by rw [show seen L from_ from_ = [] by simp [seen]]; exact hs.keep _ _ _ _ hJ b14.size (fun g hg => b14.block g (hZw g hg)), fun g hg => .inl hg⟩, Mods.of_below b14, by rw [hb]; exact hsb, ⟨List.nodup_nil, fun E hE => by cases hE⟩, fun E hE => by cases hE⟩
  have HD := hid hD
  have HDD := hid hd
  have HX := hid hX
  have HS := hid hs
  have HZ : Hid (∀ g, Z g → g < w.heap.size ∧ ¬ S g ∧ ¬ T g) := hid (fun g hg => ⟨hZw g hg, hZ g hg⟩)
  have HF := hid hf
  have hm96 : L.length ≤ 96 := hd.max
  have HM := hid hm96
  have HB := hid hb
  have HXS := hid hXs
  clear hXs hD hd hX hs hZ hf hJ s4 b1 b2 b3 b4 b34 b24 b14 hsb hZw hm96
  refine (callsIn_wide (n := 6)).1 ?_
  refine callsIn_of_wp_marks Tryz.func50 rfl trivial ?_ rfl
  simp only [Tryz.ntmps50, List.size_toArray, List.length_cons, List.length_nil, Nat.reduceAdd, Nat.reduceSub, Array.replicate_succ, Array.replicate_zero, List.push_toArray, List.append_toArray, List.nil_append, List.cons_append]
  refine wpIn_wide.2 ?_
  go_wp2_with (first | (rw [← hW1]; clear hW1) | (rw [hb]; clear hb) | (rw [← hW2]; clear hW2) | (rw [s1]; clear s1) | (rw [← hW3]; clear hW3) | (rw [s2]; clear s2) | (rw [← hW4]; clear hW4) | (rw [s3]; clear s3))
  refine wp_loop (fun a W => ∃ (u : Nat → Value) (p : Nat) (ds : List Nat), a = ⟨#[ptrV pv, .agg X, n64 from_, seeV Fs caps, undef, .pointer (some ⟨b, 0, none⟩), .pointer (some ⟨b + 1, 0, none⟩), .pointer (some ⟨b + 1 + 1, 0, none⟩), .pointer (some ⟨b + 1 + 1 + 1, 0, none⟩), u 9, u 10, u 11, u 12, u 13, u 14, u 15, u 16, u 17, u 18, u 19, u 20, u 21, u 22, u 23, u 24, u 25, u 26, u 27, u 28, u 29, u 30, u 31, u 32, u 33, u 34, u 35, u 36, u 37, u 38, u 39, u 40, u 41, u 42, u 43, u 44, u 45, u 46, u 47, u 48, u 49, u 50, u 51], markL ds⟩ ∧ from_ ≤ p ∧ (p ≤ L.length ∨ p = from_) ∧ Sl w W J Z X (seeV Fs caps) p (seen L from_ p) ds) (fun _ W => L.length - boxN W (b + 1)) ⟨fun _ => undef, from_, [], rfl, Nat.le_refl _, .inr rfl, HSL0.out⟩ ?_
  rintro a V ⟨u, p, ds, rfl, hp1, hp2, hsl⟩
  clear HSL0
  have hsb := hsl.b
  rw [HB.out] at hsb
  have HSB := hid hsb
  have HSZ := hid hsb.lt
  have HSL := hid hsl
  have HSZ1 := HSZ
  have hbox : boxN V (b + 1) = p := boxN_of (cell_of hsb.f rfl)
  rw [hbox]
  clear hbox hsb hsl
  by_cases hlt : p < L.length
  · have hlt' : (p : Int) < (L.length : Int) := by omega
    go_upto_region 1 with fail
    refine wp_region_noPanic ?_
    refine wp_region_held_drew (S := fun w' => w'.heap[b]? = some (.cells X 31 (0, 0)) ∧ w'.cell? ⟨b + 1, 0, none⟩ = some (n64 p)) (by kernel_rfl) ⟨HSB.out.x, cell_of HSB.out.f rfl⟩ (fun hS => ?_)
    refine nany_take 0 14 (n64 p) rfl rfl (by kernel_rfl) (by kernel_rfl) (by kernel_rfl) (fun _ _ _ h => h) (Or.inl ⟨by rfl, ?_⟩) hS ?_
    · rintro w' hS'
      obtain ⟨_, x6⟩ := hS'; go_simp
    simp only [List.setIfInBounds_toArray, List.set_cons_zero, List.set_cons_succ]
    refine nany_take 1 15 (.agg X) rfl rfl (by kernel_rfl) (by kernel_rfl) (by kernel_rfl) (fun _ _ _ h => h) (Or.inl ⟨by rfl, ?_⟩) hS ?_
    · rintro w' hS'
      exact ex_load 31 (.tmp 5) rfl b rfl 31 X (0, 0) _ hS'.1 Tryz.underlying31 (by rw [HXS.out]; exact sizeIno)
    simp only [List.setIfInBounds_toArray, List.set_cons_zero, List.set_cons_succ]
    refine nany_one 2 (by kernel_rfl) ?_
    refine nop_callE 16 (f := 35) (args := #[.agg X]) (R := fun v w' => v = n64 (L.length : Nat) ∧ Below V.drew.heap.size V.drew w') rfl (by rfl) rfl (by go_simp) ((places_any _ X ptr L.length HX.out HM.out).mono (fun e w' h => ⟨_, h.1, rfl, h.2⟩)) ?_
    rintro v w1 ⟨rfl, hw1⟩
    have hS : w1.heap[b]? = some (.cells X 31 (0, 0)) ∧ w1.cell? ⟨b + 1, 0, none⟩ = some (n64 p) := ⟨(hw1.block b (show b < V.heap.size by have := HSZ.out; have := HSZ1.out; omega)).trans hS.1, cell_later hw1 hS.2⟩
    refine ⟨hS, ?_⟩
    simp only [List.setIfInBounds_toArray, List.set_cons_zero, List.set_cons_succ]
    refine nany_take 3 17 (.bool true) rfl rfl (by kernel_rfl) (by kernel_rfl) (by kernel_rfl) (fun _ _ _ h => h) (Or.inl ⟨by rfl, ?_⟩) hS ?_
    · rintro w' hS'
      go_simp
    simp only [List.setIfInBounds_toArray, List.set_cons_zero, List.set_cons_succ]
    refine wpAnyH_done (by kernel_rfl) ?_ _
    refine NoPanic.normal ?_
    have HB1 := hid (below_undrew hw1)
    have HS1 := hid (show w1.drew.heap[b]? = some (.cells X 31 (0, 0)) ∧ w1.drew.cell? ⟨b + 1, 0, none⟩ = some (n64 p) from hS)
    replace HSZ1 : Hid (b + 3 < w1.heap.size) := hid (Nat.lt_of_lt_of_le HSZ.out HB1.out.size)
    clear hS hw1
    obtain ⟨r, hr⟩ : ∃ r : Nat, r = p % 16 := ⟨_, rfl⟩
    obtain ⟨q, hq⟩ : ∃ q : Nat, q = 16 - r := ⟨_, rfl⟩
    obtain ⟨lp, hlp⟩ : ∃ lp : Nat, lp = L.length - p := ⟨_, rfl⟩
    obtain ⟨k, hk⟩ : ∃ k : Nat, k = min q lp := ⟨_, rfl⟩
    have hm := HM.out
    have t1 : (p : Int).tmod 16 = (r : Int) := by rw [Int.tmod_eq_emod_of_nonneg (by omega)]; omega
    have t2 : IntKind.i64.wrap (16 - (r : Int)) = (q : Int) := by rw [IntWalk.i64_in _ (by omega)]; omega
    have t3 : IntKind.i64.wrap ((L.length : Int) - (p : Int)) = (lp : Int) := by rw [IntWalk.i64_in _ (by omega)]; omega
    have t4 : min (q : Int) (lp : Int) = (k : Int) := by omega
    have t5 : IntKind.i64.wrap ((k : Int) * 32) = ((k * 32 : Nat) : Int) := by rw [IntWalk.i64_in _ (by omega)]; omega
    have HK : Hid (0 < k ∧ p + k ≤ L.length ∧ p % 16 + k ≤ 16) := hid (by omega)
    clear hr hq hlp hk hm
    go_upto_region 2 with fail
    refine wp_region_noPanic ?_
    refine wp_region_held_drew (S := fun w' => w'.heap[b]? = some (.cells X 31 (0, 0)) ∧ w'.cell? ⟨b + 1, 0, none⟩ = some (n64 p)) (by kernel_rfl) HS1.out (fun hS => ?_)
    refine nany_take 0 18 (n64 p) rfl rfl (by kernel_rfl) (by kernel_rfl) (by kernel_rfl) (fun _ _ _ h => h) (Or.inl ⟨by rfl, ?_⟩) hS ?_
    · rintro w' hS'
      obtain ⟨_, x6⟩ := hS'; go_simp
    simp only [List.setIfInBounds_toArray, List.set_cons_zero, List.set_cons_succ]
    refine nany_take 1 19 (n64 (r : Nat)) rfl rfl (by kernel_rfl) (by kernel_rfl) (by kernel_rfl) (fun _ _ _ h => h) (Or.inl ⟨by rfl, ?_⟩) hS ?_
    · rintro w' hS'
      go_simp
    simp only [List.setIfInBounds_toArray, List.set_cons_zero, List.set_cons_succ]
    refine nany_take 2 20 (n64 (q : Nat)) rfl rfl (by kernel_rfl) (by kernel_rfl) (by kernel_rfl) (fun _ _ _ h => h) (Or.inl ⟨by rfl, ?_⟩) hS ?_
    · rintro w' hS'
      go_simp
    simp only [List.setIfInBounds_toArray, List.set_cons_zero, List.set_cons_succ]
    refine nany_take 3 21 (.agg X) rfl rfl (by kernel_rfl) (by kernel_rfl) (by kernel_rfl) (fun _ _ _ h => h) (Or.inl ⟨by rfl, ?_⟩) hS ?_
    · rintro w' hS'
      exact ex_load 31 (.tmp 5) rfl b rfl 31 X (0, 0) _ hS'.1 Tryz.underlying31 (by rw [HXS.out]; exact sizeIno)
    simp only [List.setIfInBounds_toArray, List.set_cons_zero, List.set_cons_succ]
    refine nany_take 5 23 (n64 p) rfl rfl (by kernel_rfl) (by kernel_rfl) (by kernel_rfl) (fun _ _ _ h => h) (Or.inl ⟨by rfl, ?_⟩) hS ?_
    · rintro w' hS'
      obtain ⟨_, x6⟩ := hS'; go_simp
    simp only [List.setIfInBounds_toArray, List.set_cons_zero, List.set_cons_succ]
    refine nany_one 4 (by kernel_rfl) ?_
    refine nop_callE 22 (f := 35) (args := #[.agg X]) (R := fun v w' => v = n64 (L.length : Nat) ∧ Below w1.drew.heap.size w1.drew w') rfl (by rfl) rfl (by go_simp) ((places_any _ X ptr L.length HX.out HM.out).mono (fun e w' h => ⟨_, h.1, rfl, h.2⟩)) ?_
    rintro v w2 ⟨rfl, hw2⟩
    have hS : w2.heap[b]? = some (.cells X 31 (0, 0)) ∧ w2.cell? ⟨b + 1, 0, none⟩ = some (n64 p) := ⟨(hw2.block b (show b < w1.heap.size by have := HSZ.out; have := HSZ1.out; omega)).trans hS.1, cell_later hw2 hS.2⟩
    refine ⟨hS, ?_⟩
    simp only [List.setIfInBounds_toArray, List.set_cons_zero, List.set_cons_succ]
    refine nany_take 6 24 (n64 (lp : Nat)) rfl rfl (by kernel_rfl) (by kernel_rfl) (by kernel_rfl) (fun _ _ _ h => h) (Or.inl ⟨by rfl, ?_⟩) hS ?_
    · rintro w' hS'
      go_simp
    simp only [List.setIfInBounds_toArray, List.set_cons_zero, List.set_cons_succ]
    refine nany_take 7 25 (n64 (k : Nat)) rfl rfl (by kernel_rfl) (by kernel_rfl) (by kernel_rfl) (fun _ _ _ h => h) (Or.inl ⟨by rfl, ?_⟩) hS ?_
    · rintro w' hS'
      go_simp
    simp only [List.setIfInBounds_toArray, List.set_cons_zero, List.set_cons_succ]
    refine nany_take 8 9 (n64 (k : Nat)) rfl rfl (by kernel_rfl) (by kernel_rfl) (by kernel_rfl) (fun _ _ _ h => h) (Or.inl ⟨by rfl, ?_⟩) hS ?_
    · rintro w' hS'
      go_simp
    simp only [List.setIfInBounds_toArray, List.set_cons_zero, List.set_cons_succ]
    refine wpAnyH_done (by kernel_rfl) ?_ _
    refine NoPanic.normal ?_
    have HB2 := hid (below_undrew hw2)
    have HS2 := hid (show w2.drew.heap[b]? = some (.cells X 31 (0, 0)) ∧ w2.drew.cell? ⟨b + 1, 0, none⟩ = some (n64 p) from hS)
    have HSZ2 : Hid (b + 3 < w2.heap.size) := hid (Nat.lt_of_lt_of_le HSZ1.out HB2.out.size)
    have HBV2 := hid (HB1.out.trans (HB2.out.mono HB1.out.size))
    have hDV : Dw w2.drew pv S N i base T bc n P c := HD.out.keep (Nat.le_trans HSL.out.m.size HBV2.out.size) (fun g hg hl => (HBV2.out.block g (Nat.lt_of_lt_of_le hl HSL.out.m.size)).trans (HSL.out.m.block g hl (fun hz => by have := (HZ.out g hz).2; rcases hg with h | h; exact this.1 h; exact this.2 h)))
    have HRD := hid (Read_lines hDV HDD.out HX.out p k HK.out.1 HK.out.2.1 HK.out.2.2)
    clear hS hw2 hDV t1 t2 t3 t4
    go_upto_region 3 with fail
    refine wp_region_noPanic ?_
    refine wp_region_held_drew (S := fun w' => w'.heap[b]? = some (.cells X 31 (0, 0)) ∧ w'.cell? ⟨b + 1, 0, none⟩ = some (n64 p)) (by kernel_rfl) HS2.out (fun hS => ?_)
    refine nany_take 0 27 (ptrV pv) rfl rfl (by kernel_rfl) (by kernel_rfl) (by kernel_rfl) (fun _ _ _ h => h) (Or.inl ⟨by rfl, ?_⟩) hS ?_
    · rintro w' hS'
      go_simp
    simp only [List.setIfInBounds_toArray, List.set_cons_zero, List.set_cons_succ]
    refine nany_take 1 28 (.agg X) rfl rfl (by kernel_rfl) (by kernel_rfl) (by kernel_rfl) (fun _ _ _ h => h) (Or.inl ⟨by rfl, ?_⟩) hS ?_
    · rintro w' hS'
      exact ex_load 31 (.tmp 5) rfl b rfl 31 X (0, 0) _ hS'.1 Tryz.underlying31 (by rw [HXS.out]; exact sizeIno)
    simp only [List.setIfInBounds_toArray, List.set_cons_zero, List.set_cons_succ]
    refine nany_take 2 29 (n64 p) rfl rfl (by kernel_rfl) (by kernel_rfl) (by kernel_rfl) (fun _ _ _ h => h) (Or.inl ⟨by rfl, ?_⟩) hS ?_
    · rintro w' hS'
      obtain ⟨_, x6⟩ := hS'; go_simp
    simp only [List.setIfInBounds_toArray, List.set_cons_zero, List.set_cons_succ]
    refine nany_take 4 31 (n64 (k : Nat)) rfl rfl (by kernel_rfl) (by kernel_rfl) (by kernel_rfl) (fun _ _ _ h => h) (Or.inl ⟨by rfl, ?_⟩) hS ?_
    · rintro w' hS'
      go_simp
    simp only [List.setIfInBounds_toArray, List.set_cons_zero, List.set_cons_succ]
    refine nany_take 5 32 (n64 ((k * 32 : Nat) : Int)) rfl rfl (by kernel_rfl) (by kernel_rfl) (by kernel_rfl) (fun _ _ _ h => h) (Or.inl ⟨by rfl, ?_⟩) hS ?_
    · rintro w' hS'
      go_simp
    simp only [List.setIfInBounds_toArray, List.set_cons_zero, List.set_cons_succ]
    refine nany_one 3 (by kernel_rfl) ?_
    refine nop_callE 30 (f := 23) (args := #[n64 p]) (R := fun v w' => v = .int .u64 ((p * 32 : Nat) : Int) ∧ w' = w2.drew) rfl (by rfl) rfl (by go_simp) ((startOf_any _ p (by have := HM.out; omega)).mono (fun e w' h => ⟨_, h.1, rfl, h.2⟩)) ?_
    rintro v w3 ⟨rfl, hw3⟩
    rw [hw3]
    clear hw3 w3
    refine ⟨hS, ?_⟩
    simp only [List.setIfInBounds_toArray, List.set_cons_zero, List.set_cons_succ]
    refine nany_one 6 (by kernel_rfl) ?_
    refine nop_callE 33 (f := 36) (args := #[ptrV pv, .agg X, .int .u64 ((p * 32 : Nat) : Int), n64 ((k * 32 : Nat) : Int)]) (R := fun v w' => ∃ g R, v = .tuple #[.slice (some ⟨g, 0, none⟩) (k * 32) (k * 32), .nilIface] ∧ w2.heap.size ≤ g ∧ w'.heap[g]? = some (.cells (u8s R).toArray 5 (0, 0)) ∧ LinesOf R L p k ∧ Below w2.heap.size w2 w') rfl (by rfl) rfl (by go_simp) (HRD.out.mono (fun e w' h => by obtain ⟨g, R, h1, h2, h3, h4, h5⟩ := h; exact ⟨_, h1, g, R, rfl, h2, h3, h4, below_undrew h5⟩)) ?_
    rintro v w4 ⟨g, R, rfl, hg4, hh4, hl4, hb4⟩
    have hS : w4.heap[b]? = some (.cells X 31 (0, 0)) ∧ w4.cell? ⟨b + 1, 0, none⟩ = some (n64 p) := ⟨(hb4.block b (by have := HSZ2.out; omega)).trans hS.1, cell_later hb4 hS.2⟩
    refine ⟨hS, ?_⟩
    simp only [List.setIfInBounds_toArray, List.set_cons_zero, List.set_cons_succ]
    refine nany_take 7 26 (.tuple #[.slice (some ⟨g, 0, none⟩) (k * 32) (k * 32), .nilIface]) rfl rfl (by kernel_rfl) (by kernel_rfl) (by kernel_rfl) (fun _ _ _ h => h) (Or.inl ⟨by rfl, ?_⟩) hS ?_
    · rintro w' hS'
      go_simp
    simp only [List.setIfInBounds_toArray, List.set_cons_zero, List.set_cons_succ]
    refine nany_take 8 34 (.slice (some ⟨g, 0, none⟩) (k * 32) (k * 32)) rfl rfl (by kernel_rfl) (by kernel_rfl) (by kernel_rfl) (fun _ _ _ h => h) (Or.inl ⟨by rfl, ?_⟩) hS ?_
    · rintro w' hS'
      go_simp
    simp only [List.setIfInBounds_toArray, List.set_cons_zero, List.set_cons_succ]
    refine nany_take 9 35 (.nilIface) rfl rfl (by kernel_rfl) (by kernel_rfl) (by kernel_rfl) (fun _ _ _ h => h) (Or.inl ⟨by rfl, ?_⟩) hS ?_
    · rintro w' hS'
      go_simp
    simp only [List.setIfInBounds_toArray, List.set_cons_zero, List.set_cons_succ]
    refine nany_take 10 10 (.slice (some ⟨g, 0, none⟩) (k * 32) (k * 32)) rfl rfl (by kernel_rfl) (by kernel_rfl) (by kernel_rfl) (fun _ _ _ h => h) (Or.inl ⟨by rfl, ?_⟩) hS ?_
    · rintro w' hS'
      go_simp
    simp only [List.setIfInBounds_toArray, List.set_cons_zero, List.set_cons_succ]
    refine nany_take 11 11 (.nilIface) rfl rfl (by kernel_rfl) (by kernel_rfl) (by kernel_rfl) (fun _ _ _ h => h) (Or.inl ⟨by rfl, ?_⟩) hS ?_
    · rintro w' hS'
      go_simp
    simp only [List.setIfInBounds_toArray, List.set_cons_zero, List.set_cons_succ]
    refine wpAnyH_done (by kernel_rfl) ?_ _
    refine NoPanic.normal ?_
    have HB4 := hid hb4
    have HH4 := hid hh4
    have HL4 := hid hl4
    have HG4 := hid hg4
    clear hS hb4 hh4 hl4 hg4 t5
    go_wp2_with (go_at_call 71; refine (callsIn_wide.1 (Chunk_any 6 g 0 (k * 32) (k * 32) w4)).mono ?_; rintro e w5 ⟨rfl, hw5⟩; have HW5 := hid hw5; clear hw5)
    have hw5 := HW5.out
    have hBV4 : Below V.heap.size V w4 := HBV2.out.trans (HB4.out.mono HBV2.out.size)
    have hb5 : Below w4.heap.size w4 w5 := by rw [hw5]; exact ((Below.refl _ _).alloc (Nat.le_refl _) _).alloc (by simp) _
    have s5 : w5.heap.size = w4.heap.size + 2 := by rw [hw5]; simp
    have bs : Boxed w5 w4.heap.size 59 (.slice (some ⟨g, 0, none⟩) (k * 32) (k * 32)) := by rw [hw5]; exact (Boxed.new w4 59 (.slice (some ⟨g, 0, none⟩) (k * 32) (k * 32))).alloc _
    have bn : Boxed w5 (w4.heap.size + 1) 3 (.int .i64 32) := by
      rw [hw5]
      have := Boxed.new (w4.alloc (.cells #[.slice (some ⟨g, 0, none⟩) (k * 32) (k * 32)] 59)) 3 (.int .i64 32)
      rwa [World.size_alloc] at this
    have hBV5 : Below V.heap.size V w5 := hBV4.trans (hb5.mono hBV4.size)
    obtain ⟨Zs, hJs, hZs⟩ := HSL.out.j
    have hds := HSL.out.d
    have hsz := HSZ.out
    have hbw := HB.out
    have hVs : ∀ g', Zs g' → g' < V.heap.size := fun g' hg' => by obtain ⟨_, _, _, h⟩ := HS.out.cells _ _ _ hJs g' hg'; exact (Array.getElem?_eq_some_iff.1 h).1
    have hJ5 : J (seen L from_ p) Zs w5 := HS.out.keep _ _ _ _ hJs hBV5.size (fun g' hg' => hBV5.block g' (hVs g' hg'))
    have hnz : ∀ g', b ≤ g' → g' < b + 4 → ¬ Zs g' := fun g' h1 h2 h3 => by
      rcases hZs g' h3 with h | h
      · have := (HZ.out g' h).1; omega
      · omega
    have hsb5 : Sb w5 b p X (seeV Fs caps) .nilIface := HSB.out.keep (fun g' h1 h2 => hBV5.block g' (by omega))
    have hw2V : V.heap.size ≤ w2.heap.size := HBV2.out.size
    have hg5 : w5.heap[g]? = some (.cells (u8s R).toArray 5 (0, 0)) := (hb5.block g (Array.getElem?_eq_some_iff.1 HH4.out).1).trans HH4.out
    have hgz : ¬ (Zs g ∨ g = b + 1) := fun e => by
      have h1 := HG4.out
      rcases e with e | e
      · have := hVs g e; omega
      · omega
    have hpk := HK.out
    have hm96 := HM.out
    have hl0 : from_ + (seen L from_ p).length = p := seen_len hp1 (by omega)
    have HALL := hid (And.intro hBV5 (And.intro hVs (And.intro hZs hds)))
    have HSB5 := hid hsb5
    have HCZ := hid (HS.out.cells _ _ _ hJs)
    have HG5 := hid hg5
    have HGZ := hid hgz
    have HNZ := hid hnz
    have HJ5 := hid hJ5
    have HBS := hid bs
    have HBN := hid bn
    have HS5 := hid s5
    have HL0 := hid hl0
    have HP1 := hid (And.intro hp1 hpk)
    clear hBV4 hb5 bs bn hBV5 hJs hZs hds hsz hVs hJ5 hnz hsb5 hg5 hgz hpk hm96 hl0 hw5 HW5 s5 hw2V hp1 hp2
    obtain ⟨fl, hfl⟩ : ∃ fl : Nat → Ln, fl = fun j => L.getD (p + j) noLn := ⟨_, rfl⟩
    have HFL := hid hfl
    clear hfl
    refine (wpIn_wide (n := 6)).1 ?_
    refine wpIn_rangeFunc_ownG rfl (by omega) (gf := 90) (lb := #[.pointer (some ⟨w4.heap.size, 0, none⟩), .pointer (some ⟨w4.heap.size + 1, 0, none⟩)]) rfl trivial (enters_of Tryz.func90 (by kernel_rfl) rfl)
      (chunk_stops _ w4.heap.size (w4.heap.size + 1) g 0 k (k * 32) (k * 32) (Nat.mul_comm _ _) (by have := HP1.out.2; have := HM.out; omega) (Nat.le_refl _) w5 HBS.out HBN.out) (fun h h' => ⟨h'.1.trans h.1, h'.2.trans h.2⟩) ?keepb (Below.refl _ _) (fun _ => rfl)
      (fun pre W => Si w5 W J Zs b (p + pre.length) (seen L from_ p ++ pre.map (fun x => fl x.1)))
      (fun cd pre W => cd = .ret ∧ Sx w5 W Jx Zs b pe (seen L from_ p ++ pre.map (fun x => fl x.1))) ?own ?ownx ?start
      (fun x => { tmps := #[ptrV pv, .agg X, n64 from_, seeV Fs caps, undef, .pointer (some ⟨b, 0, none⟩), .pointer (some ⟨b + 1, 0, none⟩), .pointer (some ⟨b + 1 + 1, 0, none⟩), .pointer (some ⟨b + 1 + 1 + 1, 0, none⟩), n64 k, .slice (some ⟨g, 0, none⟩) (k * 32) (k * 32), .nilIface, .slice (some ⟨g, 32 * x.1, none⟩) 32 32, u 13, n64 p, .agg X, n64 L.length, .bool true, n64 p, n64 r, n64 q, .agg X, n64 L.length, n64 p, n64 lp, n64 k, .tuple #[.slice (some ⟨g, 0, none⟩) (k * 32) (k * 32), .nilIface], ptrV pv, .agg X, n64 p, .int .u64 ((p : Int) * 32), n64 k, n64 ((k : Int) * 32), .tuple #[.slice (some ⟨g, 0, none⟩) (k * 32) (k * 32), .nilIface], .slice (some ⟨g, 0, none⟩) (k * 32) (k * 32), .nilIface, .nilIface, .bool false, u 38, .slice (some ⟨g, 0, none⟩) (k * 32) (k * 32), .func (.func 90) #[] #[.pointer (some ⟨w4.heap.size, 0, none⟩), .pointer (some ⟨w4.heap.size + 1, 0, none⟩)], .slice (some ⟨g, 32 * x.1, none⟩) 32 32, u 42, u 43, u 44, u 45, u 46, u 47, u 48, u 49, u 50, u 51], defers := [] }) ?assign ?body ?done ?stop
    case keepb =>
      intro W l o o' hl _ _ _
      have := HS5.out
      have hne : ∀ j, j ≠ l → (W.putObj l o').heap[j]? = W.heap[j]? := fun j hj => by simp [World.putObj, Ne.symm hj]
      exact ⟨hne _ (by omega), hne _ (by omega)⟩
    case own =>
      rintro pre W W' row ⟨⟨Z', hj, hz⟩, hm, hf⟩ hg hr
      have hne : ∀ g', (∃ cs t f, W.heap[g']? = some (.cells cs t f)) → some g' ≠ row := fun g' ⟨cs, t, f, h⟩ e => by
        obtain ⟨_, o, ho, hno⟩ := hr g' e.symm
        rw [h] at ho; cases ho; cases hno
      have hlt' : ∀ g' cs t f, W.heap[g']? = some (.cells cs t f) → g' < W.heap.size := fun g' cs t f h => (Array.getElem?_eq_some_iff.1 h).1
      refine ⟨⟨Z', HS.out.keep _ _ _ _ hj hg.size (fun g' hg' => ?_), hz⟩, hm.grown hg (fun g' e => .inr (hr g' e).1), ?_⟩
      · obtain ⟨cs, t, f, h⟩ := HS.out.cells _ _ _ hj g' hg'
        exact hg.block g' (hlt' _ _ _ _ h) (hne g' ⟨cs, t, f, h⟩)
      · exact (hg.block _ (hlt' _ _ _ _ hf) (hne _ ⟨_, _, _, hf⟩)).trans hf
    case ownx =>
      rintro cd pre W W' row ⟨rfl, ⟨Z', hj, hz⟩, hm, hf⟩ hg hr
      have hne : ∀ g', (∃ cs t f, W.heap[g']? = some (.cells cs t f)) → some g' ≠ row := fun g' ⟨cs, t, f, h⟩ e => by
        obtain ⟨_, o, ho, hno⟩ := hr g' e.symm
        rw [h] at ho; cases ho; cases hno
      have hlt' : ∀ g' cs t f, W.heap[g']? = some (.cells cs t f) → g' < W.heap.size := fun g' cs t f h => (Array.getElem?_eq_some_iff.1 h).1
      refine ⟨rfl, ⟨Z', HS.out.keepx _ _ _ _ hj hg.size (fun g' hg' => ?_), hz⟩, hm.grown hg (fun g' e => .inr (hr g' e).1), ?_⟩
      · obtain ⟨cs, t, f, h⟩ := HS.out.cellsx _ _ _ hj g' hg'
        exact hg.block g' (hlt' _ _ _ _ h) (hne g' ⟨cs, t, f, h⟩)
      · exact (hg.block _ (hlt' _ _ _ _ hf) (hne _ ⟨_, _, _, hf⟩)).trans hf
    case start =>
      exact ⟨⟨Zs, by simpa using HJ5.out, fun g' hg' => .inl hg'⟩, Mods.refl _ _, HSB5.out.f⟩
    case assign =>
      intro l x W K hK
      gi_wp2
      exact hK
    case body =>
      rintro l pre x W ⟨⟨Z', hj, hz⟩, hm, hf⟩ hlt
      obtain ⟨qq, hqq⟩ : ∃ qq, qq = p + pre.length := ⟨_, rfl⟩
      obtain ⟨ls, hls⟩ : ∃ ls, ls = seen L from_ p ++ pre.map (fun x => fl x.1) := ⟨_, rfl⟩
      have hpk := HP1.out.2
      have hm96 := HM.out
      have hlsl : from_ + ls.length = qq := by rw [hls, List.length_append, List.length_map, hqq]; have := HL0.out; omega
      obtain ⟨xl, hxl⟩ : ∃ xl, xl = fl x.1 := ⟨_, rfl⟩
      have hfx : xl = L.getD (p + x.1) noLn := by rw [hxl, HFL.out]
      have hok : LnOk xl := by rw [hfx]; exact HDD.out.ok _ (by have := x.2; omega)
      have hnext : seen L from_ p ++ (pre ++ [x]).map (fun x => fl x.1) = ls ++ [xl] := by rw [hls, hxl]; simp
      have hqn : p + (pre ++ [x]).length = qq + 1 := by rw [hqq]; simp; omega
      rw [← hqq] at hf
      rw [← hls] at hj
      have HNX := hid (And.intro hnext hqn)
      have hs5 := HSB5.out
      have hlt5 := hs5.lt
      have hS5 := HS5.out
      have hW5 : w5.heap.size ≤ W.heap.size := hm.size
      have hgl5 := (Array.getElem?_eq_some_iff.1 HG5.out).1
      have hgW : W.heap[g]? = some (.cells (u8s R).toArray 5 (0, 0)) := (hm.block g hgl5 HGZ.out).trans HG5.out
      have hby : By W (fun _ => True) (some ⟨g, 32 * x.1, none⟩) (lineB xl) := by
        have h0 : By W (fun _ => True) (some ⟨g, 0, none⟩) R := ⟨HL4.out.isB, fun _ => ⟨g, 0, _, _, rfl, trivial, hgW, fun j hj => by rw [Nat.zero_add, List.getElem?_toArray, u8s_get hj]⟩⟩
        have := h0.cut (x.1 * 32) 32
        rw [HL4.out.line x.1 x.2, Nat.zero_add, Nat.mul_comm, ← hfx] at this
        exact this
      have hzb : ∀ g', b ≤ g' → g' < b + 4 → ¬ Z' g' := fun g' h1 h2 h3 => by
        rcases hz g' h3 with h | h
        · exact HNZ.out g' h1 h2 h
        · omega
      have hsW : W.heap[b + 2]? = some (.cells #[seeV Fs caps] 73 (0, 0)) := (hm.block (b + 2) (by omega) (fun e => by rcases e with e | e; exact HNZ.out _ (by omega) (by omega) e; omega)).trans hs5.s
      have hrW : W.heap[b + 3]? = some (.cells #[.nilIface] 36 (0, 0)) := (hm.block (b + 3) (by omega) (fun e => by rcases e with e | e; exact HNZ.out _ (by omega) (by omega) e; omega)).trans hs5.r
      have y7 : W.drew.cell? ⟨b + 1 + 1, 0, none⟩ = some (seeV Fs caps) := cell_of hsW rfl
      have y6 : W.drew.cell? ⟨b + 1, 0, none⟩ = some (n64 qq) := cell_of hf rfl
      have HDE := hid (decoded_line W.drew qq g (32 * x.1) 32 xl hok (Nat.le_refl _) hby)
      have hZW : ∀ g', Z' g' → g' < W.heap.size := fun g' hg' => by obtain ⟨_, _, _, h⟩ := HS.out.cells _ _ _ hj g' hg'; exact (Array.getElem?_eq_some_iff.1 h).1
      have HSEE := hid (fun (W2 : World) (hb : Below W.heap.size W W2) => HS.out.call ls xl Z' W2 hok (by omega) (HS.out.keep _ _ _ _ hj hb.size (fun g' hg' => hb.block g' (hZW g' hg'))))
      rw [hlsl] at HSEE
      have hcf := HS.out.cf
      have HCN : Hid (∀ k o, W.heap[k]? = some o → o.isCells = false → ¬ Z' k) := hid (fun k o ho hno hk => by
        obtain ⟨_, _, _, h⟩ := HS.out.cells _ _ _ hj k hk
        rw [h] at ho; cases ho; cases hno)
      have HZ' := hid (And.intro hz (And.intro hzb hZW))
      have HMW := hid (And.intro hm hW5)
      have HFW := hid (And.intro hf (And.intro hsW hrW))
      have HLT5 := hid (And.intro hlt5 hS5)
      have HV4 : Hid (∀ g', Zs g' → g' < w4.heap.size) := hid (fun g' hg' => by have := HALL.out.2.1 g' hg'; have := HBV2.out.size; have := HB4.out.size; omega)
      have ew : IntKind.i64.wrap ((qq : Int) + 1) = (qq : Int) + 1 := IntWalk.i64_in _ (by omega)
      clear hj hz hm hf hlt hqq hls hpk hm96 hlsl hxl hfx hok hnext hqn hs5 hlt5 hS5 hW5 hgl5 hgW hby hzb hsW hrW hZW
      gi_wp2
      refine region_in (S := fun w' => w'.cell? ⟨b + 1 + 1, 0, none⟩ = some (seeV Fs caps) ∧ w'.cell? ⟨b + 1, 0, none⟩ = some (n64 qq)) (by kernel_rfl) ?nd ?q ?_
      case nd =>
        intro o ho c
        simp only [List.mem_toArray, List.mem_cons, List.not_mem_nil, or_false] at ho
        rcases ho with rfl | rfl | rfl | rfl | rfl | rfl <;> simp
      case q =>
        rintro ⟨a', w', h⟩
        exact h
      have hS : (fun w' : World => w'.cell? ⟨b + 1 + 1, 0, none⟩ = some (seeV Fs caps) ∧ w'.cell? ⟨b + 1, 0, none⟩ = some (n64 qq)) W.drew := ⟨y7, y6⟩
      clear y7 y6
      refine nany_take 0 42 (seeV Fs caps) rfl rfl (by kernel_rfl) (by kernel_rfl) (by kernel_rfl) (fun _ _ _ h => h) (Or.inl ⟨by rfl, ?_⟩) hS ?_
      · rintro w' hS'
        obtain ⟨x7, x6⟩ := hS'; go_simp
      simp only [List.setIfInBounds_toArray, List.set_cons_zero, List.set_cons_succ]
      refine nany_take 1 43 (n64 qq) rfl rfl (by kernel_rfl) (by kernel_rfl) (by kernel_rfl) (fun _ _ _ h => h) (Or.inl ⟨by rfl, ?_⟩) hS ?_
      · rintro w' hS'
        obtain ⟨x7, x6⟩ := hS'; go_simp
      simp only [List.setIfInBounds_toArray, List.set_cons_zero, List.set_cons_succ]
      refine nany_take 2 44 (.slice (some ⟨g, 32 * x.1, none⟩) 32 32) rfl rfl (by kernel_rfl) (by kernel_rfl) (by kernel_rfl) (fun _ _ _ h => h) (Or.inl ⟨by rfl, ?_⟩) hS ?_
      · rintro w' hS'
        go_simp
      simp only [List.setIfInBounds_toArray, List.set_cons_zero, List.set_cons_succ]
      refine nany_one 3 (by kernel_rfl) ?_
      refine nop_callE 45 (f := 37) (args := #[n64 qq, .slice (some ⟨g, 32 * x.1, none⟩) 32 32]) (R := fun v w' => v = lnV qq xl ∧ Below W.heap.size W w') rfl (by rfl) rfl (by go_simp) (HDE.out.mono (fun e w' h => ⟨_, h.1, rfl, below_undrew h.2⟩)) ?_
      rintro v w6 ⟨rfl, hb6⟩
      have hS : w6.cell? ⟨b + 1 + 1, 0, none⟩ = some (seeV Fs caps) ∧ w6.cell? ⟨b + 1, 0, none⟩ = some (n64 qq) := ⟨cell_later hb6 hS.1, cell_later hb6 hS.2⟩
      refine ⟨hS, ?_⟩
      simp only [List.setIfInBounds_toArray, List.set_cons_zero, List.set_cons_succ]
      refine nany_one 4 (by kernel_rfl) ?_
      refine nop_callE 46 (f := Fs) (args := #[lnV qq xl] ++ caps) (R := fun v w' => ∃ Z7, Kp Z' w6 Z7 w' ∧ ((v = .nilIface ∧ J (ls ++ [xl]) Z7 w') ∨ (v = enoughV pe ∧ Jx (ls ++ [xl]) Z7 w'))) rfl (by rfl) rfl (by go_simp) ((HSEE.out w6 hb6).mono (fun e w' h => by obtain ⟨Z7, h1, h2⟩ := h; rcases h2 with ⟨rfl, h2⟩ | ⟨rfl, h2⟩; exact ⟨_, rfl, Z7, h1, .inl ⟨rfl, h2⟩⟩; exact ⟨_, rfl, Z7, h1, .inr ⟨rfl, h2⟩⟩)) ?_
      rintro v w7 ⟨Z7, hk7, hor⟩
      have hl6 : b + 3 < w6.heap.size := by have := HLT5.out; have := HMW.out.2; have := hb6.size; omega
      have hS : w7.cell? ⟨b + 1 + 1, 0, none⟩ = some (seeV Fs caps) ∧ w7.cell? ⟨b + 1, 0, none⟩ = some (n64 qq) := ⟨hk7.cell hS.1 (HZ'.out.2.1 _ (by omega) (by omega)), hk7.cell hS.2 (HZ'.out.2.1 _ (by omega) (by omega))⟩
      refine ⟨hS, ?_⟩
      simp only [List.setIfInBounds_toArray, List.set_cons_zero, List.set_cons_succ]
      have h7 : ∀ g', g' < W.heap.size → ¬ Z' g' → w7.heap[g']? = W.heap[g']? := fun g' h1 h2 => (hk7.block (Nat.lt_of_lt_of_le h1 hb6.size) h2).trans (hb6.block g' h1)
      have hs7 : W.heap.size ≤ w7.heap.size := Nat.le_trans hb6.size hk7.2.size
      have f7 : w7.heap[b + 1]? = some (.cells #[n64 qq] 3 (0, 0)) := (h7 _ (by have := HLT5.out; have := HMW.out.2; omega) (HZ'.out.2.1 _ (by omega) (by omega))).trans HFW.out.1
      have r7 : w7.heap[b + 3]? = some (.cells #[.nilIface] 36 (0, 0)) := (h7 _ (by have := HLT5.out; have := HMW.out.2; omega) (HZ'.out.2.1 _ (by omega) (by omega))).trans HFW.out.2.2
      have hz7 : ∀ g', Z7 g' → Zs g' ∨ w5.heap.size ≤ g' := fun g' hg' => by
        rcases hk7.1 g' hg' with h | h
        · exact HZ'.out.1 g' h
        · have := hb6.size; have := HMW.out.2; exact .inr (by omega)
      have hzb7 : ∀ g', b ≤ g' → g' < b + 4 → ¬ Z7 g' := fun g' h1 h2 h3 => by
        rcases hz7 g' h3 with h | h
        · exact HNZ.out g' h1 h2 h
        · have := HLT5.out; omega
      have hm7 : Mods (fun g' => Zs g' ∨ g' = b + 1) w5 w7 := ((HMW.out.1).below hb6).trans hk7.2 (fun g' hg' => by rcases HZ'.out.1 g' hg' with h | h; exact .inl (.inl h); exact .inr h)
      have H7 := hid (And.intro h7 (And.intro hs7 (And.intro f7 (And.intro r7 (And.intro hz7 (And.intro hzb7 hm7))))))
      have HOR := hid hor
      clear h7 hs7 f7 r7 hz7 hzb7 hm7 hk7 hb6 hor HDE HSEE hcf hl6
      rcases HOR.out with ⟨rfl, hj7⟩ | ⟨rfl, hj7⟩
      · have HJ7 := hid hj7
        clear hj7
        refine nany_take 5 13 (.nilIface) rfl rfl (by kernel_rfl) (by kernel_rfl) (by kernel_rfl) (fun _ _ _ h => h) (Or.inl ⟨by rfl, ?_⟩) hS ?_
        · rintro w' hS'
          go_simp
        simp only [List.setIfInBounds_toArray, List.set_cons_zero, List.set_cons_succ]
        refine wpAnyH_done (by kernel_rfl) ?_ _
        have x6 := hS.2
        have z6 : w7.frozen? ⟨b + 1, 0, none⟩ = false := froz_of H7.out.2.2.1 0
        clear hS
        gi_wp2
        obtain ⟨h7, hs7, f7, r7, hz7, hzb7, hm7⟩ := H7.out
        have hne : ∀ g', g' ≠ b + 1 → (w7.setCell ⟨b + 1, 0, none⟩ (.int .i64 ((qq : Int) + 1))).heap[g']? = w7.heap[g']? := fun g' h1 => Below.heap_setCell _ _ _ _ (fun e => h1 e)
        have hss : (w7.setCell ⟨b + 1, 0, none⟩ (.int .i64 ((qq : Int) + 1))).heap.size = w7.heap.size := by simp
        refine ⟨⟨by rw [hss]; exact hs7, fun k' o hk ho hno => ?_⟩, ⟨?_, ?_⟩, by show Si w5 _ J Zs b (p + (pre ++ [x]).length) (seen L from_ p ++ (pre ++ [x]).map (fun x => fl x.1)); rw [HNX.out.1, HNX.out.2]; exact ⟨⟨Z7, HS.out.keep _ _ _ _ HJ7.out (by rw [hss]; exact Nat.le_refl _) (fun g' hg' => hne g' (fun e => hzb7 g' (by omega) (by omega) hg')), hz7⟩, hm7.setCell (b + 1) 0 _ (.inr rfl), setc f7 0 _⟩⟩
        · rw [hne k' (by have := HLT5.out; omega), h7 k' (Array.getElem?_eq_some_iff.1 ho).1 (HCN.out k' o ho hno)]
          exact ho
        · have := HLT5.out; have := HMW.out.2
          rw [hne _ (by omega), h7 _ (by omega) (fun e => by rcases HZ'.out.1 _ e with h | h; have := HV4.out _ h; omega; omega)]
        · have := HLT5.out; have := HMW.out.2
          rw [hne _ (by omega), h7 _ (by omega) (fun e => by rcases HZ'.out.1 _ e with h | h; have := HV4.out _ h; omega; omega)]
      · have HJ7 := hid hj7
        clear hj7
        refine nany_take 5 13 (enoughV pe) rfl rfl (by kernel_rfl) (by kernel_rfl) (by kernel_rfl) (fun _ _ _ h => h) (Or.inl ⟨by rfl, ?_⟩) hS ?_
        · rintro w' hS'
          go_simp
        simp only [List.setIfInBounds_toArray, List.set_cons_zero, List.set_cons_succ]
        refine wpAnyH_done (by kernel_rfl) ?_ _
        have x8 : w7.cell? ⟨b + 1 + 1 + 1, 0, none⟩ = some .nilIface := cell_of H7.out.2.2.2.1 rfl
        have z8 : w7.frozen? ⟨b + 1 + 1 + 1, 0, none⟩ = false := froz_of H7.out.2.2.2.1 0
        clear hS
        gi_wp2
        obtain ⟨h7, hs7, f7, r7, hz7, hzb7, hm7⟩ := H7.out
        have hne : ∀ g', g' ≠ b + 3 → (w7.setCell ⟨b + 1 + 1 + 1, 0, none⟩ (enoughV pe)).heap[g']? = w7.heap[g']? := fun g' h1 => Below.heap_setCell _ _ _ _ (fun e => h1 e)
        have hss : (w7.setCell ⟨b + 1 + 1 + 1, 0, none⟩ (enoughV pe)).heap.size = w7.heap.size := by simp
        refine ⟨⟨by rw [hss]; exact hs7, fun k' o hk ho hno => ?_⟩, rfl, by show Sx w5 _ Jx Zs b pe (seen L from_ p ++ (pre ++ [x]).map (fun x => fl x.1)); rw [HNX.out.1]; exact ⟨⟨Z7, HS.out.keepx _ _ _ _ HJ7.out (by rw [hss]; exact Nat.le_refl _) (fun g' hg' => hne g' (fun e => hzb7 g' (by omega) (by omega) hg')), hz7⟩, (hm7.weak (fun g' hg' => .inl (by rcases hg' with h | h; exact .inl h; exact .inr (.inl h)))).setCell (b + 3) 0 _ (.inr (.inr rfl)), setc r7 0 _⟩⟩
        · rw [hne k' (by have := HLT5.out; omega), h7 k' (Array.getElem?_eq_some_iff.1 ho).1 (HCN.out k' o ho hno)]
          exact ho
    case done =>
      rintro E ys W hE rfl hI hK
      obtain ⟨⟨Z', hj, hz⟩, hm, hf⟩ := hI
      have HEND := hid (And.intro (ends_any HB.out HALL.out.2.2.1 HCZ.out HSL.out.m HALL.out.2.2.2 HALL.out.1 (by have := HSB5.out.lt; omega) hz (fun g' hg' => by rcases hg' with h | h; exact .inl h; exact .inr (by omega)) hm hK hE) (fun g' (h1 : b ≤ g') (h2 : g' < b + 4) (h3 : g' ≠ b + 1) => hm.block g' (by have := HSB5.out.lt; omega) (fun e => by rcases e with e | e; exact HNZ.out g' h1 h2 e; exact h3 e)))
      have HFE : Hid (W.heap[b + 1]? = some (.cells #[n64 ((p + k : Nat) : Int)] 3 (0, 0))) := hid (by rw [List.length_finRange] at hf; exact hf)
      have HJE : Hid (J (seen L from_ (p + k)) Z' W) := hid (by
        have e := seen_add (L := L) (a := from_) HP1.out.1 HP1.out.2.2.1 k (Nat.le_refl _)
        rw [List.take_of_length_le (by simp)] at e
        rw [HFL.out, e] at hj
        exact hj)
      clear hj hz hm hf hK
      go_wp2
      obtain ⟨⟨h1, h2, h4, h5⟩, h3⟩ := HEND.out
      have hbw := HB.out
      have hpk := HP1.out.2
      refine ⟨⟨fun z => (#[ptrV pv, .agg X, n64 from_, seeV Fs caps, undef, .pointer (some ⟨b, 0, none⟩), .pointer (some ⟨b + 1, 0, none⟩), .pointer (some ⟨b + 1 + 1, 0, none⟩), .pointer (some ⟨b + 1 + 1 + 1, 0, none⟩), n64 k, .slice (some ⟨g, 0, none⟩) (k * 32) (k * 32), .nilIface, u 12, u 13, n64 p, .agg X, n64 L.length, .bool true, n64 p, n64 r, n64 q, .agg X, n64 L.length, n64 p, n64 lp, n64 k, .tuple #[.slice (some ⟨g, 0, none⟩) (k * 32) (k * 32), .nilIface], ptrV pv, .agg X, n64 p, .int .u64 ((p : Int) * 32), n64 k, n64 ((k : Int) * 32), .tuple #[.slice (some ⟨g, 0, none⟩) (k * 32) (k * 32), .nilIface], .slice (some ⟨g, 0, none⟩) (k * 32) (k * 32), .nilIface, .nilIface, .bool false, u 38, .slice (some ⟨g, 0, none⟩) (k * 32) (k * 32), .func (.func 90) #[] #[.pointer (some ⟨w4.heap.size, 0, none⟩), .pointer (some ⟨w4.heap.size + 1, 0, none⟩)], u 41, u 42, u 43, u 44, u 45, u 46, u 47, u 48, u 49, u 50, u 51] : Array Value).getD z undef, p + k, E :: ds, rfl, by have := HP1.out.1; omega, .inl (by omega), ⟨⟨Z', HJE.out, h1⟩, h2, ⟨by rw [hbw]; exact (h3 b (by omega) (by omega) (by omega)).trans HSB5.out.x, by rw [hbw]; exact HFE.out, by rw [hbw]; exact (h3 (b + 2) (by omega) (by omega) (by omega)).trans HSB5.out.s, by rw [hbw]; exact (h3 (b + 3) (by omega) (by omega) (by omega)).trans HSB5.out.r⟩, h4, h5⟩⟩, ?_⟩
      rw [boxN_of (cell_of HFE.out rfl)]
      omega
    case stop =>
      rintro E cd pre W hE ⟨j, hjk, rfl⟩ ⟨rfl, ⟨Z', hj, hz⟩, hm, hr⟩ hK
      have hm' : Mods (fun g => Zs g ∨ g = b + 1 ∨ g = b + 3) w5 W := hm
      have HEND := hid (ends_any HB.out HALL.out.2.2.1 HCZ.out HSL.out.m HALL.out.2.2.2 HALL.out.1 (by have := HSB5.out.lt; omega) hz (fun g' hg' => by rcases hg' with h | h | h; exact .inl h; exact .inr (by omega); exact .inr (by omega)) hm hK hE)
      have HRE := hid hr
      have HJE : Hid (Jx (seen L from_ (p + j)) Z' W) := hid (by
        have e := seen_add (L := L) (a := from_) HP1.out.1 HP1.out.2.2.1 j hjk
        rw [HFL.out, e] at hj
        exact hj)
      have HJK := hid hjk
      clear hj hz hm hm' hr hK
      gi_wp2
      show LeavesInM _ _ _ _ _ _ (markL (E :: ds)) .returning _
      obtain ⟨h1, h2, h4, h5⟩ := HEND.out
      have hbw := HB.out
      have hpk := HP1.out
      have hjk := HJK.out
      have hc : W.cell? ⟨b + 1 + 1 + 1, 0, none⟩ = some (enoughV pe) := cell_of HRE.out rfl
      refine leaves_marks (E :: ds) W h4 (fun W' k1 k2 k3 k4 k5 => ⟨_, results_e rfl _ W' (b + 1 + 1 + 1) (enoughV pe) rfl ((World.cell?_of_block (k5 (b + 1 + 1 + 1) (fun e => by have := (h5 _ e).1; omega))).trans hc), Z', fun g hg => (h1 g hg).imp id (fun h => by omega), end_mods h2 (fun E' hE' => (h5 E' hE').1) k1 k2 k3 k4 k5, .inr ⟨p + j, by omega, by omega, rfl, HS.out.keepx _ _ _ _ HJE.out (by rw [k1]; exact Nat.le_refl _) (fun g' hg' => k5 g' (not_mark h4 (HS.out.cellsx _ _ _ HJE.out g' hg')))⟩⟩)
  · have hlt' : ¬ (p : Int) < (L.length : Int) := by omega
    go_upto_region 1 with fail
    refine wp_region_noPanic ?_
    refine wp_region_held_drew (S := fun w' => w'.heap[b]? = some (.cells X 31 (0, 0)) ∧ w'.cell? ⟨b + 1, 0, none⟩ = some (n64 p)) (by kernel_rfl) ⟨HSB.out.x, cell_of HSB.out.f rfl⟩ (fun hS => ?_)
    refine nany_take 0 14 (n64 p) rfl rfl (by kernel_rfl) (by kernel_rfl) (by kernel_rfl) (fun _ _ _ h => h) (Or.inl ⟨by rfl, ?_⟩) hS ?_
    · rintro w' hS'
      obtain ⟨_, x6⟩ := hS'; go_simp
    simp only [List.setIfInBounds_toArray, List.set_cons_zero, List.set_cons_succ]
    refine nany_take 1 15 (.agg X) rfl rfl (by kernel_rfl) (by kernel_rfl) (by kernel_rfl) (fun _ _ _ h => h) (Or.inl ⟨by rfl, ?_⟩) hS ?_
    · rintro w' hS'
      exact ex_load 31 (.tmp 5) rfl b rfl 31 X (0, 0) _ hS'.1 Tryz.underlying31 (by rw [HXS.out]; exact sizeIno)
    simp only [List.setIfInBounds_toArray, List.set_cons_zero, List.set_cons_succ]
    refine nany_one 2 (by kernel_rfl) ?_
    refine nop_callE 16 (f := 35) (args := #[.agg X]) (R := fun v w' => v = n64 (L.length : Nat) ∧ Below V.drew.heap.size V.drew w') rfl (by rfl) rfl (by go_simp) ((places_any _ X ptr L.length HX.out HM.out).mono (fun e w' h => ⟨_, h.1, rfl, h.2⟩)) ?_
    rintro v w1 ⟨rfl, hw1⟩
    have hS : w1.heap[b]? = some (.cells X 31 (0, 0)) ∧ w1.cell? ⟨b + 1, 0, none⟩ = some (n64 p) := ⟨(hw1.block b (show b < V.heap.size by have := HSZ.out; have := HSZ1.out; omega)).trans hS.1, cell_later hw1 hS.2⟩
    refine ⟨hS, ?_⟩
    simp only [List.setIfInBounds_toArray, List.set_cons_zero, List.set_cons_succ]
    refine nany_take 3 17 (.bool false) rfl rfl (by kernel_rfl) (by kernel_rfl) (by kernel_rfl) (fun _ _ _ h => h) (Or.inl ⟨by rfl, ?_⟩) hS ?_
    · rintro w' hS'
      go_simp
    simp only [List.setIfInBounds_toArray, List.set_cons_zero, List.set_cons_succ]
    refine wpAnyH_done (by kernel_rfl) ?_ _
    refine NoPanic.normal ?_
    have hb1 := below_undrew hw1
    have HB1 := hid hb1
    have hsb1 : Sb w1 b p X (seeV Fs caps) .nilIface := HSB.out.keep (fun g h1 h2 => hb1.block g (by have := HSZ.out; omega))
    have c8 : w1.cell? ⟨b + 1 + 1 + 1, 0, none⟩ = some .nilIface := cell_of hsb1.r rfl
    have f8 : w1.frozen? ⟨b + 1 + 1 + 1, 0, none⟩ = false := froz_of hsb1.r 0
    have HR1 := hid hsb1
    clear hS hw1 hb1 hsb1
    go_wp2
    show LeavesInM _ _ _ _ _ _ (markL ds) .returning _
    obtain ⟨Z', hJ', hZ'⟩ := HSL.out.j
    have hds := HSL.out.d
    have hB1 := HB1.out
    have hsz := HSZ.out
    have hbw := HB.out
    obtain ⟨W8, hW8⟩ : ∃ W, W = w1.setCell ⟨b + 1 + 1 + 1, 0, none⟩ .nilIface := ⟨_, rfl⟩
    rw [← hW8]
    have hk8 : ∀ g, g ≠ b + 3 → g < V.heap.size → W8.heap[g]? = V.heap[g]? := fun g h1 h2 => by
      rw [hW8, Below.heap_setCell _ _ _ _ (fun e => h1 (by omega))]
      exact hB1.block g h2
    have hs8 : V.heap.size ≤ W8.heap.size := by rw [hW8]; simpa using hB1.size
    have hc8 : W8.cell? ⟨b + 1 + 1 + 1, 0, none⟩ = some .nilIface := by rw [hW8]; exact cell_of (setc HR1.out.r 0 _) rfl
    have hmk : Marks ds W8 := ⟨hds.1.1, fun E hE => (hk8 E (by have := (hds.2 E hE).1; omega) (hds.2 E hE).2).trans (hds.1.2 E hE)⟩
    have hZ2 : ∀ g, Z' g → W8.heap[g]? = V.heap[g]? := fun g hg => hk8 g (by rcases hZ' g hg with h | h; have := (HZ.out g h).1; omega; omega) (by obtain ⟨_, _, _, h⟩ := HS.out.cells _ _ _ hJ' g hg; exact (Array.getElem?_eq_some_iff.1 h).1)
    have hJ8 : J (L.drop from_) Z' W8 := by
      have := HS.out.keep _ _ _ _ hJ' hs8 hZ2
      rwa [show seen L from_ p = L.drop from_ by unfold seen; exact List.take_of_length_le (by simp; omega)] at this
    have hm8 : Mods Z w W8 := ⟨by rw [hW8]; exact hB1.os.trans HSL.out.m.os, by rw [hW8]; exact hB1.tape.trans HSL.out.m.tape, by rw [hW8]; exact hB1.output.trans HSL.out.m.output, Nat.le_trans HSL.out.m.size hs8, fun g hg hz => (hk8 g (by omega) (Nat.lt_of_lt_of_le hg HSL.out.m.size)).trans (HSL.out.m.block g hg hz)⟩
    refine leaves_marks ds W8 hmk (fun W' h1 h2 h3 h4 h5 => ⟨_, results_e rfl _ W' (b + 1 + 1 + 1) .nilIface rfl ((World.cell?_of_block (h5 (b + 1 + 1 + 1) (fun e => by have := (hds.2 _ e).1; omega))).trans hc8), Z', fun g hg => (hZ' g hg).imp id (fun h => by omega), end_mods hm8 (fun E hE => (hds.2 E hE).1) h1 h2 h3 h4 h5, .inl ⟨rfl, HS.out.keep _ _ _ _ hJ8 (by rw [h1]; exact Nat.le_refl _) (fun g hg => h5 g (not_mark hmk (HS.out.cells _ _ _ hJ8 g hg)))⟩⟩)
end Go.Proofs.YtaplmlldmhdhoaaGreatDoor
